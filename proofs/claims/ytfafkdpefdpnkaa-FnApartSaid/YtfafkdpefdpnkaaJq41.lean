/- Points that are drawn. Tables that are drawn. MakeTable; points that are found. Copies that the call owns. The program's pools: leases cloned, a pool copied. The program's pools: a lease fits the store; the lent leases in order. -/
import Derived.Test.YtfafkdpefdpnkaaJq15
import Derived.Test.YtfafkdpefdpnkaaJq9
import Derived.Deep.DeepCutAuto
import Derived.Test.YtfafkdpefdpnkaaJq39
import Derived.Test.YtfafkdpefdpnkaaJq17
import Derived.Test.YtfafkdpefdpnkaaJq38
import Derived.Test.YtfafkdpefdpnkaaJq40
namespace Go.Proofs.Ytfafkdpefdpnkaa
section
open Go.RowKit
open Go.RowKit
open Go.RowKit
open Go.RowKit
section

theorem Cur.span0 {B : Nat} {w w' : World} {a : Addr} (h : Cur B w a) (s : Span 0 0 w w') : Cur B w' a := by
  have hlt := h.lt
  obtain ⟨g, A, n, c, i, x, rfl, hg, hh, hi, hn, hby⟩ := h
  refine ⟨g, A, n, c, i, x, rfl, hg, (s.block g hlt (by omega)).trans hh, hi, hn, fun hp => ?_⟩
  obtain ⟨b, off, rfl, hb, hc⟩ := hby hp
  refine ⟨b, off, rfl, hb, fun j hj => ?_⟩
  obtain ⟨u, u0, u1, hu⟩ := hc j hj
  exact ⟨u, u0, u1, ((s.cells (Nat.le_refl _)).1 b _ (World.block_lt_of_cell? w ⟨b, off + j, none⟩ hu)).trans hu⟩

theorem grown_span {w w' : World} {g : Nat} (h : w.grownBy w' (some g)) : Span g (g + 1) w w' :=
  ⟨h.os, h.tape, h.output, h.size, fun k hk hn => h.block k hk (fun e => hn (by injection e with e; omega))⟩

/-- A point comes back, the cursor has moved. -/
def DrawnC (p : Cx → Prop) (B : Nat) (a : Addr) (w : World) (e : Ending) (w' : World) : Prop :=
  ∃ z : Cx, e = .returned (.complex .f32 z.1 z.2) ∧ p z ∧ Cur B w' a ∧ w.grownBy w' (some a.block)

theorem fin_ofInt {n : Int} (h : n.natAbs < 16777216) : finX (floatOfInt .f32 n) := whole_lt (whole_fi h)

set_option maxHeartbeats 1000000 in
theorem l2Small_any (B : Nat) (a : Addr) (w : World) (h : Cur B w a) : Calls Try.prog 44 #[.pointer (some a)] w (DrawnC finC B a w) := by
  go_enter Try.func44, Try.ntmps44
  go_wp2_with fail
  refine (l01Below_any B a 7 w h (by omega) (by omega)).mono ?_
  rintro _ w1 ⟨r, rfl, r0, r1, hc, hb⟩
  go_wp2_with fail
  refine (l01Below_any B a 7 w1 hc (by omega) (by omega)).mono ?_
  rintro _ w2 ⟨s, rfl, s0, s1, hc2, hb2⟩
  go_wp2_with fail
  go_ret
  exact ⟨(floatOfInt .f32 (r - 3), floatOfInt .f32 (s - 3)), rfl, ⟨fin_ofInt (by omega), fin_ofInt (by omega)⟩, hc2, grown_trans hb hb2⟩

set_option maxHeartbeats 1000000 in
theorem l2Any_any (B : Nat) (a : Addr) (w : World) (h : Cur B w a) : Calls Try.prog 46 #[.pointer (some a)] w (DrawnC smallC B a w) := by
  go_enter Try.func46, Try.ntmps46
  go_wp2_with fail
  refine (l1Any_any B a w h).mono ?_
  rintro _ w1 ⟨r, rfl, hr, hc, hb⟩
  go_wp2_with fail
  refine (l1Any_any B a w1 hc).mono ?_
  rintro _ w2 ⟨s, rfl, hs, hc2, hb2⟩
  go_wp2_with fail
  go_ret
  exact ⟨(r, s), rfl, ⟨hr, hs⟩, hc2, grown_trans hb hb2⟩

/-- A finite point comes back; old memory is as it was. -/
def MakesPoint (w : World) (e : Ending) (w' : World) : Prop := ∃ z : Cx, e = .returned (.complex .f32 z.1 z.2) ∧ finC z ∧ Below w.heap.size w w'

end
section

theorem Valid.nil : Valid ([], []) := ⟨rfl, by simp, fun p hp => absurd hp (by simp), List.Pairwise.nil⟩

theorem Cur.far {B lo hi : Nat} {w w' : World} {a : Addr} (h : Cur B w a) (sp : Span lo hi w w') (hd : a.block < lo ∨ hi ≤ lo) : Cur B w' a := by
  obtain ⟨g, A, n, c, i, x, rfl, hg, hh, hi', hn, hby⟩ := h
  simp only at hd
  refine ⟨g, A, n, c, i, x, rfl, hg, (sp.block g (Array.getElem?_eq_some_iff.1 hh).1 (by omega)).trans hh, hi', hn, fun hp => ?_⟩
  obtain ⟨b, off, rfl, hb, hc⟩ := hby hp
  refine ⟨b, off, rfl, hb, fun j hj => ?_⟩
  obtain ⟨u, u0, u1, hu⟩ := hc j hj
  refine ⟨u, u0, u1, ?_⟩
  have hbl := World.block_lt_of_cell? w ⟨b, off + j, none⟩ hu
  rw [World.cell?_of_block (w := w) (a := ⟨b, off + j, none⟩) (sp.block b hbl (by omega))]
  exact hu

/-- A table that is being drawn: R is the box of the result, T that of the table, a the cursor. -/
structure Tabling (B : Nat) (a : Addr) (R T : Nat) (w : World) (t : Tab) (vP vL : Value) (wr : World) : Prop where
  cur : Cur B wr a
  r : Box R (.slice none 0 0) (.slice none 0 0) wr
  bt : Box T vP vL wr
  tab : HasTab true (T + 1) wr.heap.size wr (.agg #[vP, vL]) t
  s : Span a.block (a.block + 1) w wr
  valid : Valid t

theorem Tabling.span {B : Nat} {a : Addr} {R T : Nat} {w : World} {t : Tab} {vP vL : Value} {wr w' : World} (h : Tabling B a R T w t vP vL wr) (s : Span a.block (a.block + 1) wr w') (hc : Cur B w' a) (hR : a.block < R) (hT : a.block < T) : Tabling B a R T w t vP vL w' :=
  ⟨hc, h.r.span s (by omega), h.bt.span s (by omega), (h.tab.span s (by omega)).weak (Nat.le_refl _) (.inl s.size), h.s.trans s, h.valid⟩

theorem Tabling.cells {B : Nat} {a : Addr} {R T : Nat} {w : World} {t : Tab} {vP vL : Value} {wr : World} (h : Tabling B a R T w t vP vL wr) :
    wr.cell? ⟨T, 0, none⟩ = some vP ∧ wr.cell? ⟨T, 1, none⟩ = some vL ∧ wr.frozen? ⟨T, 0, none⟩ = false ∧ wr.frozen? ⟨T, 1, none⟩ = false ∧ wr.cell? ⟨R, 0, none⟩ = some (.slice none 0 0) ∧ wr.cell? ⟨R, 1, none⟩ = some (.slice none 0 0) ∧ wr.frozen? ⟨R, 0, none⟩ = false ∧ wr.frozen? ⟨R, 1, none⟩ = false := by
  obtain ⟨_, r0, r1, r2, r3⟩ := h.r
  obtain ⟨_, t0, t1, t2, t3⟩ := h.bt
  exact ⟨t0, t1, t2, t3, r0, r1, r2, r3⟩

/-- Another table. -/
theorem Tabling.store {B : Nat} {a : Addr} {R T : Nat} {w : World} {t u : Tab} {vP vL vP' vL' : Value} {wr : World} (h : Tabling B a R T w t vP vL wr) (hu : HasTab true (T + 1) wr.heap.size wr (.agg #[vP', vL']) u) (hv : Valid u) (hR : a.block < R) (hT : R < T) (hw : w.heap.size ≤ R) :
    Tabling B a R T w u vP' vL' ((wr.setCell ⟨T, 0, none⟩ vP').setCell ⟨T, 1, none⟩ vL') := by
  have hTl := h.bt.1
  have sp : Span T (T + 1) wr ((wr.setCell ⟨T, 0, none⟩ vP').setCell ⟨T, 1, none⟩ vL') := ((Span.refl T (T + 1) wr).setCell (p := ⟨T, 0, none⟩) (.inl ⟨Nat.le_refl _, Nat.lt_succ_self _⟩) vP').setCell (p := ⟨T, 1, none⟩) (.inl ⟨Nat.le_refl _, Nat.lt_succ_self _⟩) vL'
  have hs := box_stored (u' := vP') (v' := vL') h.bt
  refine ⟨?_, h.r.span sp (by omega), ⟨by simpa [World.setCell] using hTl, hs.1, hs.2, by rw [World.frozen?_setCell, World.frozen?_setCell]; exact h.bt.2.2.2.1, by rw [World.frozen?_setCell, World.frozen?_setCell]; exact h.bt.2.2.2.2⟩, (hu.span sp (by omega)).weak (Nat.le_refl _) (.inl sp.size), (h.s.setCell (.inr (by simp only; omega)) _).setCell (.inr (by simp only; omega)) _, hv⟩
  exact h.cur.far sp (.inl (by omega))

theorem tab_limbs {B : Nat} {a : Addr} {R T : Nat} {w : World} {t : Tab} {vP vL : Value} {wr w' : World} (h : Tabling B a R T w t vP vL wr) (hT : a.block < T) (s : Span a.block (a.block + 1) wr w') (hc : Cur B w' a) :
    w'.cell? ⟨T, 0, none⟩ = some vP ∧ w'.cell? ⟨T, 1, none⟩ = some vL ∧ Span a.block (a.block + 1) wr w' ∧ Cur B w' a := by
  obtain ⟨_, t0, t1, _⟩ := h.bt.span s (by omega)
  exact ⟨t0, t1, s, hc⟩

theorem far_limbs {B : Nat} {a : Addr} {R T : Nat} {w : World} {t : Tab} {vP vL u v : Value} {wr w' : World} {N : Nat} (h : Tabling B a R T w t vP vL wr) (hT : a.block < T) (s : Span a.block (a.block + 1) wr w') (hc : Cur B w' a) (hN : wr.heap.size ≤ N) :
    ((w'.setCell ⟨N, 0, none⟩ u).setCell ⟨N, 1, none⟩ v).cell? ⟨T, 0, none⟩ = some vP ∧ ((w'.setCell ⟨N, 0, none⟩ u).setCell ⟨N, 1, none⟩ v).cell? ⟨T, 1, none⟩ = some vL ∧
      Span a.block (a.block + 1) wr ((w'.setCell ⟨N, 0, none⟩ u).setCell ⟨N, 1, none⟩ v) ∧ Cur B ((w'.setCell ⟨N, 0, none⟩ u).setCell ⟨N, 1, none⟩ v) a := by
  have ha := h.cur.lt
  have sp : Span N (N + 1) w' ((w'.setCell ⟨N, 0, none⟩ u).setCell ⟨N, 1, none⟩ v) := ((Span.refl _ _ w').setCell (p := ⟨N, 0, none⟩) (.inl ⟨Nat.le_refl _, Nat.lt_succ_self _⟩) _).setCell (p := ⟨N, 1, none⟩) (.inl ⟨Nat.le_refl _, Nat.lt_succ_self _⟩) _
  exact tab_limbs h hT ((s.setCell (.inr hN) _).setCell (.inr hN) _) (hc.far sp (.inl (by omega)))

/-- Behind a region that has put a point: the table is as it was, the new one lies in the box N. -/
theorem Tabling.next {B : Nat} {a : Addr} {R T : Nat} {w : World} {t u : Tab} {vP vL vP' vL' : Value} {wr w' : World} {N lo hi : Nat} (h : Tabling B a R T w t vP vL wr) (hR : a.block < R) (hT : R < T) (s : Span a.block (a.block + 1) wr w') (hc : Cur B w' a) (hb : Box N (.slice none 0 0) (.slice none 0 0) w') (hN : wr.heap.size ≤ N)
    (hu : HasTab true lo hi w' (.agg #[vP', vL']) u) (hlo : wr.heap.size ≤ lo) (hn : N < lo ∨ hi ≤ N) :
    Tabling B a R T w t vP vL ((w'.setCell ⟨N, 0, none⟩ vP').setCell ⟨N, 1, none⟩ vL') ∧
      HasTab true (T + 1) ((w'.setCell ⟨N, 0, none⟩ vP').setCell ⟨N, 1, none⟩ vL').heap.size ((w'.setCell ⟨N, 0, none⟩ vP').setCell ⟨N, 1, none⟩ vL') (.agg #[vP', vL']) u ∧
      ((w'.setCell ⟨N, 0, none⟩ vP').setCell ⟨N, 1, none⟩ vL').cell? ⟨N, 0, none⟩ = some vP' ∧ ((w'.setCell ⟨N, 0, none⟩ vP').setCell ⟨N, 1, none⟩ vL').cell? ⟨N, 1, none⟩ = some vL' := by
  have sp : Span N (N + 1) w' ((w'.setCell ⟨N, 0, none⟩ vP').setCell ⟨N, 1, none⟩ vL') := ((Span.refl _ _ w').setCell (p := ⟨N, 0, none⟩) (.inl ⟨Nat.le_refl _, Nat.lt_succ_self _⟩) _).setCell (p := ⟨N, 1, none⟩) (.inl ⟨Nat.le_refl _, Nat.lt_succ_self _⟩) _
  obtain ⟨_, _, s2, c2⟩ := far_limbs (u := vP') (v := vL') h (by omega) s hc hN
  have hTl := h.bt.1
  have hw' := hb.1
  refine ⟨h.span s2 c2 hR (by omega), ?_, (box_stored hb).1, (box_stored hb).2⟩
  have h1 := hu.span sp (by omega)
  obtain ⟨b1, b2, vP, vL, e, hne, g1, g2⟩ := h1
  refine ⟨b1, b2, vP, vL, e, hne, g1.weak (by omega) (.inr (Nat.le_refl _)), g2.weak (by omega) (.inr (Nat.le_refl _))⟩

/-- What putting a point gives, one way. -/
def Puts (t : Tab) (w : World) (e : Ending) (w' : World) : Prop :=
  ∃ (u : Tab) (b : Bool) (A : Option Addr) (q : Nat) (A' : Option Addr) (q' : Nat), e = .returned (.tuple #[.agg #[.slice A u.1.length q, .slice A' u.2.length q'], .bool b]) ∧
    HasTab true w.heap.size w'.heap.size w' (.agg #[.slice A u.1.length q, .slice A' u.2.length q']) u ∧ (b = true → Valid u ∧ u.1.length ≤ t.1.length + 1) ∧ Span 0 0 w w'

/-- What the loop keeps: k points are still to come. -/
def TabLoop (B : Nat) (a : Addr) (w : World) (c : Value) (wr : World) : Prop :=
  ∃ (k : Nat) (t : Tab) (vP vL : Value), c = .int .i64 k ∧ t.1.length + k ≤ 15 ∧ Tabling B a w.heap.size (w.heap.size + 1) w t vP vL wr

/-- A drawn table comes back. -/
def DrawnT (B : Nat) (a : Addr) (w : World) (e : Ending) (w' : World) : Prop :=
  ∃ t v, e = .returned v ∧ Valid t ∧ t.1.length ≤ 15 ∧ HasTab true w.heap.size w'.heap.size w' v t ∧ Cur B w' a ∧ Span a.block (a.block + 1) w w'

end
section

/-- A table that is made. -/
def MakesTable (w : World) (e : Ending) (w' : World) : Prop :=
  ∃ t v, e = .returned v ∧ Valid t ∧ t.1.length ≤ 15 ∧ HasTab true w.heap.size w'.heap.size w' v t ∧ Below w.heap.size w w'

theorem eqC_sym {p z : Cx} (hp : finC p) (hz : finC z) : eqC z p = eqC p z := by
  rw [eqC_fin hz hp, eqC_fin hp hz]
  by_cases h : keyC z = keyC p
  · rw [decide_eq_true h, decide_eq_true h.symm]
  · rw [decide_eq_false h, decide_eq_false (fun e => h e.symm)]

/-- A label is told, or none. -/
def TellsL (r : Option Int) (w : World) (e : Ending) (w' : World) : Prop := e = .returned (.tuple #[.int .i64 (r.getD 0), .bool r.isSome]) ∧ Span 0 0 w w'

theorem labelT_at {t : Tab} (h : Valid t) {z : Cx} {i : Nat} (hi : atC t.1 z = some i) : ∃ n, t.2[i]? = some n ∧ labelT t z = some n := by
  have hl := atC_lt hi
  obtain ⟨n, hn⟩ := getElem?_some (xs := t.2) (j := i) (by rw [h.len]; exact hl)
  exact ⟨n, hn, by unfold labelT; rw [hi]; exact hn⟩

end
section

/-- A slice that the call owns. -/
def GivesO {α : Type} (e : TypeId) (val : α → Value) (xs : List α) (w : World) (en : Ending) (w' : World) : Prop :=
  ∃ A q, en = .returned (.slice A xs.length q) ∧ w'.ownsRow w.heap.size e 1 (.slice A xs.length q) xs.length (xs.map val) ∧ Span 0 0 w w'

theorem ownsRow_span {w w' : World} {B : Nat} {e : TypeId} {s : Nat} {v : Value} {n : Nat} {xs : List Value} (h : w.ownsRow B e s v n xs) (sp : Span 0 0 w w') : w'.ownsRow B e s v n xs :=
  h.kept (row := none) ⟨sp.os, sp.tape, sp.output, sp.size, fun k hk _ => sp.block k hk (by omega)⟩ (by cases v.ownBlock <;> simp)

set_option maxRecDepth 100000 in
set_option maxHeartbeats 1000000 in
theorem cloneC_own (xs : List Cx) (o : Bool) (b lo hi : Nat) (v : Value) (w : World) (hx : HasS cxV o b lo hi w v xs) (hlen : xs.length ≤ 4194304) :
    Calls Try.prog 25 #[v] w (GivesO 35 cxV xs w) := by
  have HX := Lib.hid hx
  obtain ⟨ip, hip, hzp, hsp, hbp⟩ := info_parts info_c64
  obtain ⟨A, cap, rfl, hcap, hc⟩ := hx
  obtain ⟨len, hl⟩ : ∃ len, len = xs.length := ⟨_, rfl⟩
  have HL := Lib.hid hl
  rw [← hl] at hcap hlen HX ⊢
  cases A with
  | none =>
    have h0 : len = 0 := by
      by_cases h : 0 < len
      · obtain ⟨off, e, _⟩ := hc (by omega)
        cases e
      · omega
    subst h0
    have HE : Hid (xs = []) := by cases xs with | nil => exact rfl | cons a l => simp at hl
    clear hc hl
    have hq := Lib.run_eql_slice_nil (P := Try.prog) w 23 35 none 0 cap 0 0 Try.underlying23
    go_enter Try.func25, Try.ntmps25
    go_wp2
    go_ret
    rw [HE.out]
    exact ⟨none, 0, rfl, World.ownsRow_nil _ _ _ _, Span.refl _ _ _⟩
  | some ad =>
    have HO := Lib.hid (World.ownsRow_made (base := w.heap.size) (e := 35) (size := 1) w #[] 0 (Nat.le_refl _) (Nat.zero_le _) rfl)
    have HN : Hid (∀ (o : Obj) (j : Nat) u, (xs.map cxV)[j]? = some u → (w.alloc o).cell? (ad.add j) = some u) := by
      unfold Hid
      intro o j u hj
      have hp : 0 < xs.length := by
        have := (List.getElem?_eq_some_iff.1 hj).1
        simp at this; omega
      obtain ⟨off, e, _⟩ := hc hp
      cases e
      exact HX.out.news o j u hj
    clear hc hl
    have hq := Lib.run_eql_slice_nil (P := Try.prog) w 23 35 (some ad) len cap 0 0 Try.underlying23
    go_enter Try.func25, Try.ntmps25
    go_wp2_with (at_builtin; go_loud ((refine wpList_append_own _ rfl _ _ 23 rfl w.heap.size 35 ip (.complex .f32 0 0) 1 8 Try.underlying23 hip hzp hsp hbp rfl (by decide) _ _ _ rfl HO.out ad len cap (xs.map cxV) rfl ?c1 ?c2 ?c3 ?c4 ?c5 ?c6 ?_); (case c1 => rw [List.length_map, ← HL.out, Nat.mul_one]); (case c2 => exact HN.out _); (case c3 => exact one_cells); (case c4 => unfold maxLen; omega); (case c5 => omega); (case c6 => simp); intro v1 w1 ho hgr _; rw [Nat.zero_add, List.nil_append] at ho; obtain ⟨A1, q1, rfl⟩ := ownsRow_slice ho; have HO1 := Lib.hid ho; have HG1 := Lib.hid hgr; clear ho hgr))
    go_ret
    have ho := HO1.out
    rw [HL.out] at ho
    exact ⟨A1, q1, by rw [HL.out]; rfl, ho, ((Span.refl _ _ _).alloc _).grown HG1.out (fun k hk => by have hk' : some w.heap.size = some k := hk; injection hk' with hk'; right; omega)⟩

end
end
section
open Go.RowKit

/-- Leases that the call owns. -/
def GivesLo (L : List Ls) (w : World) (en : Ending) (w' : World) : Prop :=
  ∃ A q, en = .returned (.slice A L.length q) ∧ w'.ownsRow w.heap.size 68 4 (.slice A L.length q) L.length (flat L) ∧ Span 0 0 w w'

set_option maxRecDepth 100000 in
set_option maxHeartbeats 1000000 in
theorem cloneL_own (L : List Ls) (b lo hi : Nat) (v : Value) (w : World) (hx : HasL b lo hi w v L) (hlen : L.length ≤ 4194304) :
    Calls Try.prog 38 #[v] w (GivesLo L w) := by
  have HX := Lib.hid hx
  obtain ⟨ip, hip, hzp, hsp, hbp⟩ := info_parts info_lease
  obtain ⟨A, cap, rfl, hcap, hc⟩ := hx
  obtain ⟨len, hl⟩ : ∃ len, len = L.length := ⟨_, rfl⟩
  have HL := Lib.hid hl
  rw [← hl] at hcap hlen HX ⊢
  cases A with
  | none =>
    have h0 : len = 0 := by
      by_cases h : 0 < len
      · obtain ⟨off, e, _⟩ := hc (by omega)
        cases e
      · omega
    subst h0
    have HE : Hid (L = []) := by cases L with | nil => exact rfl | cons a l => simp at hl
    clear hc hl
    have hq := Lib.run_eql_slice_nil (P := Try.prog) w 43 68 none 0 cap 0 0 Try.underlying43
    go_enter Try.func38, Try.ntmps38
    go_wp2
    go_ret
    rw [HE.out]
    exact ⟨none, 0, rfl, World.ownsRow_nil _ _ _ _, Span.refl _ _ _⟩
  | some ad =>
    have HO := Lib.hid (World.ownsRow_made (base := w.heap.size) (e := 68) (size := 4) w #[] 0 (Nat.le_refl _) (Nat.zero_le _) rfl)
    have HN : Hid (∀ (o : Obj) (j : Nat) u, (flat L)[j]? = some u → (w.alloc o).cell? (ad.add j) = some u) := by
      unfold Hid
      intro o j u hj
      exact (HX.out.span ((Span.refl 0 0 w).alloc o) (.inl (Nat.le_refl _))).newsOf.2.2 ad rfl j u hj
    clear hc hl
    have hq := Lib.run_eql_slice_nil (P := Try.prog) w 43 68 (some ad) len cap 0 0 Try.underlying43
    go_enter Try.func38, Try.ntmps38
    go_wp2_with (at_builtin; go_loud ((refine wpList_append_own _ rfl _ _ 43 rfl w.heap.size 68 ip (.agg #[.int .i64 0, .int .i64 0, .int .i64 0, .bool false]) 4 32 Try.underlying43 hip hzp hsp hbp rfl (by decide) _ _ _ rfl HO.out ad len cap (flat L) rfl ?c1 ?c2 ?c3 ?c4 ?c5 ?c6 ?_); (case c1 => rw [flat_length, ← HL.out]); (case c2 => exact HN.out _); (case c3 => exact fun u hu => flat_one' u hu); (case c4 => unfold maxLen; omega); (case c5 => omega); (case c6 => simp); intro v1 w1 ho hgr _; rw [Nat.zero_add, List.nil_append] at ho; obtain ⟨A1, q1, rfl⟩ := ownsRow_slice ho; have HO1 := Lib.hid ho; have HG1 := Lib.hid hgr; clear ho hgr))
    go_ret
    have ho := HO1.out
    rw [HL.out] at ho
    exact ⟨A1, q1, by rw [HL.out]; rfl, ho, ((Span.refl _ _ _).alloc _).grown HG1.out (fun k hk => by have hk' : some w.heap.size = some k := hk; injection hk' with hk'; right; omega)⟩
end
section
open Go.RowKit

theorem lease_eq_free (w : World) : (binOp .eql 68 (.agg #[.int .i64 0, .int .i64 0, .int .i64 0, .bool true]) (.agg #[.int .i64 0, .int .i64 0, .int .i64 0, .bool true])).run Try.prog w = .ok (.bool true) w := by
  have u3 := Try.underlying3
  have a3 := Try.isAgg3
  have z3 := Try.sizeOf3
  have u4 := Try.underlying4
  have a4 := Try.isAgg4
  have z4 := Try.sizeOf4
  have hS : Try.prog.underlying 68 = some (.struct (Try.prog.fieldsOf 68)) := by kernel_rfl
  have hp : Try.prog.stoodInHeld 68 = false := by kernel_rfl
  rw [run_eql_struct, show (10000 : Nat) = 9999 + 1 from rfl, run_equalIn_agg w 9999 68 _ _ hS hp]
  simp only [Program.fieldsOf, Try.underlying68]
  go_simp

set_option maxRecDepth 100000 in
set_option maxHeartbeats 1000000 in
theorem fitsStore_true (x : Ls) (n : Nat) (h : OkL n x) (hn : n ≤ 256) (w : World) :
    Calls Try.prog 57 #[lsV x, .int .i64 (n : Int)] w (Bool0 true w) := by
  obtain ⟨s, c, r, fr⟩ := x
  unfold lsV
  simp only
  cases fr with
  | true =>
    obtain ⟨e1, e2, e3⟩ := h.fr rfl
    simp only at e1 e2 e3
    subst e1 e2 e3
    have X := Bx.new w #[.int .i64 ((0 : Nat) : Int), .int .i64 ((0 : Nat) : Int), .int .i64 ((0 : Nat) : Int), .bool true] 68
    have cx := X.cells
    have S := Lib.hid ((Span.refl 0 0 w).alloc (.cells #[.int .i64 ((0 : Nat) : Int), .int .i64 ((0 : Nat) : Int), .int .i64 ((0 : Nat) : Int), .bool true] 68))
    have he := lease_eq_free (w.alloc (.cells #[.int .i64 0, .int .i64 0, .int .i64 0, .bool true] 68))
    clear h X
    go_enter Try.func57, Try.ntmps57
    go_wp2_with fail
    go_ret
    exact ⟨rfl, S.out⟩
  | false =>
    obtain ⟨o1, o2, o3⟩ := h.lent rfl
    simp only at o1 o2 o3
    have X := Bx.new w #[.int .i64 (s : Int), .int .i64 (c : Int), .int .i64 (r : Int), .bool false] 68
    have cx := X.cells
    have S := Lib.hid ((Span.refl 0 0 w).alloc (.cells #[.int .i64 (s : Int), .int .i64 (c : Int), .int .i64 (r : Int), .bool false] 68))
    have i1 : (1 : Int) ≤ (r : Int) := by omega
    have i2 : (c : Int) ≤ (r : Int) := by omega
    have i3 : (r : Int) ≤ wrap64 ((n : Int) - (s : Int)) := by rw [IntWalk.wrap64_in _ (by omega)]; omega
    clear h X o1 o2 o3
    go_enter Try.func57, Try.ntmps57
    go_wp2_with fail
    go_ret
    exact ⟨rfl, S.out⟩
end
end Go.Proofs.Ytfafkdpefdpnkaa
