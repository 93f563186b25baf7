/- Points that are drawn. Tables that are drawn. MakeTable; points that are found. Copies that the call owns. -/
import Derived.Test.YtfafkdpefdpnkaaGreatJq45
import Derived.Test.YtfafkdpefdpnkaaGreatJq16
import Derived.Deep.DeepCutAuto
namespace Go.Proofs.YtfafkdpefdpnkaaGreat
section
open Go.RowKit

theorem Cur.span0 {B : Nat} {w w' : World} {a : Addr} (h : Cur B w a) (s : Span 0 0 w w') : Cur B w' a := by
  have hlt := h.lt
  obtain ⟨g, A, n, c, i, x, rfl, hg, hh, hi, hn, hby⟩ := h
  refine ⟨g, A, n, c, i, x, rfl, hg, (s.block g hlt (by omega)).trans hh, hi, hn, fun hp => ?_⟩
  obtain ⟨b, off, rfl, hb, hc⟩ := hby hp
  refine ⟨b, off, rfl, hb, fun j hj => ?_⟩
  obtain ⟨u, u0, u1, hu⟩ := hc j hj
  exact ⟨u, u0, u1, ((s.cells (Nat.le_refl _)).1 b _ (World.block_lt_of_cell? w ⟨b, off + j, none⟩ hu)).trans hu⟩

theorem grown_span {w w' : World} {g : Nat} (h : w.grownBy w' (some g)) : Span g (g + 1) w w' :=
  ⟨h.os, h.tape, h.output, h.size, fun k hk hn => h.block k hk (fun e => hn (by injection e with e; omega))⟩

/-- A point comes back, the cursor has moved. -/
def DrawnC (p : Cx → Prop) (B : Nat) (a : Addr) (w : World) (e : Ending) (w' : World) : Prop :=
  ∃ z : Cx, e = .returned (.complex .f32 z.1 z.2) ∧ p z ∧ Cur B w' a ∧ w.grownBy w' (some a.block)

theorem fin_ofInt {n : Int} (h : n.natAbs < 16777216) : finX (floatOfInt .f32 n) := whole_lt (whole_fi h)

set_option maxHeartbeats 1000000 in
theorem l2Small_any (B : Nat) (a : Addr) (w : World) (h : Cur B w a) : Calls Tryz.prog 25 #[.pointer (some a)] w (DrawnC finC B a w) := by
  go_enter Tryz.func25, Tryz.ntmps25
  go_wp2_with fail
  refine (l01Below_any B a 7 w h (by omega) (by omega)).mono ?_
  rintro _ w1 ⟨r, rfl, r0, r1, hc, hb⟩
  go_wp2_with fail
  refine (l01Below_any B a 7 w1 hc (by omega) (by omega)).mono ?_
  rintro _ w2 ⟨s, rfl, s0, s1, hc2, hb2⟩
  go_wp2_with fail
  go_ret
  exact ⟨(floatOfInt .f32 (r - 3), floatOfInt .f32 (s - 3)), rfl, ⟨fin_ofInt (by omega), fin_ofInt (by omega)⟩, hc2, grown_trans hb hb2⟩

set_option maxHeartbeats 1000000 in
theorem l2Any_any (B : Nat) (a : Addr) (w : World) (h : Cur B w a) : Calls Tryz.prog 26 #[.pointer (some a)] w (DrawnC smallC B a w) := by
  go_enter Tryz.func26, Tryz.ntmps26
  go_wp2_with fail
  refine (l1Any_any B a w h).mono ?_
  rintro _ w1 ⟨r, rfl, hr, hc, hb⟩
  go_wp2_with fail
  refine (l1Any_any B a w1 hc).mono ?_
  rintro _ w2 ⟨s, rfl, hs, hc2, hb2⟩
  go_wp2_with fail
  go_ret
  exact ⟨(r, s), rfl, ⟨hr, hs⟩, hc2, grown_trans hb hb2⟩

/-- A finite point comes back; old memory is as it was. -/
def MakesPoint (w : World) (e : Ending) (w' : World) : Prop := ∃ z : Cx, e = .returned (.complex .f32 z.1 z.2) ∧ finC z ∧ Below w.heap.size w w'

end
section
open Go.RowKit

theorem Valid.nil : Valid ([], []) := ⟨rfl, by simp, fun p hp => absurd hp (by simp), List.Pairwise.nil⟩

theorem Cur.far {B lo hi : Nat} {w w' : World} {a : Addr} (h : Cur B w a) (sp : Span lo hi w w') (hd : a.block < lo ∨ hi ≤ lo) : Cur B w' a := by
  obtain ⟨g, A, n, c, i, x, rfl, hg, hh, hi', hn, hby⟩ := h
  simp only at hd
  refine ⟨g, A, n, c, i, x, rfl, hg, (sp.block g (Array.getElem?_eq_some_iff.1 hh).1 (by omega)).trans hh, hi', hn, fun hp => ?_⟩
  obtain ⟨b, off, rfl, hb, hc⟩ := hby hp
  refine ⟨b, off, rfl, hb, fun j hj => ?_⟩
  obtain ⟨u, u0, u1, hu⟩ := hc j hj
  refine ⟨u, u0, u1, ?_⟩
  have hbl := World.block_lt_of_cell? w ⟨b, off + j, none⟩ hu
  rw [World.cell?_of_block (w := w) (a := ⟨b, off + j, none⟩) (sp.block b hbl (by omega))]
  exact hu

/-- A table that is being drawn: R is the box of the result, T that of the table, a the cursor. -/
structure Tabling (B : Nat) (a : Addr) (R T : Nat) (w : World) (t : Tab) (vP vL : Value) (wr : World) : Prop where
  cur : Cur B wr a
  r : Box R (.slice none 0 0) (.slice none 0 0) wr
  bt : Box T vP vL wr
  tab : HasTab true (T + 1) wr.heap.size wr (.agg #[vP, vL]) t
  s : Span a.block (a.block + 1) w wr
  valid : Valid t

theorem Tabling.span {B : Nat} {a : Addr} {R T : Nat} {w : World} {t : Tab} {vP vL : Value} {wr w' : World} (h : Tabling B a R T w t vP vL wr) (s : Span a.block (a.block + 1) wr w') (hc : Cur B w' a) (hR : a.block < R) (hT : a.block < T) : Tabling B a R T w t vP vL w' :=
  ⟨hc, h.r.span s (by omega), h.bt.span s (by omega), (h.tab.span s (by omega)).weak (Nat.le_refl _) (.inl s.size), h.s.trans s, h.valid⟩

theorem Tabling.cells {B : Nat} {a : Addr} {R T : Nat} {w : World} {t : Tab} {vP vL : Value} {wr : World} (h : Tabling B a R T w t vP vL wr) :
    wr.cell? ⟨T, 0, none⟩ = some vP ∧ wr.cell? ⟨T, 1, none⟩ = some vL ∧ wr.frozen? ⟨T, 0, none⟩ = false ∧ wr.frozen? ⟨T, 1, none⟩ = false ∧ wr.cell? ⟨R, 0, none⟩ = some (.slice none 0 0) ∧ wr.cell? ⟨R, 1, none⟩ = some (.slice none 0 0) ∧ wr.frozen? ⟨R, 0, none⟩ = false ∧ wr.frozen? ⟨R, 1, none⟩ = false := by
  obtain ⟨_, r0, r1, r2, r3⟩ := h.r
  obtain ⟨_, t0, t1, t2, t3⟩ := h.bt
  exact ⟨t0, t1, t2, t3, r0, r1, r2, r3⟩

/-- Another table. -/
theorem Tabling.store {B : Nat} {a : Addr} {R T : Nat} {w : World} {t u : Tab} {vP vL vP' vL' : Value} {wr : World} (h : Tabling B a R T w t vP vL wr) (hu : HasTab true (T + 1) wr.heap.size wr (.agg #[vP', vL']) u) (hv : Valid u) (hR : a.block < R) (hT : R < T) (hw : w.heap.size ≤ R) :
    Tabling B a R T w u vP' vL' ((wr.setCell ⟨T, 0, none⟩ vP').setCell ⟨T, 1, none⟩ vL') := by
  have hTl := h.bt.1
  have sp : Span T (T + 1) wr ((wr.setCell ⟨T, 0, none⟩ vP').setCell ⟨T, 1, none⟩ vL') := ((Span.refl T (T + 1) wr).setCell (p := ⟨T, 0, none⟩) (.inl ⟨Nat.le_refl _, Nat.lt_succ_self _⟩) vP').setCell (p := ⟨T, 1, none⟩) (.inl ⟨Nat.le_refl _, Nat.lt_succ_self _⟩) vL'
  have hs := box_stored (u' := vP') (v' := vL') h.bt
  refine ⟨?_, h.r.span sp (by omega), ⟨by simpa [World.setCell] using hTl, hs.1, hs.2, by rw [World.frozen?_setCell, World.frozen?_setCell]; exact h.bt.2.2.2.1, by rw [World.frozen?_setCell, World.frozen?_setCell]; exact h.bt.2.2.2.2⟩, (hu.span sp (by omega)).weak (Nat.le_refl _) (.inl sp.size), (h.s.setCell (.inr (by simp only; omega)) _).setCell (.inr (by simp only; omega)) _, hv⟩
  exact h.cur.far sp (.inl (by omega))

theorem tab_limbs {B : Nat} {a : Addr} {R T : Nat} {w : World} {t : Tab} {vP vL : Value} {wr w' : World} (h : Tabling B a R T w t vP vL wr) (hT : a.block < T) (s : Span a.block (a.block + 1) wr w') (hc : Cur B w' a) :
    w'.cell? ⟨T, 0, none⟩ = some vP ∧ w'.cell? ⟨T, 1, none⟩ = some vL ∧ Span a.block (a.block + 1) wr w' ∧ Cur B w' a := by
  obtain ⟨_, t0, t1, _⟩ := h.bt.span s (by omega)
  exact ⟨t0, t1, s, hc⟩

theorem far_limbs {B : Nat} {a : Addr} {R T : Nat} {w : World} {t : Tab} {vP vL u v : Value} {wr w' : World} {N : Nat} (h : Tabling B a R T w t vP vL wr) (hT : a.block < T) (s : Span a.block (a.block + 1) wr w') (hc : Cur B w' a) (hN : wr.heap.size ≤ N) :
    ((w'.setCell ⟨N, 0, none⟩ u).setCell ⟨N, 1, none⟩ v).cell? ⟨T, 0, none⟩ = some vP ∧ ((w'.setCell ⟨N, 0, none⟩ u).setCell ⟨N, 1, none⟩ v).cell? ⟨T, 1, none⟩ = some vL ∧
      Span a.block (a.block + 1) wr ((w'.setCell ⟨N, 0, none⟩ u).setCell ⟨N, 1, none⟩ v) ∧ Cur B ((w'.setCell ⟨N, 0, none⟩ u).setCell ⟨N, 1, none⟩ v) a := by
  have ha := h.cur.lt
  have sp : Span N (N + 1) w' ((w'.setCell ⟨N, 0, none⟩ u).setCell ⟨N, 1, none⟩ v) := ((Span.refl _ _ w').setCell (p := ⟨N, 0, none⟩) (.inl ⟨Nat.le_refl _, Nat.lt_succ_self _⟩) _).setCell (p := ⟨N, 1, none⟩) (.inl ⟨Nat.le_refl _, Nat.lt_succ_self _⟩) _
  exact tab_limbs h hT ((s.setCell (.inr hN) _).setCell (.inr hN) _) (hc.far sp (.inl (by omega)))

/-- Behind a region that has put a point: the table is as it was, the new one lies in the box N. -/
theorem Tabling.next {B : Nat} {a : Addr} {R T : Nat} {w : World} {t u : Tab} {vP vL vP' vL' : Value} {wr w' : World} {N lo hi : Nat} (h : Tabling B a R T w t vP vL wr) (hR : a.block < R) (hT : R < T) (s : Span a.block (a.block + 1) wr w') (hc : Cur B w' a) (hb : Box N (.slice none 0 0) (.slice none 0 0) w') (hN : wr.heap.size ≤ N)
    (hu : HasTab true lo hi w' (.agg #[vP', vL']) u) (hlo : wr.heap.size ≤ lo) (hn : N < lo ∨ hi ≤ N) :
    Tabling B a R T w t vP vL ((w'.setCell ⟨N, 0, none⟩ vP').setCell ⟨N, 1, none⟩ vL') ∧
      HasTab true (T + 1) ((w'.setCell ⟨N, 0, none⟩ vP').setCell ⟨N, 1, none⟩ vL').heap.size ((w'.setCell ⟨N, 0, none⟩ vP').setCell ⟨N, 1, none⟩ vL') (.agg #[vP', vL']) u ∧
      ((w'.setCell ⟨N, 0, none⟩ vP').setCell ⟨N, 1, none⟩ vL').cell? ⟨N, 0, none⟩ = some vP' ∧ ((w'.setCell ⟨N, 0, none⟩ vP').setCell ⟨N, 1, none⟩ vL').cell? ⟨N, 1, none⟩ = some vL' := by
  have sp : Span N (N + 1) w' ((w'.setCell ⟨N, 0, none⟩ vP').setCell ⟨N, 1, none⟩ vL') := ((Span.refl _ _ w').setCell (p := ⟨N, 0, none⟩) (.inl ⟨Nat.le_refl _, Nat.lt_succ_self _⟩) _).setCell (p := ⟨N, 1, none⟩) (.inl ⟨Nat.le_refl _, Nat.lt_succ_self _⟩) _
  obtain ⟨_, _, s2, c2⟩ := far_limbs (u := vP') (v := vL') h (by omega) s hc hN
  have hTl := h.bt.1
  have hw' := hb.1
  refine ⟨h.span s2 c2 hR (by omega), ?_, (box_stored hb).1, (box_stored hb).2⟩
  have h1 := hu.span sp (by omega)
  obtain ⟨b1, b2, vP, vL, e, hne, g1, g2⟩ := h1
  refine ⟨b1, b2, vP, vL, e, hne, g1.weak (by omega) (.inr (Nat.le_refl _)), g2.weak (by omega) (.inr (Nat.le_refl _))⟩

/-- What putting a point gives, one way. -/
def Puts (t : Tab) (w : World) (e : Ending) (w' : World) : Prop :=
  ∃ (u : Tab) (b : Bool) (A : Option Addr) (q : Nat) (A' : Option Addr) (q' : Nat), e = .returned (.tuple #[.agg #[.slice A u.1.length q, .slice A' u.2.length q'], .bool b]) ∧
    HasTab true w.heap.size w'.heap.size w' (.agg #[.slice A u.1.length q, .slice A' u.2.length q']) u ∧ (b = true → Valid u ∧ u.1.length ≤ t.1.length + 1) ∧ Span 0 0 w w'

theorem spec_putPoint_one (t : Tab) (z : Cx) (n : Int) (o : Bool) (lo hi : Nat) (v : Value) (w : World) (hx : HasTab o lo hi w v t) (ht : Valid t) (hl : t.1.length < 64) (hz : smallC z) :
    Calls Tryz.prog 27 #[v, .complex .f32 z.1 z.2, .int .i64 n] w (Puts t w) := by
  refine (spec_putPoint t z n o lo hi v w hx ht hl hz).mono ?_
  intro e w' h
  obtain ⟨v', rfl, h1, h2⟩ := h.plain
  obtain ⟨A, q, A', q', rfl⟩ := h1.form
  refine ⟨_, _, A, q, A', q', rfl, h1, fun hb => ?_, h2⟩
  cases hp : putT t z n with
  | none => rw [hp] at hb; cases hb
  | some u =>
    obtain ⟨g1, _, g3⟩ := ht.put hz hl hp
    exact ⟨g1, g3⟩

/-- What the loop keeps: k points are still to come. -/
def TabLoop (B : Nat) (a : Addr) (w : World) (c : Value) (wr : World) : Prop :=
  ∃ (k : Nat) (t : Tab) (vP vL : Value), c = .int .i64 k ∧ t.1.length + k ≤ 15 ∧ Tabling B a w.heap.size (w.heap.size + 1) w t vP vL wr

/-- A drawn table comes back. -/
def DrawnT (B : Nat) (a : Addr) (w : World) (e : Ending) (w' : World) : Prop :=
  ∃ t v, e = .returned v ∧ Valid t ∧ t.1.length ≤ 15 ∧ HasTab true w.heap.size w'.heap.size w' v t ∧ Cur B w' a ∧ Span a.block (a.block + 1) w w'

set_option maxRecDepth 100000 in
set_option maxHeartbeats 4000000 in
theorem l2Table_any (B : Nat) (a : Addr) (w : World) (h : Cur B w a) : Calls Tryz.prog 13 #[.pointer (some a)] w (DrawnT B a w) := by
  have hal := h.lt
  have HT0 : Hid (Tabling B a w.heap.size (w.heap.size + 1) w ([], []) (.slice none 0 0) (.slice none 0 0)
      ((w.alloc (.cells #[.slice none 0 0, .slice none 0 0] 26)).alloc (.cells #[.slice none 0 0, .slice none 0 0] 26))) := by
    have X1 := Box.new (w.alloc (.cells #[.slice none 0 0, .slice none 0 0] 26)) (.slice none 0 0) (.slice none 0 0) 26
    rw [show (w.alloc (.cells #[.slice none 0 0, .slice none 0 0] 26)).heap.size = w.heap.size + 1 by simp] at X1
    exact ⟨(h.alloc _).alloc _, (Box.new w _ _ _).alloc _, X1, HasTab.none_ _ _ _ _, ((Span.refl _ _ w).alloc _).alloc _, Valid.nil⟩
  go_enter Tryz.func13, Tryz.ntmps13
  go_wp2_with fail
  refine (l01Once_any B a 4 _ HT0.out.cur (by omega) (by omega)).mono ?_
  rintro _ w1 ⟨o1, rfl, hc1, hg1⟩
  have HT1 := Lib.hid (HT0.out.span (grown_span hg1) hc1 hal (by omega))
  have HAL := Lib.hid hal
  clear HT0 hc1 hg1 h
  go_upto_if 10 with fail
  go_cut [] (fun wx => ∃ t vP vL, t.1.length ≤ 9 ∧ Tabling B a w.heap.size (w.heap.size + 1) w t vP vL wx)
  case first =>
    cases o1 with
    | false =>
      go_wp2_with fail
      go_meet
      exact ⟨_, _, _, by simp, HT1.out⟩
    | true =>
      go_wp2_with fail
      refine (l01Below_any B a 3 _ HT1.out.cur (by omega) (by omega)).mono ?_
      rintro _ w2 ⟨r, rfl, r0, r1, hc2, hg2⟩
      have HT2 := Lib.hid (HT1.out.span (grown_span hg2) hc2 HAL.out (Nat.lt_succ_of_lt HAL.out))
      clear hc2 hg2
      go_wp2_with fail
      have e : gridO (1 + r) = some (gridT (1 + r).toNat) := by unfold gridO; rw [if_pos (by omega)]
      have HN : Hid (1 ≤ (1 + r).toNat ∧ (1 + r).toNat ≤ 3) := ⟨by omega, by omega⟩
      have C := fun w => spec_gridTable (1 + r) w
      simp only [e] at C
      have HC := Lib.hid C
      generalize (1 + r).toNat = n at *
      clear C e
      refine (HC.out _).mono ?_
      rintro _ w3 ⟨⟨v, rfl, htab⟩, s3⟩
      obtain ⟨A, q, A', q', rfl⟩ := htab.form
      have HT3 := Lib.hid (HT2.out.span (s3.wid0 _ _) (HT2.out.cur.span0 s3) HAL.out (Nat.lt_succ_of_lt HAL.out))
      have hz := HT2.out.bt.1
      have HT4 := Lib.hid (HT3.out.store (htab.weak (by omega) (.inl (Nat.le_refl _))) (grid_valid (by have := HN.out.2; omega) HN.out.1) HAL.out (Nat.lt_succ_self _) (Nat.le_refl _))
      have HL : Hid ((gridT n).1.length ≤ 9) := by
        have h3 : n * n ≤ 3 * 3 := Nat.mul_le_mul HN.out.2 HN.out.2
        show (gridP n (n * n)).length ≤ 9
        rw [gridP_length]; exact h3
      obtain ⟨c0, c1, c2, c3, _⟩ := HT3.out.cells
      clear hz htab s3
      go_wp2_with fail
      go_meet
      exact ⟨_, _, _, HL.out, HT4.out⟩
  case rest =>
    obtain ⟨t, vP, vL, ht, HT⟩ := hcut
    have HT2 := Lib.hid HT
    clear HT HT1
    go_wp2_with fail
    refine (l01Below_any B a 7 _ HT2.out.cur (by omega) (by omega)).mono ?_
    rintro _ w2 ⟨r, rfl, r0, r1, hc2, hg2⟩
    have HT3 := Lib.hid (HT2.out.span (grown_span hg2) hc2 HAL.out (Nat.lt_succ_of_lt HAL.out))
    obtain ⟨k, rfl⟩ := Int.eq_ofNat_of_zero_le r0
    have HK : Hid (t.1.length + k ≤ 15) := by unfold Hid; omega
    clear HT2 hc2 hg2 r0 r1 ht
    go_wp2_with fail
    go_loopw [4] (fun c wr => TabLoop B a w c wr) (fun c _ => (intOf c).toNat)
    case atStart => exact ⟨k, t, vP, vL, rfl, HK.out, HT3.out⟩
    case round =>
      clear HT3 HK t vP vL
      obtain ⟨k, t, vP, vL, rfl, hk, ht⟩ := hrel
      obtain ⟨A, q, A', q', e⟩ := ht.tab.form
      simp only [Value.agg.injEq, Array.mk.injEq, List.cons.injEq, and_true] at e
      obtain ⟨rfl, rfl⟩ := e
      have HT := Lib.hid ht
      clear ht
      by_cases h0 : k = 0
      · subst h0
        obtain ⟨c0, c1, c2, c3, c4, c5, c6, c7⟩ := HT.out.cells
        have HB := Lib.hid (box_stored (u' := .slice A t.1.length q) (v' := .slice A' t.2.length q') HT.out.r)
        have sp : Span w.heap.size (w.heap.size + 1) wr ((wr.setCell ⟨w.heap.size, 0, none⟩ (.slice A t.1.length q)).setCell ⟨w.heap.size, 1, none⟩ (.slice A' t.2.length q')) := ((Span.refl _ _ wr).setCell (p := ⟨w.heap.size, 0, none⟩) (.inl ⟨Nat.le_refl _, Nat.lt_succ_self _⟩) _).setCell (p := ⟨w.heap.size, 1, none⟩) (.inl ⟨Nat.le_refl _, Nat.lt_succ_self _⟩) _
        have HTab := Lib.hid (((HT.out.tab.span sp (.inr (.inr (Nat.le_succ _)))).weak (lo' := w.heap.size) (by omega) (.inl sp.size)))
        have HSp := Lib.hid ((HT.out.s.setCell (p := ⟨w.heap.size, 0, none⟩) (.inr (Nat.le_refl _)) (.slice A t.1.length q)).setCell (p := ⟨w.heap.size, 1, none⟩) (.inr (Nat.le_refl _)) (.slice A' t.2.length q'))
        have HC := Lib.hid (HT.out.cur.far sp (.inl HAL.out))
        have HV := Lib.hid HT.out.valid
        have HK : Hid (t.1.length ≤ 15) := by unfold Hid; omega
        clear sp
        go_wp2_with fail
        exact bodyPost_ret (v := .agg #[.slice A t.1.length q, .slice A' t.2.length q']) (by simp [results, Tryz.results13, go_sem, HB.out.1, HB.out.2]) rfl ⟨t, _, rfl, HV.out, HK.out, HTab.out, HC.out, HSp.out⟩
      · have k0 : (0 : Int) < (k : Int) := by omega
        have k1 : (k : Int) ≤ 15 := by omega
        have HK : Hid (t.1.length + k ≤ 15) := hk
        have HK0 : Hid (1 ≤ k) := by unfold Hid; omega
        clear hk h0
        go_wp2_with fail
        refine (l2Small_any B a _ HT.out.cur).mono ?_
        rintro _ w3 ⟨⟨z1, z2⟩, rfl, hz, hc3, hg3⟩
        have HT4 := Lib.hid (HT.out.span (grown_span hg3) hc3 HAL.out (Nat.lt_succ_of_lt HAL.out))
        have HZ : Hid (smallC (z1, z2)) := ⟨hz.1.1, hz.2.1⟩
        clear HT hc3 hg3 hz
        go_wp2_with fail
        refine (l01Once_any B a 6 _ HT4.out.cur (by omega) (by omega)).mono ?_
        rintro _ w4 ⟨o2, rfl, hc4, hg4⟩
        have HT5 := Lib.hid (HT4.out.span (grown_span hg4) hc4 HAL.out (Nat.lt_succ_of_lt HAL.out))
        clear HT4 hc4 hg4
        go_upto_if 27 with fail
        go_cut [5] (fun s5 wx => ∃ z : Cx, s5 = .complex .f32 z.1 z.2 ∧ smallC z ∧ Tabling B a w.heap.size (w.heap.size + 1) w t (.slice A t.1.length q) (.slice A' t.2.length q') wx)
        case first =>
          cases o2 with
          | false =>
            go_wp2_with fail
            go_meet
            exact ⟨_, rfl, HZ.out, HT5.out⟩
          | true =>
            go_wp2_with fail
            refine (l2Any_any B a _ HT5.out.cur).mono ?_
            rintro _ w5 ⟨⟨y1, y2⟩, rfl, hy, hc5, hg5⟩
            have HT6 := Lib.hid (HT5.out.span (grown_span hg5) hc5 HAL.out (Nat.lt_succ_of_lt HAL.out))
            have HY := Lib.hid hy
            clear HT5 hc5 hg5 hy
            go_wp2_with fail
            go_meet
            exact ⟨_, rfl, HY.out, HT6.out⟩
        case rest =>
          clear HT5 HZ z1 z2
          obtain ⟨⟨z1, z2⟩, rfl, hz, ht⟩ := hcut
          have HT := Lib.hid ht
          have HZ := Lib.hid hz
          clear ht hz
          have HKT : Hid (t.1.length < 64) := by unfold Hid; have := HK.out; omega
          obtain ⟨c0, c1, _⟩ := HT.out.cells
          obtain ⟨T, hT⟩ : ∃ T, T = w.heap.size + 1 := ⟨_, rfl⟩
          rw [← hT] at HT c0 c1 ⊢
          have HTE := Lib.hid hT
          have HAT : Hid (a.block < T) := by have := HAL.out; unfold Hid; omega
          have HT1' : Hid (w.heap.size < T) := by unfold Hid; omega
          have HT2' : Hid (T < wc.heap.size) := HT.out.bt.1
          clear hT
          have HTab := Lib.hid HT.out.tab
          have HV := Lib.hid HT.out.valid
          simp only
          go_upto_region 10 with fail
          go_cut [6, 7] (fun s6 s7 wx => ∃ (N : Nat) (u : Tab) (b : Bool) (A7 : Option Addr) (q7 : Nat) (A8 : Option Addr) (q8 : Nat), s6 = .pointer (some ⟨N, 0, none⟩) ∧ s7 = .bool b ∧ (b = true → Valid u ∧ u.1.length ≤ t.1.length + 1) ∧
            Tabling B a w.heap.size T w t (.slice A t.1.length q) (.slice A' t.2.length q') wx ∧ HasTab true (T + 1) wx.heap.size wx (.agg #[.slice A7 u.1.length q7, .slice A8 u.2.length q8]) u ∧
            wx.cell? ⟨N, 0, none⟩ = some (.slice A7 u.1.length q7) ∧ wx.cell? ⟨N, 1, none⟩ = some (.slice A8 u.2.length q8))
          case first =>
            go_wp2_with fail
            go_region_held3 (fun w' => w'.cell? ⟨T, 0, none⟩ = some (.slice A t.1.length q) ∧ w'.cell? ⟨T, 1, none⟩ = some (.slice A' t.2.length q') ∧ Span a.block (a.block + 1) wc w' ∧ Cur B w' a)
              (first
                | exact tab_limbs HT.out HAT.out (Span.refl _ _ wc).drew HT.out.cur
                | (go_split_ands; exact tab_limbs HT.out HAT.out (Span.alloc (by assumption) _) (Cur.alloc (by assumption) _))
                | exact tab_limbs HT.out HAT.out sp6 hc6
                | exact tab_limbs HT.out HAT.out sp7 hc7
                | (go_split_ands; exact far_limbs HT.out HAT.out (by assumption) (by assumption) (by first | exact Nat.le_refl _ | exact sp6.size | exact sp7.size)))
              ((go_split_ands
                first
                | (go_at_call 24; (with_reducible refine (l01Below_any B a 6 _ (by assumption) (by omega) (by omega)).mono ?_); rintro _ w6 ⟨r, rfl, r0, r1, hc6, hg6⟩; have sp6 := Span.trans (by assumption) (grown_span hg6))
                | (go_at_call 27; (with_reducible refine (spec_putPoint_one t (z1, z2) _ true (T + 1) wc.heap.size _ _ ?htab HV.out HKT.out HZ.out).mono ?_); (case htab => exact HTab.out.span (by assumption) (.inr (.inr (Nat.le_succ_of_le HAT.out)))); rintro _ w7 ⟨u, b7, A7, q7, A8, q8, rfl, ht7, hb7, s7⟩; have sp7 := Span.trans (by assumption) (s7.wid0 a.block (a.block + 1)); have hc7 := Cur.span0 (by assumption) s7
                   have HB7 := Lib.hid hb7
                   clear hb7
                   first
                   | (have YB : Box wc.heap.size (.slice none 0 0) (.slice none 0 0) w7 := ((Box.new wc.drew _ _ _).span (grown_span hg6) (.inr (.inr HT.out.cur.lt))).span s7 (.inl (Nat.le_refl _))
                      have YL : wc.heap.size < w6.heap.size := Nat.lt_of_lt_of_le (by simp) hg6.size
                      have YX := Lib.hid (HT.out.next HAL.out HT1'.out sp7 hc7 YB (Nat.le_refl _) ht7 sp6.size (.inl YL))
                      obtain ⟨_, r0, r1, r2, r3⟩ := YB)
                   | (have YB : Box w6.heap.size (.slice none 0 0) (.slice none 0 0) w7 := (Box.new w6 _ _ _).span s7 (.inl (Nat.le_refl _))
                      have YL : w6.heap.size < (w6.alloc (.cells #[.slice none 0 0, .slice none 0 0] 26)).heap.size := by simp
                      have YX := Lib.hid (HT.out.next HAL.out HT1'.out sp7 hc7 YB sp6.size ht7 (Nat.le_trans sp6.size (Nat.le_of_lt YL)) (.inl YL))
                      obtain ⟨_, r0, r1, r2, r3⟩ := YB)
                   | skip)))
            all_goals
              go_wp2_with fail
              go_meet
              first
              | exact ⟨_, u, b7, _, _, _, _, rfl, rfl, HB7.out, YX.out⟩
              | (have hh := HT2'.out
                 have h6 := sp6.size
                 have h7 := s7.size
                 exact ⟨_, u, b7, A7, q7, A8, q8, rfl, rfl, HB7.out, HT.out.span (sp7.alloc _) (hc7.alloc _) HAL.out HAT.out, (ht7.span ((Span.refl 0 0 w7).alloc _) (.inl (Nat.le_refl _))).weak (by omega) (.inl (by simp)), (box2_new _ _ _ _).1, (box2_new _ _ _ _).2⟩)
          case rest =>
            clear HT HTab HV HT2' c0 c1
            have hTT := HTE.out
            subst hTT
            clear HTE
            obtain ⟨N, u, b, A7, q7, A8, q8, rfl, rfl, hb, ht, hu, n0, n1⟩ := hcut
            obtain ⟨c0, c1, c2, c3, _⟩ := ht.cells
            have HT := Lib.hid ht
            have HU := Lib.hid hu
            have HB := Lib.hid hb
            clear ht hu hb
            cases b with
            | false =>
              go_wp2_with fail
              go_roundw
              case rel => exact ⟨k - 1, t, _, _, by go_num, by have := HK.out; have := HK0.out; omega, HT.out⟩
              case measure => have := HK0.out; simp [intOf]; omega
            | true =>
              have HN := Lib.hid (HT.out.store HU.out (HB.out rfl).1 HAL.out HT1'.out (Nat.le_refl _))
              go_wp2_with fail
              go_roundw
              case rel => exact ⟨k - 1, u, _, _, by go_num, by have := (HB.out rfl).2; have := HK.out; have := HK0.out; omega, HN.out⟩
              case measure => have := HK0.out; simp [intOf]; omega
end
section
open Go.RowKit

/-- A table that is made. -/
def MakesTable (w : World) (e : Ending) (w' : World) : Prop :=
  ∃ t v, e = .returned v ∧ Valid t ∧ t.1.length ≤ 15 ∧ HasTab true w.heap.size w'.heap.size w' v t ∧ Below w.heap.size w w'

set_option maxHeartbeats 1000000 in
theorem makeTable_any (A : Option Addr) (n c : Nat) (w : World) (hn : n ≤ 1048576) (h : HasBy w.heap.size w A n) :
    Calls Tryz.prog 4 #[.slice A n c] w (MakesTable w) := by
  have Hn := Lib.hid hn
  have HB0 := Lib.hid ((Below.refl w.heap.size w).alloc (Nat.le_refl _) (.cells #[.slice none 0 0, .slice none 0 0] 26))
  have Hby : Hid (HasBy (w.alloc (.cells #[.slice none 0 0, .slice none 0 0] 26)).heap.size (w.alloc (.cells #[.slice none 0 0, .slice none 0 0] 26)) A n) := by
    intro hp
    obtain ⟨b, off, rfl, hb, hc⟩ := h hp
    refine ⟨b, off, rfl, by simp; omega, fun j hj => ?_⟩
    obtain ⟨u, u0, u1, hu⟩ := hc j hj
    exact ⟨u, u0, u1, (World.cell?_alloc_lt w _ ⟨b, off + j, none⟩ (World.block_lt_of_cell? w ⟨b, off + j, none⟩ hu)).trans hu⟩
  have X0 := Lib.hid (Box.new w (.slice none 0 0) (.slice none 0 0) 26)
  clear hn h
  go_enter Tryz.func4, Tryz.ntmps4
  go_wp2_with fail
  refine (l01New_any A n c _ Hn.out Hby.out).mono ?_
  rintro _ w1 ⟨a, rfl, ha, hc, hb⟩
  go_wp2_with fail
  refine (l2Table_any _ a w1 hc).mono ?_
  rintro _ w2 ⟨t, v, rfl, hv, hl, ht, hc2, hs⟩
  obtain ⟨A', q, A2, q2, rfl⟩ := ht.form
  have hz0 : (w.alloc (.cells #[.slice none 0 0, .slice none 0 0] 26)).heap.size = w.heap.size + 1 := by simp
  have hz1 := hb.size
  have ha2 : a.block = w.heap.size + 1 := by rw [ha, hz0]
  have X1 : Box w.heap.size (.slice none 0 0) (.slice none 0 0) w1 := by
    have sp : Span 0 0 (w.alloc (.cells #[.slice none 0 0, .slice none 0 0] 26)) w1 := Span.of_below hb
    exact X0.out.span sp (.inl (Nat.le_refl _))
  have X2 := X1.span hs (by omega)
  have hw1 : w.heap.size + 1 ≤ w1.heap.size := by omega
  obtain ⟨_, r0, r1, r2, r3⟩ := id X2
  have HB := Lib.hid (box_stored (u' := .slice A' t.1.length q) (v' := .slice A2 t.2.length q2) X2)
  have sp : Span w.heap.size (w.heap.size + 1) w2 ((w2.setCell ⟨w.heap.size, 0, none⟩ (.slice A' t.1.length q)).setCell ⟨w.heap.size, 1, none⟩ (.slice A2 t.2.length q2)) := ((Span.refl _ _ w2).setCell (p := ⟨w.heap.size, 0, none⟩) (.inl ⟨Nat.le_refl _, Nat.lt_succ_self _⟩) _).setCell (p := ⟨w.heap.size, 1, none⟩) (.inl ⟨Nat.le_refl _, Nat.lt_succ_self _⟩) _
  have HT := Lib.hid (((ht.span sp (by omega)).weak (lo' := w.heap.size) (by omega) (.inl sp.size)))
  have HBB : Hid (Below w.heap.size w ((w2.setCell ⟨w.heap.size, 0, none⟩ (.slice A' t.1.length q)).setCell ⟨w.heap.size, 1, none⟩ (.slice A2 t.2.length q2))) := by
    have b1 : Below w.heap.size w w1 := HB0.out.trans ⟨hb.os, hb.tape, hb.output, hb.size, fun k hk => hb.block k (by omega)⟩
    have b2 : Below w.heap.size w w2 := b1.trans ⟨hs.os, hs.tape, hs.output, hs.size, fun k hk => hs.block k (by omega) (by omega)⟩
    exact b2.trans ⟨sp.os, sp.tape, sp.output, sp.size, fun k hk => sp.block k (by have := hs.size; omega) (by omega)⟩
  have HV := Lib.hid hv
  have HL := Lib.hid hl
  clear sp hs hc2 ht hc hb hv hl X1 X2
  go_wp2_with fail
  exact bodyPost_ret (v := .agg #[.slice A' t.1.length q, .slice A2 t.2.length q2]) (by simp [results, Tryz.results4, go_sem, HB.out.1, HB.out.2]) rfl ⟨t, _, rfl, HV.out, HL.out, HT.out, HBB.out⟩

theorem eqC_sym {p z : Cx} (hp : finC p) (hz : finC z) : eqC z p = eqC p z := by
  rw [eqC_fin hz hp, eqC_fin hp hz]
  by_cases h : keyC z = keyC p
  · rw [decide_eq_true h, decide_eq_true h.symm]
  · rw [decide_eq_false h, decide_eq_false (fun e => h e.symm)]

/-- A label is told, or none. -/
def TellsL (r : Option Int) (w : World) (e : Ending) (w' : World) : Prop := e = .returned (.tuple #[.int .i64 (r.getD 0), .bool r.isSome]) ∧ Span 0 0 w w'

theorem labelT_at {t : Tab} (h : Valid t) {z : Cx} {i : Nat} (hi : atC t.1 z = some i) : ∃ n, t.2[i]? = some n ∧ labelT t z = some n := by
  have hl := atC_lt hi
  obtain ⟨n, hn⟩ := getElem?_some (xs := t.2) (j := i) (by rw [h.len]; exact hl)
  exact ⟨n, hn, by unfold labelT; rw [hi]; exact hn⟩

end
section
open Go.RowKit

/-- A slice that the call owns. -/
def GivesO {α : Type} (e : TypeId) (val : α → Value) (xs : List α) (w : World) (en : Ending) (w' : World) : Prop :=
  ∃ A q, en = .returned (.slice A xs.length q) ∧ w'.ownsRow w.heap.size e 1 (.slice A xs.length q) xs.length (xs.map val) ∧ Span 0 0 w w'

theorem ownsRow_span {w w' : World} {B : Nat} {e : TypeId} {s : Nat} {v : Value} {n : Nat} {xs : List Value} (h : w.ownsRow B e s v n xs) (sp : Span 0 0 w w') : w'.ownsRow B e s v n xs :=
  h.kept (row := none) ⟨sp.os, sp.tape, sp.output, sp.size, fun k hk _ => sp.block k hk (by omega)⟩ (by cases v.ownBlock <;> simp)

set_option maxRecDepth 100000 in
set_option maxHeartbeats 1000000 in
theorem cloneC_own (xs : List Cx) (o : Bool) (b lo hi : Nat) (v : Value) (w : World) (hx : HasS cxV o b lo hi w v xs) (hlen : xs.length ≤ 4194304) :
    Calls Tryz.prog 29 #[v] w (GivesO 28 cxV xs w) := by
  have HX := Lib.hid hx
  obtain ⟨ip, hip, hzp, hsp, hbp⟩ := info_parts info_c64
  obtain ⟨A, cap, rfl, hcap, hc⟩ := hx
  obtain ⟨len, hl⟩ : ∃ len, len = xs.length := ⟨_, rfl⟩
  have HL := Lib.hid hl
  rw [← hl] at hcap hlen HX ⊢
  cases A with
  | none =>
    have h0 : len = 0 := by
      by_cases h : 0 < len
      · obtain ⟨off, e, _⟩ := hc (by omega)
        cases e
      · omega
    subst h0
    have HE : Hid (xs = []) := by cases xs with | nil => exact rfl | cons a l => simp at hl
    clear hc hl
    have hq := Lib.run_eql_slice_nil (P := Tryz.prog) w 23 28 none 0 cap 0 0 Tryz.underlying23
    go_enter Tryz.func29, Tryz.ntmps29
    go_wp2
    go_ret
    rw [HE.out]
    exact ⟨none, 0, rfl, World.ownsRow_nil _ _ _ _, Span.refl _ _ _⟩
  | some ad =>
    have HO := Lib.hid (World.ownsRow_made (base := w.heap.size) (e := 28) (size := 1) w #[] 0 (Nat.le_refl _) (Nat.zero_le _) rfl)
    have HN : Hid (∀ (o : Obj) (j : Nat) u, (xs.map cxV)[j]? = some u → (w.alloc o).cell? (ad.add j) = some u) := by
      unfold Hid
      intro o j u hj
      have hp : 0 < xs.length := by
        have := (List.getElem?_eq_some_iff.1 hj).1
        simp at this; omega
      obtain ⟨off, e, _⟩ := hc hp
      cases e
      exact HX.out.news o j u hj
    clear hc hl
    have hq := Lib.run_eql_slice_nil (P := Tryz.prog) w 23 28 (some ad) len cap 0 0 Tryz.underlying23
    go_enter Tryz.func29, Tryz.ntmps29
    go_wp2_with (at_builtin; go_loud ((refine wpList_append_own _ rfl _ _ 23 rfl w.heap.size 28 ip (.complex .f32 0 0) 1 8 Tryz.underlying23 hip hzp hsp hbp rfl (by decide) _ _ _ rfl HO.out ad len cap (xs.map cxV) rfl ?c1 ?c2 ?c3 ?c4 ?c5 ?c6 ?_); (case c1 => rw [List.length_map, ← HL.out, Nat.mul_one]); (case c2 => exact HN.out _); (case c3 => exact one_cells); (case c4 => unfold maxLen; omega); (case c5 => omega); (case c6 => simp); intro v1 w1 ho hgr _; rw [Nat.zero_add, List.nil_append] at ho; obtain ⟨A1, q1, rfl⟩ := ownsRow_slice ho; have HO1 := Lib.hid ho; have HG1 := Lib.hid hgr; clear ho hgr))
    go_ret
    have ho := HO1.out
    rw [HL.out] at ho
    exact ⟨A1, q1, by rw [HL.out]; rfl, ho, ((Span.refl _ _ _).alloc _).grown HG1.out (fun k hk => by have hk' : some w.heap.size = some k := hk; injection hk' with hk'; right; omega)⟩

set_option maxRecDepth 100000 in
set_option maxHeartbeats 1000000 in
theorem cloneI_own (xs : List Int) (o : Bool) (b lo hi : Nat) (v : Value) (w : World) (hx : HasS intV o b lo hi w v xs) (hlen : xs.length ≤ 4194304) :
    Calls Tryz.prog 30 #[v] w (GivesO 3 intV xs w) := by
  have HX := Lib.hid hx
  obtain ⟨ip, hip, hzp, hsp, hbp⟩ := info_parts info_int
  obtain ⟨A, cap, rfl, hcap, hc⟩ := hx
  obtain ⟨len, hl⟩ : ∃ len, len = xs.length := ⟨_, rfl⟩
  have HL := Lib.hid hl
  rw [← hl] at hcap hlen HX ⊢
  cases A with
  | none =>
    have h0 : len = 0 := by
      by_cases h : 0 < len
      · obtain ⟨off, e, _⟩ := hc (by omega)
        cases e
      · omega
    subst h0
    have HE : Hid (xs = []) := by cases xs with | nil => exact rfl | cons a l => simp at hl
    clear hc hl
    have hq := Lib.run_eql_slice_nil (P := Tryz.prog) w 24 3 none 0 cap 0 0 Tryz.underlying24
    go_enter Tryz.func30, Tryz.ntmps30
    go_wp2
    go_ret
    rw [HE.out]
    exact ⟨none, 0, rfl, World.ownsRow_nil _ _ _ _, Span.refl _ _ _⟩
  | some ad =>
    have HO := Lib.hid (World.ownsRow_made (base := w.heap.size) (e := 3) (size := 1) w #[] 0 (Nat.le_refl _) (Nat.zero_le _) rfl)
    have HN : Hid (∀ (o : Obj) (j : Nat) u, (xs.map intV)[j]? = some u → (w.alloc o).cell? (ad.add j) = some u) := by
      unfold Hid
      intro o j u hj
      have hp : 0 < xs.length := by
        have := (List.getElem?_eq_some_iff.1 hj).1
        simp at this; omega
      obtain ⟨off, e, _⟩ := hc hp
      cases e
      exact HX.out.news o j u hj
    clear hc hl
    have hq := Lib.run_eql_slice_nil (P := Tryz.prog) w 24 3 (some ad) len cap 0 0 Tryz.underlying24
    go_enter Tryz.func30, Tryz.ntmps30
    go_wp2_with (at_builtin; go_loud ((refine wpList_append_own _ rfl _ _ 24 rfl w.heap.size 3 ip (.int .i64 0) 1 8 Tryz.underlying24 hip hzp hsp hbp rfl (by decide) _ _ _ rfl HO.out ad len cap (xs.map intV) rfl ?c1 ?c2 ?c3 ?c4 ?c5 ?c6 ?_); (case c1 => rw [List.length_map, ← HL.out, Nat.mul_one]); (case c2 => exact HN.out _); (case c3 => exact one_cellsI); (case c4 => unfold maxLen; omega); (case c5 => omega); (case c6 => simp); intro v1 w1 ho hgr _; rw [Nat.zero_add, List.nil_append] at ho; obtain ⟨A1, q1, rfl⟩ := ownsRow_slice ho; have HO1 := Lib.hid ho; have HG1 := Lib.hid hgr; clear ho hgr))
    go_ret
    have ho := HO1.out
    rw [HL.out] at ho
    exact ⟨A1, q1, by rw [HL.out]; rfl, ho, ((Span.refl _ _ _).alloc _).grown HG1.out (fun k hk => by have hk' : some w.heap.size = some k := hk; injection hk' with hk'; right; omega)⟩


set_option maxRecDepth 100000 in
set_option maxHeartbeats 2000000 in
theorem copyTable_own (t : Tab) (o : Bool) (lo hi : Nat) (v : Value) (w : World) (hx : HasTab o lo hi w v t) (ht : t.2.length = t.1.length) (hm : t.1.length ≤ 4194304) :
    Calls Tryz.prog 16 #[v] w (OwnsT t w) := by
  obtain ⟨b1, b2, vP, vL, rfl, hne, g1, g2⟩ := hx
  have G1 := Lib.hid g1
  have G2 := Lib.hid g2
  obtain ⟨AP, cP, rfl, _, _⟩ := g1
  obtain ⟨AL, cL, rfl, _, _⟩ := g2
  have HT := Lib.hid ht
  have HM := Lib.hid hm
  obtain ⟨lp, hlp⟩ : ∃ n, n = t.1.length := ⟨_, rfl⟩
  obtain ⟨ll, hll⟩ : ∃ n, n = t.2.length := ⟨_, rfl⟩
  have HLP := Lib.hid hlp
  have HLL := Lib.hid hll
  rw [← hlp] at G1 ⊢
  rw [← hll] at G2 ⊢
  clear ht hm hlp hll
  go_enter Tryz.func16, Tryz.ntmps16
  go_wp2_with fail
  have X0 := Lib.hid ((Box.new w (.slice AP lp cP) (.slice AL ll cL) 26).alloc (.cells #[.slice none 0 0, .slice none 0 0] 26))
  have X1 := Lib.hid (Box.new (w.alloc (.cells #[.slice AP lp cP, .slice AL ll cL] 26)) (.slice none 0 0) (.slice none 0 0) 26)
  have HS := Lib.hid ((((Span.refl 0 0 w).alloc (.cells #[.slice AP lp cP, .slice AL ll cL] 26))).alloc (.cells #[.slice none 0 0, .slice none 0 0] 26))
  rw [show (w.alloc (.cells #[.slice AP lp cP, .slice AL ll cL] 26)).heap.size = w.heap.size + 1 by simp] at X1
  generalize (w.alloc (.cells #[.slice AP lp cP, .slice AL ll cL] 26)).alloc (.cells #[.slice none 0 0, .slice none 0 0] 26) = w0 at *
  obtain ⟨hz, x0, x1, _, _⟩ := X0.out
  have HZ := Lib.hid hz
  clear hz
  go_region_with (first
    | (go_at_call 29; go_loud ((refine (cloneC_own t.1 o b1 lo hi _ _ ((G1.out.span HS.out (.inl (Nat.le_refl _))).drewN _) HM.out).mono ?_; rintro _ w1 ⟨A1, q1, rfl, h1, s1⟩; rw [← HLP.out] at h1 ⊢; have X01 := (X0.out.drewN 1).span s1 (.inl (Nat.le_refl _)); have X11 := Lib.hid ((X1.out.drewN 1).span s1 (.inl (Nat.le_refl _))); have S1 := Lib.hid (s1.after (HS.out.drewN 1)); have H1 := Lib.hid h1; have Z1 : Hid (w0.heap.size ≤ w1.heap.size) := s1.size; obtain ⟨_, z0, z1, _, _⟩ := X01; clear h1 s1)))
    | (go_at_call 30; go_loud ((refine (cloneI_own t.2 o b2 lo hi _ _ ((G2.out.span S1.out (.inl (Nat.le_refl _)))) (by rw [HT.out]; exact HM.out)).mono ?_; rintro _ w2 ⟨A2, q2, rfl, h2, s2⟩; rw [← HLL.out] at h2 ⊢; have X12 := X11.out.span s2 (.inl (Nat.le_refl _)); have S2 := Lib.hid (s2.after S1.out); have H12 := Lib.hid (ownsRow_span H1.out s2); have H2 := Lib.hid h2; have Z2 : Hid (w1.heap.size ≤ w2.heap.size) := s2.size; have HB := Lib.hid (box_stored (u' := .slice A1 lp q1) (v' := .slice A2 ll q2) X12); obtain ⟨_, r0, r1, r2, r3⟩ := X12; clear h2 s2))))
  all_goals
    go_wp2_with fail
    have z1 := X1.out.1
    have z4 : w0.heap.size ≤ w1.heap.size := Z1.out
    have z5 : w1.heap.size ≤ w2.heap.size := Z2.out
    refine bodyPost_ret (v := .agg #[.slice A1 lp q1, .slice A2 ll q2]) (by simp [results, Tryz.results16, go_sem, HB.out.1, HB.out.2]) rfl ⟨A1, q1, A2, q2, by rw [← HLP.out, ← HLL.out], ?_, ?_, ?_⟩
    · rw [← HLP.out]
      have g1 : w2.ownsRow w0.heap.size 28 1 (.slice A1 lp q1) lp (t.1.map cxV) := H12.out
      exact ownsRow_lower (ownsRow_setCell_below (ownsRow_setCell_below g1 (a := ⟨w.heap.size + 1, 0, none⟩) z1 (.slice A1 lp q1)) (a := ⟨w.heap.size + 1, 1, none⟩) z1 (.slice A2 ll q2)) (by omega)
    · rw [← HLL.out]
      have g2 : w2.ownsRow w1.heap.size 3 1 (.slice A2 ll q2) ll (t.2.map intV) := H2.out
      exact ownsRow_lower (ownsRow_setCell_below (ownsRow_setCell_below g2 (a := ⟨w.heap.size + 1, 0, none⟩) (by simp only; omega) (.slice A1 lp q1)) (a := ⟨w.heap.size + 1, 1, none⟩) (by simp only; omega) (.slice A2 ll q2)) (by omega)
    · exact (S2.out.setCell (.inr (by simp)) _).setCell (.inr (by simp)) _
end
end Go.Proofs.YtfafkdpefdpnkaaGreat
