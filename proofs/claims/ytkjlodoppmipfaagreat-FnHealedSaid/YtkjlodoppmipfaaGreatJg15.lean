/- Cables are copied. A rack is copied. -/
import Derived.Test.YtkjlodoppmipfaaGreatJg11
import Derived.Test.YtkjlodoppmipfaaGreatJg13
import Derived.Outline
import Derived.Test.YtkjlodoppmipfaaGreatJg14
import Derived.Test.YtkjlodoppmipfaaGreatJg2
import Derived.Laws.IdiomCopy
namespace Go.Proofs.YtkjlodoppmipfaaGreat
section
open Go.RowKit

/-- All cells of a list, one behind the other. -/
def flatG {α : Type} (fl : α → List Value) (L : List α) : List Value := L.flatMap fl
theorem flatG_length {α : Type} {fl : α → List Value} {s : Nat} (hf : ∀ x, (fl x).length = s) : ∀ L : List α, (flatG fl L).length = L.length * s
  | [] => by simp [flatG]
  | x :: L => by
    show (fl x ++ flatG fl L).length = _
    rw [List.length_append, flatG_length hf L, hf, List.length_cons, Nat.succ_mul]; omega
theorem flatG_get {α : Type} {fl : α → List Value} {s : Nat} (hf : ∀ x, (fl x).length = s) : ∀ (L : List α) (j : Nat) (x : α) (i : Nat), L[j]? = some x → i < s → (flatG fl L)[j * s + i]? = (fl x)[i]?
  | [], j, x, i, h, _ => by simp at h
  | y :: L, 0, x, i, h, hi => by
    simp at h; subst h
    show (fl y ++ flatG fl L)[0 * s + i]? = _
    rw [Nat.zero_mul, Nat.zero_add, List.getElem?_append_left (by rw [hf]; exact hi)]
  | y :: L, j + 1, x, i, h, hi => by
    simp at h
    have := flatG_get hf L j x i h hi
    show (fl y ++ flatG fl L)[(j + 1) * s + i]? = _
    rw [List.getElem?_append_right (by rw [hf, Nat.succ_mul]; omega), hf, show (j + 1) * s + i - s = j * s + i by rw [Nat.succ_mul]; omega]
    exact this
theorem flatG_at {α : Type} {fl : α → List Value} {s : Nat} (hs : 0 < s) (hf : ∀ x, (fl x).length = s) {L : List α} {j : Nat} {u : Value} (h : (flatG fl L)[j]? = some u) : ∃ x, L[j / s]? = some x ∧ (fl x)[j % s]? = some u := by
  have hj := (List.getElem?_eq_some_iff.1 h).1
  rw [flatG_length hf] at hj
  have hq : j / s < L.length := (Nat.div_lt_iff_lt_mul hs).2 hj
  obtain ⟨x, hx⟩ := getElem?_some hq
  refine ⟨x, hx, ?_⟩
  rw [← flatG_get hf L (j / s) x (j % s) hx (Nat.mod_lt _ hs), Nat.div_add_mod' j s]
  exact h
theorem cab_len (c : Nat × Nat) : (cabC c).length = 2 := rfl
theorem flatG_cab {xs : List (Nat × Nat)} {u : Value} (h : u ∈ flatG cabC xs) : u.oneCell' = true := by
  obtain ⟨c, _, hc⟩ := List.mem_flatMap.1 h
  simp only [cabC, List.mem_cons, List.not_mem_nil, or_false] at hc
  rcases hc with rfl | rfl <;> rfl

theorem ownsRow_hasC {α : Type} {fl : α → List Value} {s : Nat} (hs : 0 < s) (hf : ∀ x, (fl x).length = s) {w : World} {base : Nat} {e : TypeId} {v : Value} {n : Nat} {L : List α} (h : w.ownsRow base e s v n (flatG fl L)) :
    ∃ b, HasC s fl b base w.heap.size w v L ∧ n = L.length ∧ (0 < L.length → v.ownBlock = some b) := by
  obtain ⟨hl, h | ⟨g, cap, cur, rfl, hg, hh, hn, hm, hc, ht⟩⟩ := h
  · obtain ⟨rfl, rfl⟩ := h
    have : L = [] := by
      cases L with
      | nil => rfl
      | cons a l => rw [flatG_length hf, List.length_cons, Nat.succ_mul] at hl; omega
    subst this
    exact ⟨0, HasC.empty _ _ _ _ _ _ _ _, rfl, fun h => absurd h (by simp)⟩
  · rw [flatG_length hf] at hl
    have hnl : n = L.length := (Nat.eq_of_mul_eq_mul_right hs hl).symm
    have hlt : g < w.heap.size := (Array.getElem?_eq_some_iff.1 hh).1
    refine ⟨g, ⟨_, cap, by rw [hnl], by omega, fun _ => ⟨0, rfl, hg, hlt, hlt, fun j x i u hj hi => ?_⟩⟩, hnl, fun _ => rfl⟩
    have hi' : i < s := by have := (List.getElem?_eq_some_iff.1 hi).1; rw [hf] at this; exact this
    have hx := (flatG_get hf L j x i hj hi').trans hi
    have hj' := (List.getElem?_eq_some_iff.1 hx).1
    rw [flatG_length hf] at hj'
    rw [← ht, List.getElem?_take_of_lt (by rw [hnl]; omega)] at hx
    unfold World.cell?
    simp only [hh, Nat.zero_add]
    simpa using hx

theorem HasC.news {α : Type} {fl : α → List Value} {s : Nat} (hs : 0 < s) (hf : ∀ x, (fl x).length = s) {b lo hi off n c : Nat} {w : World} {L : List α} (h : HasC s fl b lo hi w (.slice (some ⟨b, off, none⟩) n c) L) (o : Obj) :
    ∀ j u, (flatG fl L)[j]? = some u → (w.alloc o).cell? ((⟨b, off, none⟩ : Addr).add j) = some u := by
  intro j u hj
  obtain ⟨x, h1, h2⟩ := flatG_at hs hf hj
  have h3 := (h.span ((Span.refl 0 0 w).alloc o) (.inl (Nat.le_refl _))).at_ h1 h2
  rw [Addr.add_lit]
  rw [Nat.add_assoc, Nat.div_add_mod' j s] at h3
  exact h3

theorem info_cab : (Tryz.prog.info? 42).map (fun i => (i.zero, i.size, i.bytes)) = some (some (.agg #[.int .i64 0, .int .i64 0]), 2, 16) := by kernel_rfl

/-- A list of cables of its own. -/
def GivesCab (xs : List (Nat × Nat)) (w : World) (e : Ending) (w' : World) : Prop :=
  ∃ v b, e = .returned v ∧ HasC 2 cabC b w.heap.size w'.heap.size w' v xs ∧ Span 0 0 w w'

set_option maxRecDepth 100000 in
set_option maxHeartbeats 1000000 in
theorem cloneCab_any (xs : List (Nat × Nat)) (b lo hi : Nat) (v : Value) (w : World) (hx : HasC 2 cabC b lo hi w v xs) (hlen : xs.length ≤ 4194304) :
    Calls Tryz.prog 81 #[v] w (GivesCab xs w) := by
  have HX := Lib.hid hx
  obtain ⟨ip, hip, hzp, hsp, hbp⟩ := info_parts info_cab
  obtain ⟨A, cap, rfl, hcap, hc⟩ := hx
  obtain ⟨len, hl⟩ : ∃ len, len = xs.length := ⟨_, rfl⟩
  have HL := Lib.hid hl
  rw [← hl] at hcap hlen HX ⊢
  cases A with
  | none =>
    have h0 : len = 0 := by
      by_cases h : 0 < len
      · obtain ⟨off, e, _⟩ := hc (by omega)
        cases e
      · omega
    subst h0
    have HE : Hid (xs = []) := by cases xs with | nil => exact rfl | cons a l => simp at hl
    clear hc hl
    have hq := Lib.run_eql_slice_nil (P := Tryz.prog) w 35 42 none 0 cap 0 0 Tryz.underlying35
    go_enter Tryz.func81, Tryz.ntmps81
    go_wp2
    go_ret
    refine ⟨_, 0, rfl, ?_, Span.refl _ _ _⟩
    rw [HE.out]; exact HasC.empty _ _ _ _ _ _ _ _
  | some ad =>
    have HO := Lib.hid (World.ownsRow_made (base := w.heap.size) (e := 42) (size := 2) w #[] 0 (Nat.le_refl _) (Nat.zero_le _) rfl)
    have HN : Hid (∀ (o : Obj) (j : Nat) u, (flatG cabC xs)[j]? = some u → (w.alloc o).cell? (ad.add j) = some u) := by
      unfold Hid
      intro o j u hj
      have hp : 0 < xs.length := by
        have := (List.getElem?_eq_some_iff.1 hj).1
        rw [flatG_length cab_len] at this; omega
      obtain ⟨off, e, _⟩ := hc hp
      cases e
      exact HX.out.news (by decide) cab_len o j u hj
    clear hc hl
    have hq := Lib.run_eql_slice_nil (P := Tryz.prog) w 35 42 (some ad) len cap 0 0 Tryz.underlying35
    go_enter Tryz.func81, Tryz.ntmps81
    go_wp2_with (at_builtin; go_loud ((refine wpList_append_own _ rfl _ _ 35 rfl w.heap.size 42 ip (.agg #[.int .i64 0, .int .i64 0]) 2 16 Tryz.underlying35 hip hzp hsp hbp rfl (by decide) _ _ _ rfl HO.out ad len cap (flatG cabC xs) rfl ?c1 ?c2 ?c3 ?c4 ?c5 ?c6 ?_); (case c1 => rw [flatG_length cab_len, ← HL.out]); (case c2 => exact HN.out _); (case c3 => exact fun u hu => flatG_cab hu); (case c4 => unfold maxLen; omega); (case c5 => omega); (case c6 => simp); intro v1 w1 ho hgr _; rw [Nat.zero_add, List.nil_append] at ho; obtain ⟨A1, q1, rfl⟩ := ownsRow_slice ho; have HO1 := Lib.hid ho; have HG1 := Lib.hid hgr; clear ho hgr))
    go_ret
    have ho := HO1.out
    obtain ⟨b', h1, _, _⟩ := ownsRow_hasC (by decide) cab_len ho
    exact ⟨_, b', rfl, h1, ((Span.refl _ _ _).alloc _).grown HG1.out (fun k hk => by have hk' : some w.heap.size = some k := hk; injection hk' with hk'; right; omega)⟩
end
section
open Go.RowKit

def zM : Array Value := #[.int .i64 0, .complex .f32 0 0, .complex .f32 0 0, .float .f32 0, .slice none 0 0, .int .i64 0, .int .i64 0, .slice none 0 0, .slice none 0 0, .int .i64 0, .int .i64 0]
theorem info_mod : (Tryz.prog.info? 32).map (fun i => (i.zero, i.size, i.bytes)) = some (some (.agg #[.int .i64 0, .complex .f32 0 0, .complex .f32 0 0, .float .f32 0, .slice none 0 0, .int .i64 0, .int .i64 0, .slice none 0 0, .slice none 0 0, .int .i64 0, .int .i64 0]), 11, 136) := by kernel_rfl
theorem run_make_mods (w : World) (n : Nat) (hb : n ≤ 1048576) :
    (Instr.makeSlice 34 (.int .i64 (n : Int)) (.int .i64 (n : Int))).run Tryz.prog w = .ok (.slice (some ⟨w.heap.size, 0, none⟩) n n) (w.alloc (.cells (madeCells zM (n * 11)) 32)) := by
  obtain ⟨i, h1, h2, h3, h4⟩ := info_parts info_mod
  have := run_make (P := Tryz.prog) w 34 32 i _ Tryz.underlying34 h1 h2 .i64 .i64 n n (by omega) (by omega) (by rw [h4]; omega) (by omega)
  rw [this, h3]
  simp only [Int.toNat_natCast]
  rfl

theorem Span.cellsSet {lo hi b : Nat} {a : World} (hb : lo ≤ b ∧ b < hi) : ∀ (vs : List Value) (o : Nat) (w : World), Span lo hi a w → Span lo hi a (w.setCells b o vs)
  | [], _, _, h => h
  | v :: vs, o, w, h => Span.cellsSet hb vs (o + 1) (w.setCell ⟨b, o, none⟩ v) (h.setCell (p := ⟨b, o, none⟩) (.inl hb) v)
theorem frozen_setCells (b : Nat) (p : Addr) : ∀ (vs : List Value) (o : Nat) (w : World), (w.setCells b o vs).frozen? p = w.frozen? p
  | [], _, _ => rfl
  | v :: vs, o, w => (frozen_setCells b p vs (o + 1) (w.setCell ⟨b, o, none⟩ v)).trans (World.frozen?_setCell ..)
theorem size_setCells (b : Nat) : ∀ (vs : List Value) (o : Nat) (w : World), (w.setCells b o vs).heap.size = w.heap.size
  | [], _, _ => rfl
  | v :: vs, o, w => (size_setCells b vs (o + 1) (w.setCell ⟨b, o, none⟩ v)).trans (by simp [World.setCell])

theorem setCells_mw (w : World) (b o : Nat) (x : Mw) : w.setCells b o (Mw.l x) = (((((((((((w.setCell ⟨b, o, none⟩ (.int .i64 x.k)).setCell ⟨b, o + 1, none⟩ (.complex .f32 x.t1 x.t2)).setCell ⟨b, o + 2, none⟩ (.complex .f32 x.s1 x.s2)).setCell ⟨b, o + 3, none⟩ (.float .f32 x.lv)).setCell ⟨b, o + 4, none⟩ (.slice x.S x.sn x.sp)).setCell ⟨b, o + 5, none⟩ (.int .i64 x.a)).setCell ⟨b, o + 6, none⟩ (.int .i64 x.cnt)).setCell ⟨b, o + 7, none⟩ (.slice x.P x.pn x.pp)).setCell ⟨b, o + 8, none⟩ (.slice x.L x.ln x.lp)).setCell ⟨b, o + 9, none⟩ (.int .i64 x.c)).setCell ⟨b, o + 10, none⟩ (.int .i64 x.f)) := by
  simp only [Mw.l, World.setCells, Nat.add_assoc, Nat.reduceAdd]

/-- A new row of n modules, the first of them laid. -/
def MadeK (b n : Nat) (w : World) (Ns : List Mw) : Prop :=
  b < w.heap.size ∧ (∀ p, p < n * 11 → ∃ u, w.cell? ⟨b, p, none⟩ = some u) ∧ (∀ p, w.frozen? ⟨b, p, none⟩ = false) ∧ ∀ (i : Nat) (x : Mw) (o : Nat) (u : Value), Ns[i]? = some x → (Mw.l x)[o]? = some u → w.cell? ⟨b, i * 11 + o, none⟩ = some u
theorem MadeK.new (w : World) (n : Nat) : MadeK w.heap.size n (w.alloc (.cells (madeCells zM (n * 11)) 32)) [] := by
  refine ⟨by simp, fun p hp => ?_, fun p => World.frozen?_alloc_new .., fun i x o u h => by simp at h⟩
  rw [World.cell?_alloc_new]
  have hs : (madeCells zM (n * 11)).size = n * 11 := by simp [madeCells]
  exact ⟨_, Array.getElem?_eq_getElem (by rw [hs]; exact hp)⟩
theorem MadeK.span {b n lo hi : Nat} {w w' : World} {Ns : List Mw} (h : MadeK b n w Ns) (s : Span lo hi w w') (hd : hi ≤ lo ∨ b < lo ∨ hi ≤ b) : MadeK b n w' Ns := by
  obtain ⟨h0, h1, h2, h3⟩ := h
  have e := s.block b h0 (by omega)
  refine ⟨Nat.lt_of_lt_of_le h0 s.size, fun p hp => ?_, fun p => ?_, fun i x o u hi hu => ?_⟩
  · obtain ⟨u, hu⟩ := h1 p hp
    exact ⟨u, (World.cell?_of_block (w := w) (a := ⟨b, p, none⟩) e).trans hu⟩
  · exact (World.frozen?_of_block (w := w) (a := ⟨b, p, none⟩) e).trans (h2 p)
  · exact (World.cell?_of_block (w := w) (a := ⟨b, i * 11 + o, none⟩) e).trans (h3 i x o u hi hu)
theorem Mw.len (x : Mw) : (Mw.l x).length = 11 := rfl
theorem MadeK.put {b n : Nat} {w : World} {Ns : List Mw} (h : MadeK b n w Ns) (x : Mw) (hk : Ns.length < n) : MadeK b n (w.setCells b (Ns.length * 11) x.l) (Ns ++ [x]) := by
  obtain ⟨h0, h1, h2, h3⟩ := h
  have hex : ∀ j, j < x.l.length → (w.cell? ⟨b, Ns.length * 11 + j, none⟩).isSome = true := fun j hj => by
    rw [Mw.len] at hj
    obtain ⟨u, hu⟩ := h1 (Ns.length * 11 + j) (by omega)
    rw [hu]; rfl
  have hout : ∀ p, p < Ns.length * 11 ∨ Ns.length * 11 + 11 ≤ p → (w.setCells b (Ns.length * 11) x.l).cell? ⟨b, p, none⟩ = w.cell? ⟨b, p, none⟩ := fun p hp =>
    World.cell?_setCells_out b x.l _ w ⟨b, p, none⟩ (fun _ _ => by rw [Mw.len]; exact hp)
  have hin : ∀ o u, (Mw.l x)[o]? = some u → (w.setCells b (Ns.length * 11) x.l).cell? ⟨b, Ns.length * 11 + o, none⟩ = some u := fun o u hu => by
    obtain ⟨ho, hv⟩ := List.getElem?_eq_some_iff.1 hu
    rw [World.cell?_setCells_in b x.l _ w hex o ho, hv]
  refine ⟨by rw [size_setCells]; exact h0, fun p hp => ?_, fun p => by rw [frozen_setCells]; exact h2 p, fun i y o u hi hu => ?_⟩
  · by_cases hc : p < Ns.length * 11 ∨ Ns.length * 11 + 11 ≤ p
    · rw [hout p hc]; exact h1 p hp
    · obtain ⟨v, hv⟩ := getElem?_some (xs := Mw.l x) (j := p - Ns.length * 11) (by rw [Mw.len]; omega)
      refine ⟨v, ?_⟩
      have := hin _ v hv
      rw [show Ns.length * 11 + (p - Ns.length * 11) = p by omega] at this
      exact this
  · have ho : o < 11 := by have := (List.getElem?_eq_some_iff.1 hu).1; rw [Mw.len] at this; exact this
    rcases Nat.lt_trichotomy i Ns.length with hlt | rfl | hgt
    · rw [List.getElem?_append_left hlt] at hi
      rw [hout _ (.inl (by omega))]
      exact h3 i y o u hi hu
    · rw [List.getElem?_append_right (Nat.le_refl _), Nat.sub_self] at hi
      simp at hi; subst hi
      exact hin o u hu
    · rw [List.getElem?_eq_none (by simp; omega)] at hi; cases hi
theorem MadeK.hasC {b n : Nat} {w : World} {Ns : List Mw} (h : MadeK b n w Ns) (hn : Ns.length = n) : HasC 11 Mw.l b b (b + 1) w (.slice (some ⟨b, 0, none⟩) n n) Ns :=
  ⟨_, n, by rw [hn], by omega, fun _ => ⟨0, rfl, Nat.le_refl _, Nat.lt_succ_self _, h.1, fun j x i u hj hi => by rw [Nat.zero_add]; exact h.2.2.2 j x i u hj hi⟩⟩

theorem Holds.span {o : Bool} {bs lo mid hi l r : Nat} {w w' : World} {m : Mw} {xs : List Cx} {t : Tab} (h : Holds o bs lo mid hi w m xs t) (s : Span l r w w') (hd : r ≤ l ∨ (r ≤ lo ∧ r ≤ mid)) : Holds o bs lo mid hi w' m xs t :=
  ⟨h.1.span s (by omega), h.2.span s (by omega)⟩

/-- The modules' slices hold these lists. -/
def Reads (w : World) (Ms : List Mw) (Rs : List (List Cx × Tab)) : Prop :=
  Rs.length = Ms.length ∧ ∀ (i : Nat) (m : Mw) (r : List Cx × Tab), Ms[i]? = some m → Rs[i]? = some r → r.1.length ≤ 4194304 ∧ r.2.2.length = r.2.1.length ∧ r.2.1.length ≤ 4194304 ∧ ∃ o bs lo mid hi, Holds o bs lo mid hi w m r.1 r.2
/-- Copies of the first modules: the same numbers, slices of their own, behind the block b. -/
def Copied (b : Nat) (w : World) (Ms : List Mw) (Rs : List (List Cx × Tab)) (Ns : List Mw) : Prop :=
  ∀ (i : Nat) (x : Mw), Ns[i]? = some x → ∃ m r bs lo mid hi, Ms[i]? = some m ∧ Rs[i]? = some r ∧ x = { m with S := x.S, sp := x.sp, P := x.P, pp := x.pp, L := x.L, lp := x.lp } ∧ b < lo ∧ lo ≤ mid ∧ Holds true bs lo mid hi w x r.1 r.2
theorem Copied.span {b l r : Nat} {w w' : World} {Ms : List Mw} {Rs : List (List Cx × Tab)} {Ns : List Mw} (h : Copied b w Ms Rs Ns) (s : Span l r w w') (hd : r ≤ l ∨ r ≤ b + 1) : Copied b w' Ms Rs Ns := fun i x hx => by
  obtain ⟨m, q, bs, lo, mid, hi, h1, h2, h3, h4, h5, h6⟩ := h i x hx
  exact ⟨m, q, bs, lo, mid, hi, h1, h2, h3, h4, h5, h6.span s (by omega)⟩
theorem Copied.snoc {b : Nat} {w : World} {Ms : List Mw} {Rs : List (List Cx × Tab)} {Ns : List Mw} (h : Copied b w Ms Rs Ns) (x m : Mw) (q : List Cx × Tab) (hm : Ms[Ns.length]? = some m) (hq : Rs[Ns.length]? = some q) (he : x = { m with S := x.S, sp := x.sp, P := x.P, pp := x.pp, L := x.L, lp := x.lp }) {bs lo mid hi : Nat} (hb : b < lo) (hl : lo ≤ mid) (hh : Holds true bs lo mid hi w x q.1 q.2) : Copied b w Ms Rs (Ns ++ [x]) := fun i y hy => by
  rcases Nat.lt_trichotomy i Ns.length with hlt | rfl | hgt
  · rw [List.getElem?_append_left hlt] at hy
    exact h i y hy
  · rw [List.getElem?_append_right (Nat.le_refl _), Nat.sub_self] at hy
    simp at hy; subst hy
    exact ⟨m, q, bs, lo, mid, hi, hm, hq, he, hb, hl, hh⟩
  · rw [List.getElem?_eq_none (by simp; omega)] at hy; cases hy

/-- A copy of a rack. -/
def CopyRk (n m : Nat) (Ms : List Mw) (Rs : List (List Cx × Tab)) (Cs : List (Nat × Nat)) (w : World) (e : Ending) (w' : World) : Prop :=
  ∃ b A q bC Ns, e = .returned (.agg #[.slice (some ⟨b, 0, none⟩) n n, .slice A m q]) ∧ w.heap.size ≤ b ∧ MadeK b n w' Ns ∧ Ns.length = n ∧ Copied b w' Ms Rs Ns ∧ HasC 2 cabC bC (b + 1) w'.heap.size w' (.slice A m q) Cs ∧ Span 0 0 w w'

set_option maxRecDepth 100000 in
set_option maxHeartbeats 8000000 in
theorem copyRack_any {w : World} {bM bC lo hi : Nat} {AM : Option Addr} {n cM : Nat} {AC : Option Addr} {m cC : Nat} {Ms : List Mw} {Cs : List (Nat × Nat)} (hr : RkAt w bM bC lo hi AM n cM AC m cC Ms Cs) (Rs : List (List Cx × Tab)) (hR : Reads w Ms Rs) :
    Calls Tryz.prog 57 #[.agg #[.slice AM n cM, .slice AC m cC]] w (CopyRk n m Ms Rs Cs w) := by
  have HR := Lib.hid hr
  have HN := Lib.hid hr.mods.len.1
  have HM := Lib.hid hr.cabs.len.1
  have HRS := Lib.hid hR
  have h16 : n ≤ 16 := hr.most.1
  have i3 : (n : Int) ≤ 16 := by omega
  have H40 := Lib.hid hr.most.2
  clear hr hR
  go_enter Tryz.func57, Tryz.ntmps57
  obtain ⟨w1, hw1⟩ : ∃ t, t = (w.alloc (.cells #[.slice AM n cM, .slice AC m cC] 37)).alloc (.cells #[.slice none 0 0, .slice none 0 0] 37) := ⟨_, rfl⟩
  have e1 : w1.heap.size = w.heap.size + 2 := by rw [hw1]; simp
  have BR := Lib.hid ((Bx.new w #[.slice AM n cM, .slice AC m cC] 37).alloc (.cells #[.slice none 0 0, .slice none 0 0] 37))
  have BZ := Lib.hid (Bx.new (w.alloc (.cells #[.slice AM n cM, .slice AC m cC] 37)) #[.slice none 0 0, .slice none 0 0] 37)
  rw [show (w.alloc (.cells #[.slice AM n cM, .slice AC m cC] 37)).heap.size = w.heap.size + 1 by simp] at BZ
  have S1 := Lib.hid (((Span.refl 0 0 w).alloc (.cells #[.slice AM n cM, .slice AC m cC] 37)).alloc (.cells #[.slice none 0 0, .slice none 0 0] 37))
  have hmk := run_make_mods w1 n (by omega)
  rw [hw1] at hmk
  go_wp2_with fail
  clear hmk
  rw [← hw1] at BR BZ S1 ⊢
  have MK := Lib.hid (MadeK.new w1 n)
  have BR2 := Lib.hid (BR.out.alloc (.cells (madeCells zM (n * 11)) 32))
  have BZ2 := Lib.hid (BZ.out.alloc (.cells (madeCells zM (n * 11)) 32))
  have S2 := Lib.hid (S1.out.alloc (.cells (madeCells zM (n * 11)) 32))
  generalize w1.alloc (.cells (madeCells zM (n * 11)) 32) = w2 at *
  obtain ⟨b, hb⟩ : ∃ t, t = w.heap.size + 2 := ⟨_, rfl⟩
  rw [e1] at MK
  try rw [show w.heap.size + 1 + 1 = w.heap.size + 2 from rfl]
  rw [← hb] at MK ⊢
  have HB := Lib.hid hb
  clear hb hw1 BR BZ S1 e1
  go_loopw [13] (fun q wr => ∃ (k : Nat) (Ns : List Mw), k ≤ n ∧ q = .int .i64 k ∧ Ns.length = k ∧ MadeK b n wr Ns ∧ Copied b wr Ms Rs Ns ∧ Bx w.heap.size #[.slice AM n cM, .slice AC m cC] wr ∧ Bx (w.heap.size + 1) #[.slice none 0 0, .slice none 0 0] wr ∧ Span 0 0 w wr) (fun q _ => n - (intOf q).toNat)
  case atStart => exact ⟨0, [], Nat.zero_le _, rfl, rfl, MK.out, fun i x h => by simp at h, BR2.out, BZ2.out, S2.out⟩
  case round =>
    clear MK BR2 BZ2 S2
    obtain ⟨k, Ns, hk, rfl, hNs, hmk, hcp, hbr, hbz, hs⟩ := hrel
    by_cases hlt : k < n
    · obtain ⟨x, hx⟩ := getElem?_some (xs := Ms) (j := k) (by rw [← HN.out]; exact hlt)
      obtain ⟨⟨xs, t⟩, hrr⟩ := getElem?_some (xs := Rs) (j := k) (by rw [HRS.out.1, ← HN.out]; exact hlt)
      obtain ⟨g1, g2, g3, o, bs, lo', mid, hi', hh⟩ := HRS.out.2 k x _ hx hrr
      have CM := Lib.hid (copyModule_any x xs t g1 g2 g3 o bs lo' mid hi' (wr.alloc (.cells #[.int .i64 x.k, .complex .f32 x.t1 x.t2, .complex .f32 x.s1 x.s2, .float .f32 x.lv, .slice x.S x.sn x.sp, .int .i64 x.a, .int .i64 x.cnt, .slice x.P x.pn x.pp, .slice x.L x.ln x.lp, .int .i64 x.c, .int .i64 x.f] 32)) (hh.span (hs.alloc _) (.inl (Nat.le_refl _))))
      have R := HR.out.keep hs
      obtain ⟨off, hoff⟩ := R.mods.addr (by rw [← HN.out]; omega)
      subst hoff
      obtain ⟨c0, c1, c2, c3, c4, c5, c6, c7, c8, c9, c10⟩ := R.mods.mw hx
      have HX := Lib.hid hx
      have HRR := Lib.hid hrr
      have HMK := Lib.hid hmk
      have HCP := Lib.hid hcp
      have HBR := Lib.hid hbr
      have HBZ := Lib.hid hbz
      have HSR := Lib.hid hs
      have HNS := Lib.hid hNs
      have j1 : (0 : Int) ≤ (k : Int) := by omega
      have j2 : (k : Int) < (n : Int) := by omega
      clear R hx hrr g1 g2 g3 hh hmk hcp hbr hbz hs hNs
      obtain ⟨k', t1, t2, s1, s2, lv, S, sn, sp, a, cnt, P, pn, pp, L, ln, lp, c, f⟩ := x
      simp only at c0 c1 c2 c3 c4 c5 c6 c7 c8 c9 c10 CM
      go_wp2_with fail
      refine CM.out.mono ?_
      rintro _ wa ⟨S', p', A', q', B', r', bs', mid', rfl, y1, y2, hol, sa⟩
      have SA := Lib.hid (((Span.refl 0 0 wr).alloc (.cells #[.int .i64 k', .complex .f32 t1 t2, .complex .f32 s1 s2, .float .f32 lv, .slice S sn sp, .int .i64 a, .int .i64 cnt, .slice P pn pp, .slice L ln lp, .int .i64 c, .int .i64 f] 32)).trans sa)
      have MA := HMK.out.span SA.out (.inl (Nat.le_refl _))
      have hex : ∀ o', o' < 11 → ∃ u, wa.cell? ⟨b, k * 11 + o', none⟩ = some u := fun o' ho => MA.2.1 _ (by omega)
      obtain ⟨v0, d0⟩ := hex 0 (by omega)
      obtain ⟨v1, d1⟩ := hex 1 (by omega)
      obtain ⟨v2, d2⟩ := hex 2 (by omega)
      obtain ⟨v3, d3⟩ := hex 3 (by omega)
      obtain ⟨v4, d4⟩ := hex 4 (by omega)
      obtain ⟨v5, d5⟩ := hex 5 (by omega)
      obtain ⟨v6, d6⟩ := hex 6 (by omega)
      obtain ⟨v7, d7⟩ := hex 7 (by omega)
      obtain ⟨v8, d8⟩ := hex 8 (by omega)
      obtain ⟨v9, d9⟩ := hex 9 (by omega)
      obtain ⟨v10, d10⟩ := hex 10 (by omega)
      rw [Nat.add_zero] at d0
      have fz := MA.2.2.1
      have zb : Hid (b < wr.heap.size) := HMK.out.1
      have HOL := Lib.hid hol
      have HY := Lib.hid (And.intro y1 y2)
      have HMA := Lib.hid MA
      clear hex MA hol sa y1 y2 c0 c1 c2 c3 c4 c5 c6 c7 c8 c9 c10
      go_wp2_with fail
      go_roundw
      case rel =>
        have z1 := zb.out
        have z2 := HY.out
        have z3 := HB.out
        have z4 : (wr.alloc (.cells #[.int .i64 k', .complex .f32 t1 t2, .complex .f32 s1 s2, .float .f32 lv, .slice S sn sp, .int .i64 a, .int .i64 cnt, .slice P pn pp, .slice L ln lp, .int .i64 c, .int .i64 f] 32)).heap.size = wr.heap.size + 1 := by simp
        have SQ := Span.cellsSet (lo := b) (hi := b + 1) (b := b) (a := wa) ⟨Nat.le_refl _, Nat.lt_succ_self _⟩ (Mw.l ⟨k', t1, t2, s1, s2, lv, S', sn, p', a, cnt, A', pn, q', B', ln, r', c, f⟩) (k * 11) wa (Span.refl _ _ _)
        have SW : Span 0 0 w (wa.setCells b (k * 11) (Mw.l ⟨k', t1, t2, s1, s2, lv, S', sn, p', a, cnt, A', pn, q', B', ln, r', c, f⟩)) := ⟨SQ.os.trans (HSR.out.trans SA.out).os, SQ.tape.trans (HSR.out.trans SA.out).tape, SQ.output.trans (HSR.out.trans SA.out).output, Nat.le_trans (HSR.out.trans SA.out).size SQ.size, fun j hj _ => (SQ.block j (Nat.lt_of_lt_of_le hj (HSR.out.trans SA.out).size) (by omega)).trans ((HSR.out.trans SA.out).block j hj (by omega))⟩
        have MP := HMA.out.put ⟨k', t1, t2, s1, s2, lv, S', sn, p', a, cnt, A', pn, q', B', ln, r', c, f⟩ (by rw [HNS.out]; exact hlt)
        rw [HNS.out] at MP
        have CP := ((HCP.out.span SA.out (.inl (Nat.le_refl _))).span SQ (.inr (Nat.le_refl _))).snoc ⟨k', t1, t2, s1, s2, lv, S', sn, p', a, cnt, A', pn, q', B', ln, r', c, f⟩ _ _ (by rw [HNS.out]; exact HX.out) (by rw [HNS.out]; exact HRR.out) rfl (by rw [z4]; omega) z2.1 (HOL.out.span SQ (.inr ⟨by rw [z4]; omega, by rw [z4] at z2; omega⟩))
        have BRx := (HBR.out.keep SA.out).span SQ (by omega)
        have BZx := (HBZ.out.keep SA.out).span SQ (by omega)
        rw [setCells_mw] at MP CP BRx BZx SW
        exact ⟨k + 1, Ns ++ [⟨k', t1, t2, s1, s2, lv, S', sn, p', a, cnt, A', pn, q', B', ln, r', c, f⟩], by omega, by go_num, by rw [List.length_append, HNS.out]; rfl, MP, CP, BRx, BZx, SW⟩
      case measure => simp [intOf]; omega
    · have hkn : k = n := by omega
      subst hkn
      have CC := Lib.hid (cloneCab_any Cs _ _ _ _ wr (HR.out.keep hs).cabs (by rw [← HM.out]; have := H40.out; omega))
      have cr := hbr.cells
      have HMK := Lib.hid hmk
      have HCP := Lib.hid hcp
      have HBZ := Lib.hid hbz
      have HSR := Lib.hid hs
      have HNS := Lib.hid hNs
      clear hmk hcp hbr hbz hs hNs
      go_wp2_with fail
      refine CC.out.mono ?_
      rintro _ wb ⟨vC, bC', rfl, hC, sb⟩
      obtain ⟨A1, q1, rfl, -⟩ := id hC
      rw [← HM.out] at hC ⊢
      have BB := HBZ.out.keep sb
      have cz := BB.cells
      have fz := BB.thaw
      have BS := Lib.hid (BB.set2 (.slice (some ⟨b, 0, none⟩) k k) (.slice A1 m q1))
      have HC := Lib.hid hC
      have SB := Lib.hid sb
      clear hC sb BB cr
      go_wp2_with fail
      have d1 := BS.out.cells
      have SQ := ((Span.refl (w.heap.size + 1) (w.heap.size + 2) wb).setCell (p := ⟨w.heap.size + 1, 0, none⟩) (.inl ⟨Nat.le_refl _, Nat.lt_succ_self _⟩) (.slice (some ⟨b, 0, none⟩) k k)).setCell (p := ⟨w.heap.size + 1, 1, none⟩) (.inl ⟨Nat.le_refl _, Nat.lt_succ_self _⟩) (.slice A1 m q1)
      have SW := ((HSR.out.trans SB.out).setCell (p := ⟨w.heap.size + 1, 0, none⟩) (.inr (Nat.le_succ _)) (.slice (some ⟨b, 0, none⟩) k k)).setCell (p := ⟨w.heap.size + 1, 1, none⟩) (.inr (Nat.le_succ _)) (.slice A1 m q1)
      have z3 := HB.out
      have z4 := HMK.out.1
      have z5 := SQ.size
      refine bodyPost_ret (v := .agg #[.slice (some ⟨b, 0, none⟩) k k, .slice A1 m q1]) (by simp [results, Tryz.results57, go_sem, d1]) rfl ⟨b, A1, q1, bC', Ns, rfl, by omega, (HMK.out.span SB.out (.inl (Nat.le_refl _))).span SQ (by omega), HNS.out, (HCP.out.span SB.out (.inl (Nat.le_refl _))).span SQ (by omega), ?_, SW⟩
      exact (HC.out.span SQ (by omega)).weak (by omega) (.inl z5)
end
end Go.Proofs.YtkjlodoppmipfaaGreat
