/- A copy of a table; tables that are turned. Tables that are turned. Pools without leases: made, compared, marked, looked at. -/
import Derived.Test.YtlhocjoncblocaaJq19
import Derived.Test.YtlhocjoncblocaaJq17
import Derived.Outline
namespace Go.Proofs.Ytlhocjoncblocaa
section
open Go.RowKit

def GivesT (t : Tab) (w : World) (e : Ending) (w' : World) : Prop :=
  ∃ v, e = .returned v ∧ HasTab true w.heap.size w'.heap.size w' v t ∧ Span 0 0 w w'

theorem HasS.apart {α β : Type} {val : α → Value} {val' : β → Value} {o o' : Bool} {b b' lo mid hi : Nat} {w : World} {v v' : Value} {xs : List α} {ys : List β} (h : HasS val o b lo mid w v xs) (h' : HasS val' o' b' mid hi w v' ys) (hl : 0 < xs.length) (hl' : 0 < ys.length) : b ≠ b' := by
  obtain ⟨A, c, rfl, _, hc⟩ := h
  obtain ⟨A', c', rfl, _, hc'⟩ := h'
  obtain ⟨_, _, _, h1, _⟩ := hc hl
  obtain ⟨_, _, h2, _⟩ := hc' hl'
  omega

theorem HasS.setCell {α : Type} {val : α → Value} {own : Bool} {b lo hi b0 o0 : Nat} {w : World} {v : Value} {xs : List α} (h : HasS val own b lo hi w v xs) (hd : b0 < lo) (u : Value) : HasS val own b lo hi (w.setCell ⟨b0, o0, none⟩ u) v xs :=
  h.span ((Span.refl b0 (b0 + 1) w).setCell (.inl ⟨Nat.le_refl _, Nat.lt_succ_self _⟩) u) (by omega)

theorem tab_of {own : Bool} {b1 b2 lo mid hi : Nat} {w : World} {vP vL : Value} {t : Tab} (h1 : HasS cxV own b1 lo mid w vP t.1) (h2 : HasS intV own b2 mid hi w vL t.2) (hl : lo ≤ mid) (hm : mid ≤ hi) : HasTab own lo hi w (.agg #[vP, vL]) t := by
  obtain ⟨P, L⟩ := t
  by_cases hP : 0 < P.length
  · by_cases hL : 0 < L.length
    · exact ⟨b1, b2, vP, vL, rfl, h1.apart h2 hP hL, h1.weak (Nat.le_refl _) (.inl hm), h2.weak hl (.inl (Nat.le_refl _))⟩
    · have e : L = [] := by cases L with | nil => rfl | cons a l => simp at hL
      subst e
      obtain ⟨A, c, rfl, _⟩ := h2
      exact ⟨b1, b1 + 1, vP, _, rfl, by omega, h1.weak (Nat.le_refl _) (.inl hm), HasS.empty _ _ _ _ _ _ _ _⟩
  · have e : P = [] := by cases P with | nil => rfl | cons a l => simp at hP
    subst e
    obtain ⟨A, c, rfl, _⟩ := h1
    exact ⟨b2 + 1, b2, _, vL, rfl, by omega, HasS.empty _ _ _ _ _ _ _ _, h2.weak hl (.inl (Nat.le_refl _))⟩

/-- A box of two cells that may be written. -/
def Box (b : Nat) (u v : Value) (w : World) : Prop := b < w.heap.size ∧ w.cell? ⟨b, 0, none⟩ = some u ∧ w.cell? ⟨b, 1, none⟩ = some v ∧ w.frozen? ⟨b, 0, none⟩ = false ∧ w.frozen? ⟨b, 1, none⟩ = false
theorem Box.new (w : World) (u v : Value) (t : TypeId) : Box w.heap.size u v (w.alloc (.cells #[u, v] t)) :=
  ⟨by simp, (box2_new w u v t).1, (box2_new w u v t).2, by rw [World.frozen?_alloc_new], by rw [World.frozen?_alloc_new]⟩
theorem Box.span {b : Nat} {u v : Value} {w w' : World} {lo hi : Nat} (h : Box b u v w) (hs : Span lo hi w w') (hd : hi ≤ lo ∨ b < lo ∨ hi ≤ b) : Box b u v w' := by
  obtain ⟨h0, h1, h2, h3, h4⟩ := h
  have e := hs.block b h0 (by omega)
  exact ⟨Nat.lt_of_lt_of_le h0 hs.size, (World.cell?_of_block (w := w) (a := ⟨b, 0, none⟩) e).trans h1, (World.cell?_of_block (w := w) (a := ⟨b, 1, none⟩) e).trans h2,
    (World.frozen?_of_block (w := w) (a := ⟨b, 0, none⟩) e).trans h3, (World.frozen?_of_block (w := w) (a := ⟨b, 1, none⟩) e).trans h4⟩
theorem Box.alloc {b : Nat} {u v : Value} {w : World} (h : Box b u v w) (o : Obj) : Box b u v (w.alloc o) := h.span ((Span.refl 0 0 w).alloc o) (.inl (Nat.le_refl _))
theorem Box.drewN {b : Nat} {u v : Value} {w : World} (h : Box b u v w) (n : Nat) : Box b u v (w.drewN n) := h
end
section
open Go.RowKit

theorem box_stored {b : Nat} {u v u' v' : Value} {w : World} (h : Box b u v w) :
    ((w.setCell ⟨b, 0, none⟩ u').setCell ⟨b, 1, none⟩ v').cell? ⟨b, 0, none⟩ = some u' ∧ ((w.setCell ⟨b, 0, none⟩ u').setCell ⟨b, 1, none⟩ v').cell? ⟨b, 1, none⟩ = some v' :=
  ⟨(World.cell?_setCell_other _ ⟨b, 1, none⟩ ⟨b, 0, none⟩ _ (by simp)).trans (World.cell?_setCell_same w ⟨b, 0, none⟩ _ h.2.1),
    World.cell?_setCell_same _ ⟨b, 1, none⟩ _ ((World.cell?_setCell_other _ ⟨b, 0, none⟩ ⟨b, 1, none⟩ _ (by simp)).trans h.2.2.1)⟩

theorem impl_equalPoints (a b : Cx) (w : World) : Calls Try.prog 66 #[.complex .f32 a.1 a.2, .complex .f32 b.1 b.2] w fun e w' => e = .returned (.bool (eqC a b)) ∧ w = w' := by
  obtain ⟨a1, a2⟩ := a
  obtain ⟨b1, b2⟩ := b
  simp only
  go_enter Try.func66, Try.ntmps66
  go_wp2
  go_ret
  exact ⟨rfl, rfl⟩

/-- All points have products. -/
def Turned (Q : List Cx) (z : Cx) (R : List Cx) : Prop := R.length = Q.length ∧ ∀ (j : Nat) (p : Cx), Q[j]? = some p → ∃ r, mulS p z = some r ∧ R[j]? = some r

/-- Points in the course of being turned: the first k are new. -/
structure Turning (Q R : List Cx) (L : List Int) (c1 off c2 lo hi : Nat) (vL : Value) (G F : Nat) (u v u' v' : Value) (w : World) (k : Nat) (wr : World) : Prop where
  new : ∀ (j : Nat) (p : Cx), R[j]? = some p → j < k → wr.cell? ⟨c1, off + j, none⟩ = some (.complex .f32 p.1 p.2)
  old : ∀ (j : Nat) (p : Cx), Q[j]? = some p → k ≤ j → wr.cell? ⟨c1, off + j, none⟩ = some (.complex .f32 p.1 p.2)
  free : ∀ j, j < Q.length → wr.frozen? ⟨c1, off + j, none⟩ = false
  labels : HasS intV true c2 lo hi wr vL L
  g : Box G u v wr
  f : Box F u' v' wr
  s : Span 0 0 w wr
  size : hi ≤ wr.heap.size

theorem Turning.step {Q R : List Cx} {L : List Int} {c1 off c2 lo hi : Nat} {vL : Value} {G F : Nat} {u v u' v' : Value} {w : World} {k : Nat} {wr : World} (h : Turning Q R L c1 off c2 lo hi vL G F u v u' v' w k wr)
    (hc : c1 ≠ c2) (h1 : lo ≤ c1) (h2 : c1 < hi) (hG : G < lo ∨ hi ≤ G) (hF : F < lo ∨ hi ≤ F) (hw : w.heap.size ≤ lo) {p r : Cx} (hp : Q[k]? = some p) (hr : R[k]? = some r) (hl : R.length = Q.length) :
    Turning Q R L c1 off c2 lo hi vL G F u v u' v' w (k + 1) (wr.setCell ⟨c1, off + k, none⟩ (.complex .f32 r.1 r.2)) := by
  have sp : Span c1 (c1 + 1) wr (wr.setCell ⟨c1, off + k, none⟩ (.complex .f32 r.1 r.2)) := (Span.refl c1 (c1 + 1) wr).setCell (p := ⟨c1, off + k, none⟩) (.inl ⟨Nat.le_refl _, Nat.lt_succ_self _⟩) _
  have hk := h.old k p hp (Nat.le_refl _)
  refine ⟨fun j q hq hj => ?_, fun j q hq hj => ?_, fun j hj => by rw [World.frozen?_setCell]; exact h.free j hj, h.labels.span sp (by omega), h.g.span sp (by omega), h.f.span sp (by omega), h.s.setCell (.inr (by simp only; omega)) _, by simpa [World.setCell] using h.size⟩
  · by_cases e : j = k
    · subst e
      rw [hr] at hq; cases hq
      exact World.cell?_setCell_same wr ⟨c1, off + j, none⟩ _ hk
    · exact (World.cell?_setCell_other wr ⟨c1, off + k, none⟩ ⟨c1, off + j, none⟩ _ (by intro e; injection e; omega)).trans (h.new j q hq (by omega))
  · exact (World.cell?_setCell_other wr ⟨c1, off + k, none⟩ ⟨c1, off + j, none⟩ _ (by intro e; injection e; omega)).trans (h.old j q hq (by omega))

theorem Turning.drewN {Q R : List Cx} {L : List Int} {c1 off c2 lo hi : Nat} {vL : Value} {G F : Nat} {u v u' v' : Value} {w : World} {k : Nat} {wr : World} (h : Turning Q R L c1 off c2 lo hi vL G F u v u' v' w k wr) (n : Nat) :
    Turning Q R L c1 off c2 lo hi vL G F u v u' v' w k (wr.drewN n) := ⟨h.new, h.old, h.free, h.labels, h.g, h.f, h.s.drewN n, h.size⟩
end
section
open Go.RowKit

/-- A pool without leases. -/
def HasP0 (own : Bool) (lo hi : Nat) (w : World) (v : Value) (xs : List Cx) : Prop :=
  ∃ b vS, v = .agg #[vS, .slice none 0 0] ∧ HasS cxV own b lo hi w vS xs

theorem HasP0.span {own : Bool} {lo hi l r : Nat} {w w' : World} {v : Value} {t : List Cx} (h : HasP0 own lo hi w v t) (hs : Span l r w w') (hd : r ≤ l ∨ hi ≤ l ∨ r ≤ lo) : HasP0 own lo hi w' v t := by
  obtain ⟨b1, vS, rfl, h1⟩ := h
  exact ⟨b1, vS, rfl, h1.span hs (by omega)⟩
theorem HasP0.weak {own : Bool} {lo hi lo' hi' : Nat} {w : World} {v : Value} {t : List Cx} (h : HasP0 own lo hi w v t) (h1 : lo' ≤ lo) (h2 : hi ≤ hi' ∨ w.heap.size ≤ hi') : HasP0 own lo' hi' w v t := by
  obtain ⟨b1, vS, rfl, g1⟩ := h
  exact ⟨b1, vS, rfl, g1.weak h1 h2⟩
theorem HasP0.form {own : Bool} {lo hi : Nat} {w : World} {v : Value} {t : List Cx} (h : HasP0 own lo hi w v t) : ∃ A c, v = .agg #[.slice A t.length c, .slice none 0 0] := by
  obtain ⟨b1, vS, rfl, h1⟩ := h
  obtain ⟨A, c, rfl, _⟩ := h1
  exact ⟨A, c, rfl⟩
theorem HasP0.none_ (own : Bool) (lo hi : Nat) (w : World) : HasP0 own lo hi w (.agg #[.slice none 0 0, .slice none 0 0]) [] :=
  ⟨0, _, rfl, HasS.empty _ _ _ _ _ _ _ _⟩

/-- A pool that is made, or none. -/
def GivesP0 (o : Option (List Cx)) (w : World) (e : Ending) (w' : World) : Prop :=
  ∃ v, e = .returned (.tuple #[v, .bool o.isSome]) ∧ HasP0 true w.heap.size w'.heap.size w' v (o.getD []) ∧ Span 0 0 w w'

def poolO (n : Int) : Option (List Cx) := if 0 ≤ n ∧ n ≤ 256 then some (List.replicate n.toNat (0, 0)) else none

theorem poolO_len (n : Int) : ((poolO n).getD []).length ≤ 256 := by
  unfold poolO
  by_cases h : 0 ≤ n ∧ n ≤ 256
  · rw [if_pos h]; simp; omega
  · rw [if_neg h]; simp

theorem zeros_hasS (w : World) (m lo hi : Nat) (h1 : lo ≤ w.heap.size) (h2 : w.heap.size < hi) : HasS cxV true w.heap.size lo hi (w.alloc (.cells (zerosV (.complex .f32 0 0) m) 48)) (.slice (some ⟨w.heap.size, 0, none⟩) m m) (List.replicate m (0, 0)) := by
  have hF : Filled (w.alloc (.cells (zerosV (.complex .f32 0 0) m) 48)) w.heap.size 48 m m (fun _ => .complex .f32 0 0) :=
    ⟨zerosV (.complex .f32 0 0) m, heap_alloc_new _ _, by simp [zerosV], fun j hj => by simp [zerosV, hj]⟩
  have := Filled.hasS (val := cxV) (xs := List.replicate m ((0, 0) : Cx)) (lo := lo) (hi := hi) (w := w.alloc (.cells (zerosV (.complex .f32 0 0) m) 48)) (g := w.heap.size) (e := 48) (f := fun _ => .complex .f32 0 0) (by rw [List.length_replicate]; exact hF)
    (fun j x hj => by obtain ⟨_, h⟩ := List.getElem?_eq_some_iff.1 hj; simp at h; rw [← h]; rfl) h1 h2
  rw [List.length_replicate] at this
  exact this

set_option maxRecDepth 100000 in
theorem spec_newPool (n : Int) (w : World) : Calls Try.prog 70 #[.int .i64 n] w (GivesP0 (poolO n) w) := by
  unfold poolO
  by_cases h1 : 0 ≤ n ∧ n ≤ 256
  · obtain ⟨m, rfl⟩ := Int.eq_ofNat_of_zero_le (show 0 ≤ n by omega)
    rw [if_pos (by omega)]
    have i0 : Hid (decide ((0 : Int) ≤ (m : Int) ∧ (m : Int) ≤ 256) = true) := by unfold Hid; rw [decide_eq_true_iff]; omega
    have hmk := run_make_zeros (P := Try.prog) (w.alloc (.cells #[.slice none 0 0, .slice none 0 0] 26)) 23 48 (.complex .f32 0 0) 8 Try.underlying23 info_c64 rfl m (by omega) (by omega)
    go_enter Try.func70, Try.ntmps70
    go_wp2_with fail
    refine (l1In_any _ _ _ _).mono ?_
    rintro _ _ ⟨rfl, rfl⟩
    rw [i0.out]
    go_wp2_with fail
    have HZ := Lib.hid (zeros_hasS (w.alloc (.cells #[.slice (some ⟨w.heap.size + 1, 0, none⟩) m m, .slice none 0 0] 26)) m (w.heap.size + 1) (w.heap.size + 2) (by simp) (by simp))
    have HX := (Box.new w (.slice (some ⟨w.heap.size + 1, 0, none⟩) m m) (.slice none 0 0) 26).alloc (.cells (zerosV (.complex .f32 0 0) m) 48)
    rw [show (w.alloc (.cells #[.slice (some ⟨w.heap.size + 1, 0, none⟩) m m, .slice none 0 0] 26)).heap.size = w.heap.size + 1 by simp] at HZ
    refine bodyPost_ret (v := .tuple #[.agg #[.slice (some ⟨w.heap.size + 1, 0, none⟩) m m, .slice none 0 0], .bool true]) (by simp [results, Try.results70, go_sem, HX.2.1, HX.2.2.1]) rfl ⟨_, rfl, ?_, ((Span.refl 0 0 w).alloc _).alloc _⟩
    exact HasP0.weak (lo := w.heap.size + 1) (hi := w.heap.size + 2) ⟨w.heap.size + 1, _, rfl, HZ.out⟩ (by omega) (.inl (by simp))
  · rw [if_neg h1]
    have b3 : Hid (decide ((0 : Int) ≤ n ∧ n ≤ 256) = false) := by unfold Hid; rw [decide_eq_false_iff_not]; omega
    clear h1
    go_enter Try.func70, Try.ntmps70
    go_wp2_with fail
    refine (l1In_any _ _ _ _).mono ?_
    rintro _ _ ⟨rfl, rfl⟩
    rw [b3.out]
    go_wp2
    exact bodyPost_ret (v := .tuple #[.agg #[.slice none 0 0, .slice none 0 0], .bool false]) (by simp [results, Try.results70, go_sem]) rfl ⟨_, rfl, HasP0.none_ _ _ _ _, (Span.refl _ _ _).alloc _⟩

/-- What marking a pool gives. -/
def MarksP0 (lo hi : Nat) (v : Value) (xs : List Cx) (n k : Nat) (w : World) (e : Ending) (w' : World) : Prop :=
  e = .returned (.int .i64 ((k + n : Nat) : Int)) ∧ HasP0 true lo hi w' v xs ∧ Span lo hi w w'
end
end Go.Proofs.Ytlhocjoncblocaa
