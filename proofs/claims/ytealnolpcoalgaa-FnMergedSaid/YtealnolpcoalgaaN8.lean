/- Tables that are turned. -/
import Derived.Test.YtealnolpcoalgaaN7
namespace Go.Proofs.Ytealnolpcoalgaa
open Go.RowKit

theorem box_stored {b : Nat} {u v u' v' : Value} {w : World} (h : Box b u v w) :
    ((w.setCell ⟨b, 0, none⟩ u').setCell ⟨b, 1, none⟩ v').cell? ⟨b, 0, none⟩ = some u' ∧ ((w.setCell ⟨b, 0, none⟩ u').setCell ⟨b, 1, none⟩ v').cell? ⟨b, 1, none⟩ = some v' :=
  ⟨(World.cell?_setCell_other _ ⟨b, 1, none⟩ ⟨b, 0, none⟩ _ (by simp)).trans (World.cell?_setCell_same w ⟨b, 0, none⟩ _ h.2.1),
    World.cell?_setCell_same _ ⟨b, 1, none⟩ _ ((World.cell?_setCell_other _ ⟨b, 0, none⟩ ⟨b, 1, none⟩ _ (by simp)).trans h.2.2.1)⟩

set_option maxRecDepth 100000 in
set_option maxHeartbeats 2000000 in
theorem onlyValid_true (t : Tab) (o : Bool) (lo hi : Nat) (v : Value) (w : World) (hx : HasTab o lo hi w v t) (ht : Valid t) :
    Calls Try.prog 40 #[v] w fun e w' => e = .returned (.tuple #[v, .bool true]) ∧ Span 0 0 w w' := by
  obtain ⟨AP, cP, AL, cL, rfl⟩ := hx.form
  obtain ⟨lp, hlp⟩ : ∃ n, n = t.1.length := ⟨_, rfl⟩
  obtain ⟨ll, hll⟩ : ∃ n, n = t.2.length := ⟨_, rfl⟩
  rw [← hlp, ← hll] at hx ⊢
  have HX := Lib.hid hx
  have HT := Lib.hid ht
  clear hx ht hlp hll
  have X0 := Lib.hid ((Box.new w (.slice AP lp cP) (.slice AL ll cL) 26).alloc (.cells #[.slice none 0 0, .slice none 0 0] 26))
  have X1 := Lib.hid (Box.new (w.alloc (.cells #[.slice AP lp cP, .slice AL ll cL] 26)) (.slice none 0 0) (.slice none 0 0) 26)
  rw [show (w.alloc (.cells #[.slice AP lp cP, .slice AL ll cL] 26)).heap.size = w.heap.size + 1 by simp] at X1
  have HS := Lib.hid ((((Span.refl 0 0 w).alloc (.cells #[.slice AP lp cP, .slice AL ll cL] 26))).alloc (.cells #[.slice none 0 0, .slice none 0 0] 26))
  go_enter Try.func40, Try.ntmps40
  go_wp2_with fail
  refine (impl_isTable_true t o lo hi _ _ (HX.out.span HS.out (.inl (Nat.le_refl _))) HT.out).mono ?_
  rintro _ w1 ⟨rfl, s1⟩
  obtain ⟨_, x0, x1, _, _⟩ := X0.out.span s1 (.inl (Nat.le_refl _))
  have X2 := X1.out.span s1 (.inl (Nat.le_refl _))
  obtain ⟨hr, r0, r1, r2, r3⟩ := id X2
  have HB := Lib.hid (box_stored (u' := .slice AP lp cP) (v' := .slice AL ll cL) X2)
  have S1 := Lib.hid (s1.after HS.out)
  clear s1 X2 hr
  go_wp2_with fail
  exact bodyPost_ret (v := .tuple #[.agg #[.slice AP lp cP, .slice AL ll cL], .bool true]) (by simp [results, Try.results40, go_sem, HB.out.1, HB.out.2]) rfl ⟨rfl, (S1.out.setCell (.inr (by simp)) _).setCell (.inr (by simp)) _⟩

/-- All points have products. -/
def Turned (Q : List Cx) (z : Cx) (R : List Cx) : Prop := R.length = Q.length ∧ ∀ (j : Nat) (p : Cx), Q[j]? = some p → ∃ r, mulS p z = some r ∧ R[j]? = some r

/-- Points in the course of being turned: the first k are new. -/
structure Turning (Q R : List Cx) (L : List Int) (c1 off c2 lo hi : Nat) (vL : Value) (G F : Nat) (u v u' v' : Value) (w : World) (k : Nat) (wr : World) : Prop where
  new : ∀ (j : Nat) (p : Cx), R[j]? = some p → j < k → wr.cell? ⟨c1, off + j, none⟩ = some (.complex .f32 p.1 p.2)
  old : ∀ (j : Nat) (p : Cx), Q[j]? = some p → k ≤ j → wr.cell? ⟨c1, off + j, none⟩ = some (.complex .f32 p.1 p.2)
  free : ∀ j, j < Q.length → wr.frozen? ⟨c1, off + j, none⟩ = false
  labels : HasS intV true c2 lo hi wr vL L
  g : Box G u v wr
  f : Box F u' v' wr
  s : Span 0 0 w wr
  size : hi ≤ wr.heap.size

theorem Turning.step {Q R : List Cx} {L : List Int} {c1 off c2 lo hi : Nat} {vL : Value} {G F : Nat} {u v u' v' : Value} {w : World} {k : Nat} {wr : World} (h : Turning Q R L c1 off c2 lo hi vL G F u v u' v' w k wr)
    (hc : c1 ≠ c2) (h1 : lo ≤ c1) (h2 : c1 < hi) (hG : G < lo ∨ hi ≤ G) (hF : F < lo ∨ hi ≤ F) (hw : w.heap.size ≤ lo) {p r : Cx} (hp : Q[k]? = some p) (hr : R[k]? = some r) (hl : R.length = Q.length) :
    Turning Q R L c1 off c2 lo hi vL G F u v u' v' w (k + 1) (wr.setCell ⟨c1, off + k, none⟩ (.complex .f32 r.1 r.2)) := by
  have sp : Span c1 (c1 + 1) wr (wr.setCell ⟨c1, off + k, none⟩ (.complex .f32 r.1 r.2)) := (Span.refl c1 (c1 + 1) wr).setCell (p := ⟨c1, off + k, none⟩) (.inl ⟨Nat.le_refl _, Nat.lt_succ_self _⟩) _
  have hk := h.old k p hp (Nat.le_refl _)
  refine ⟨fun j q hq hj => ?_, fun j q hq hj => ?_, fun j hj => by rw [World.frozen?_setCell]; exact h.free j hj, h.labels.span sp (by omega), h.g.span sp (by omega), h.f.span sp (by omega), h.s.setCell (.inr (by simp only; omega)) _, by simpa [World.setCell] using h.size⟩
  · by_cases e : j = k
    · subst e
      rw [hr] at hq; cases hq
      exact World.cell?_setCell_same wr ⟨c1, off + j, none⟩ _ hk
    · exact (World.cell?_setCell_other wr ⟨c1, off + k, none⟩ ⟨c1, off + j, none⟩ _ (by intro e; injection e; omega)).trans (h.new j q hq (by omega))
  · exact (World.cell?_setCell_other wr ⟨c1, off + k, none⟩ ⟨c1, off + j, none⟩ _ (by intro e; injection e; omega)).trans (h.old j q hq (by omega))

theorem Turning.drewN {Q R : List Cx} {L : List Int} {c1 off c2 lo hi : Nat} {vL : Value} {G F : Nat} {u v u' v' : Value} {w : World} {k : Nat} {wr : World} (h : Turning Q R L c1 off c2 lo hi vL G F u v u' v' w k wr) (n : Nat) :
    Turning Q R L c1 off c2 lo hi vL G F u v u' v' w k (wr.drewN n) := ⟨h.new, h.old, h.free, h.labels, h.g, h.f, h.s.drewN n, h.size⟩

end Go.Proofs.Ytealnolpcoalgaa
