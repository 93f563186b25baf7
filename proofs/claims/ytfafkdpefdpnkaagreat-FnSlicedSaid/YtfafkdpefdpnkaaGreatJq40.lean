/- Tables that are turned. -/
import Derived.Test.YtfafkdpefdpnkaaGreatJq36
namespace Go.Proofs.YtfafkdpefdpnkaaGreat
open Go.RowKit

theorem box_stored {b : Nat} {u v u' v' : Value} {w : World} (h : Box b u v w) :
    ((w.setCell ⟨b, 0, none⟩ u').setCell ⟨b, 1, none⟩ v').cell? ⟨b, 0, none⟩ = some u' ∧ ((w.setCell ⟨b, 0, none⟩ u').setCell ⟨b, 1, none⟩ v').cell? ⟨b, 1, none⟩ = some v' :=
  ⟨(World.cell?_setCell_other _ ⟨b, 1, none⟩ ⟨b, 0, none⟩ _ (by simp)).trans (World.cell?_setCell_same w ⟨b, 0, none⟩ _ h.2.1),
    World.cell?_setCell_same _ ⟨b, 1, none⟩ _ ((World.cell?_setCell_other _ ⟨b, 0, none⟩ ⟨b, 1, none⟩ _ (by simp)).trans h.2.2.1)⟩

/-- All points have products. -/
def Turned (Q : List Cx) (z : Cx) (R : List Cx) : Prop := R.length = Q.length ∧ ∀ (j : Nat) (p : Cx), Q[j]? = some p → ∃ r, mulS p z = some r ∧ R[j]? = some r

/-- Points in the course of being turned: the first k are new. -/
structure Turning (Q R : List Cx) (L : List Int) (c1 off c2 lo hi : Nat) (vL : Value) (G F : Nat) (u v u' v' : Value) (w : World) (k : Nat) (wr : World) : Prop where
  new : ∀ (j : Nat) (p : Cx), R[j]? = some p → j < k → wr.cell? ⟨c1, off + j, none⟩ = some (.complex .f32 p.1 p.2)
  old : ∀ (j : Nat) (p : Cx), Q[j]? = some p → k ≤ j → wr.cell? ⟨c1, off + j, none⟩ = some (.complex .f32 p.1 p.2)
  free : ∀ j, j < Q.length → wr.frozen? ⟨c1, off + j, none⟩ = false
  labels : HasS intV true c2 lo hi wr vL L
  g : Box G u v wr
  f : Box F u' v' wr
  s : Span 0 0 w wr
  size : hi ≤ wr.heap.size

theorem Turning.step {Q R : List Cx} {L : List Int} {c1 off c2 lo hi : Nat} {vL : Value} {G F : Nat} {u v u' v' : Value} {w : World} {k : Nat} {wr : World} (h : Turning Q R L c1 off c2 lo hi vL G F u v u' v' w k wr)
    (hc : c1 ≠ c2) (h1 : lo ≤ c1) (h2 : c1 < hi) (hG : G < lo ∨ hi ≤ G) (hF : F < lo ∨ hi ≤ F) (hw : w.heap.size ≤ lo) {p r : Cx} (hp : Q[k]? = some p) (hr : R[k]? = some r) (hl : R.length = Q.length) :
    Turning Q R L c1 off c2 lo hi vL G F u v u' v' w (k + 1) (wr.setCell ⟨c1, off + k, none⟩ (.complex .f32 r.1 r.2)) := by
  have sp : Span c1 (c1 + 1) wr (wr.setCell ⟨c1, off + k, none⟩ (.complex .f32 r.1 r.2)) := (Span.refl c1 (c1 + 1) wr).setCell (p := ⟨c1, off + k, none⟩) (.inl ⟨Nat.le_refl _, Nat.lt_succ_self _⟩) _
  have hk := h.old k p hp (Nat.le_refl _)
  refine ⟨fun j q hq hj => ?_, fun j q hq hj => ?_, fun j hj => by rw [World.frozen?_setCell]; exact h.free j hj, h.labels.span sp (by omega), h.g.span sp (by omega), h.f.span sp (by omega), h.s.setCell (.inr (by simp only; omega)) _, by simpa [World.setCell] using h.size⟩
  · by_cases e : j = k
    · subst e
      rw [hr] at hq; cases hq
      exact World.cell?_setCell_same wr ⟨c1, off + j, none⟩ _ hk
    · exact (World.cell?_setCell_other wr ⟨c1, off + k, none⟩ ⟨c1, off + j, none⟩ _ (by intro e; injection e; omega)).trans (h.new j q hq (by omega))
  · exact (World.cell?_setCell_other wr ⟨c1, off + k, none⟩ ⟨c1, off + j, none⟩ _ (by intro e; injection e; omega)).trans (h.old j q hq (by omega))

theorem Turning.drewN {Q R : List Cx} {L : List Int} {c1 off c2 lo hi : Nat} {vL : Value} {G F : Nat} {u v u' v' : Value} {w : World} {k : Nat} {wr : World} (h : Turning Q R L c1 off c2 lo hi vL G F u v u' v' w k wr) (n : Nat) :
    Turning Q R L c1 off c2 lo hi vL G F u v u' v' w k (wr.drewN n) := ⟨h.new, h.old, h.free, h.labels, h.g, h.f, h.s.drewN n, h.size⟩
end Go.Proofs.YtfafkdpefdpnkaaGreat
