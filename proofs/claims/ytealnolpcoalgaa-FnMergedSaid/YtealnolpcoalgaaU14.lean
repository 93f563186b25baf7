/- FnTables. -/
import Derived.Test.YtealnolpcoalgaaU13
import Derived.Test.YtealnolpcoalgaaF3
namespace Go.Proofs.Ytealnolpcoalgaa
open Go.RowKit

theorem hasBy_span {w w' : World} {A : Option Addr} {n : Nat} (h : HasBy w.heap.size w A n) (s : Span 0 0 w w') : HasBy w'.heap.size w' A n := fun hp => by
  obtain ⟨b, off, rfl, hb, hc⟩ := h hp
  refine ⟨b, off, rfl, Nat.lt_of_lt_of_le hb s.size, fun j hj => ?_⟩
  obtain ⟨u, u0, u1, hu⟩ := hc j hj
  exact ⟨u, u0, u1, ((s.cells (Nat.le_refl _)).1 b _ hb).trans hu⟩

theorem put_some {t : Tab} {z : Cx} (hz : finC z) (n : Int) : ∃ u, putT t z n = some u := by
  unfold putT
  cases atC t.1 z with
  | some i => exact ⟨_, rfl⟩
  | none => exact ⟨_, by simp only []; rw [if_pos (finB_of hz)]⟩

theorem label_some {t : Tab} {z : Cx} {n : Int} (h : labelT t z = some n) : ∃ i, atC t.1 z = some i := by
  unfold labelT at h
  cases ha : atC t.1 z with
  | none => rw [ha] at h; cases h
  | some i => exact ⟨i, rfl⟩

theorem nan_eqC {x y : Nat} (hx : nanB .f32 x = true) (p : Cx) : eqC (x, y) p = false ∧ eqC p (x, y) = false := by
  unfold eqC ordEq
  rw [order_nan_left (y := p.1) hx, order_nan_right (x := p.1) hx]
  exact ⟨rfl, rfl⟩

theorem zero_quo : floatBits .quo .f32 0 0 = none := by decide +kernel

end Go.Proofs.Ytealnolpcoalgaa
