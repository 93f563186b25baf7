/-  -/
import Derived.Test.YtihdpljkllpkaaaJq3
namespace Go.Proofs.Ytihdpljkllpkaaa
open Go.RowKit

/-- A slice of floats that reads as a list of their bits; nil is let in. -/
def HasF (w : World) (v : Value) (xs : List Nat) : Prop :=
  ∃ (A : Option Addr) (cap : Nat), v = .slice A xs.length cap ∧ xs.length ≤ cap ∧
    (0 < xs.length → ∃ b off, A = some ⟨b, off, none⟩ ∧ ∀ j, j < xs.length → w.cell? ⟨b, off + j, none⟩ = some (.float .f32 (xs.getD j 0)))

def sumF (xs : List Nat) : Nat := xs.foldl (fC .add .f32) 0
def sumD (xs : List Nat) : Nat := xs.foldl (fun s x => fC .add .f64 s (widC x)) 0
def steady (xs : List Nat) : Nat × Nat :=
  xs.foldl (fun p x => (fC .add .f32 p.1 (fC .sub .f32 x p.2), fC .sub .f32 (fC .sub .f32 (fC .add .f32 p.1 (fC .sub .f32 x p.2)) p.1) (fC .sub .f32 x p.2))) (0, 0)
def steadyF (xs : List Nat) : Nat := (steady xs).1

theorem foldl_step {α : Type} (f : α → Nat → α) (s : α) (xs : List Nat) (k : Nat) (h : k < xs.length) : (xs.take (k + 1)).foldl f s = f ((xs.take k).foldl f s) (xs.getD k 0) := by
  rw [List.take_succ_eq_append_getElem h, List.foldl_append]
  simp [List.getD_eq_getElem?_getD, List.getElem?_eq_getElem h]
theorem sumF_step (xs : List Nat) (k : Nat) (h : k < xs.length) : sumF (xs.take (k + 1)) = fC .add .f32 (sumF (xs.take k)) (xs.getD k 0) := foldl_step _ _ _ _ h
theorem sumD_step (xs : List Nat) (k : Nat) (h : k < xs.length) : sumD (xs.take (k + 1)) = fC .add .f64 (sumD (xs.take k)) (widC (xs.getD k 0)) := foldl_step _ _ _ _ h
theorem steady_step (xs : List Nat) (k : Nat) (h : k < xs.length) : steady (xs.take (k + 1)) =
    (fC .add .f32 (steady (xs.take k)).1 (fC .sub .f32 (xs.getD k 0) (steady (xs.take k)).2),
      fC .sub .f32 (fC .sub .f32 (fC .add .f32 (steady (xs.take k)).1 (fC .sub .f32 (xs.getD k 0) (steady (xs.take k)).2)) (steady (xs.take k)).1) (fC .sub .f32 (xs.getD k 0) (steady (xs.take k)).2)) := foldl_step _ _ _ _ h
end Go.Proofs.Ytihdpljkllpkaaa
