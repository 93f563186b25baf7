/- Distances, and the nearest point. -/
import Derived.Test.YtealnolpcoalgaaN2
namespace Go.Proofs.Ytealnolpcoalgaa
open Go.RowKit

def distC (a b : Cx) : Nat := fC .add .f32 (fC .mul .f32 (fC .sub .f32 a.1 b.1) (fC .sub .f32 a.1 b.1)) (fC .mul .f32 (fC .sub .f32 a.2 b.2) (fC .sub .f32 a.2 b.2))

theorem widen_nan (x : Nat) (w : World) : nanB .f64 (fCv .f32 .f64 x w) = nanB .f32 x := by
  cases h : nanB .f32 x with
  | true => exact nanB_of_cv w (by simp) h
  | false =>
    rcases Nat.lt_trichotomy (rungOf Ieee.single x) Ieee.single.infRung with h1 | h1 | h1
    · obtain ⟨m, g, h2, _⟩ := read_isU (widen_fin w h1)
      show (Ieee.double.read _).isNaN = false
      rw [h2]; rfl
    · have hi := widen_inf w (read_inf Ieee.single s_eb h1)
      show (Ieee.double.read _).isNaN = false
      rw [hi]; rfl
    · have := nan_of_rung (by rw [s_inf] at h1; exact h1)
      rw [h] at this; cases this

def nearStep (z : Cx) (best : Option (Nat × Nat)) (i : Nat) (p : Cx) : Option (Nat × Nat) :=
  if nanB .f32 (distC p z) then best else
  match best with
  | none => some (i, distC p z)
  | some (j, m) => if FloatKind.f32.format.order (distC p z) m == some .lt then some (i, distC p z) else some (j, m)
def nearC (Q : List Cx) (z : Cx) : Option (Nat × Nat) := Q.zipIdx.foldl (fun b p => nearStep z b p.2 p.1) none

theorem nearC_snoc (Q : List Cx) (p z : Cx) : nearC (Q ++ [p]) z = nearStep z (nearC Q z) Q.length p := by
  simp [nearC, List.zipIdx_append]

def GivesNear (r : Option (Nat × Nat)) (w : World) (e : Ending) (w' : World) : Prop :=
  ∃ n, e = .returned (.tuple #[.int .i64 (((r.map (·.1)).getD 0 : Nat) : Int), .bool r.isSome]) ∧ w' = w.drewN n

end Go.Proofs.Ytealnolpcoalgaa
