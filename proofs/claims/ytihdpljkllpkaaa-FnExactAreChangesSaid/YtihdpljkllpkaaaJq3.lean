/-  -/
import Derived.Test.YtihdpljkllpkaaaRows
import Derived.Test.YtihdpljkllpkaaaJq2
import Derived.WalkKit
import Derived.WalkSpells
import Derived.WalkLawsBesides
import Derived.Lib.Hide
namespace Go.Proofs.Ytihdpljkllpkaaa
open Go.RowKit

def SumTwo (a b : Nat) (w : World) (e : Ending) (w' : World) : Prop :=
  ∃ s r n, e = .returned (.tuple #[.float .f32 s, .float .f32 r]) ∧ w' = w.drewN n ∧ FE .f32 s (fC .add .f32 a b) ∧
    FE .f32 r (fC .add .f32 (fC .sub .f32 a (fC .sub .f32 (fC .add .f32 a b) (fC .sub .f32 (fC .add .f32 a b) a))) (fC .sub .f32 b (fC .sub .f32 (fC .add .f32 a b) a)))

/-- 1 divided by what is no NaN. -/
theorem quo_one {a : Nat} (h : nanB .f64 a = false) : ∃ r, floatBits .quo .f64 4607182418800017408 a = some r := by
  have h1 : Ieee.double.read 4607182418800017408 = .number false 4503599627370496 (-52) := by decide +kernel
  simp only [floatBits, Ieee.Format.div, FloatKind.format, h1]
  unfold nanB FloatKind.decode FloatKind.format at h
  simp only [] at h
  cases hd : Ieee.double.read a with
  | number t n j =>
    simp only [Ieee.Datum.quotient]
    by_cases hn : n = 0
    · subst hn; exact ⟨_, rfl⟩
    · rw [if_neg hn]; exact ⟨_, rfl⟩
  | infinity s => exact ⟨_, rfl⟩
  | nan s t => rw [hd] at h; simp [Ieee.Datum.isNaN] at h

def SaysTrue (w : World) (e : Ending) (w' : World) : Prop := ∃ n, e = .returned (.bool true) ∧ w' = w.drewN n

/-- Half of x, twice, is not x. -/
def lossB (x : Nat) : Bool := FloatKind.f32.format.order (fC .mul .f32 (fC .quo .f32 x 1073741824) 1073741824) x != some .eq

/-- A float comes back, and nothing is written. -/
def GivesF (w : World) (k : FloatKind) (b : Nat) (e : Ending) (w' : World) : Prop := ∃ r m, e = .returned (.float k r) ∧ w' = w.drewN m ∧ FE k r b

/-- k times halved. -/
def halves (x : Nat) : Nat → Nat
  | 0 => x
  | k + 1 => fC .quo .f32 (halves x k) 1073741824
end Go.Proofs.Ytihdpljkllpkaaa
