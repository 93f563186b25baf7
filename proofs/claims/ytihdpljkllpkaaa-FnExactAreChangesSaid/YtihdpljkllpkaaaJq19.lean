/- Numbers that are drawn. -/
import Derived.Test.YtihdpljkllpkaaaJq10
import Derived.Test.YtihdpljkllpkaaaJq18
namespace Go.Proofs.Ytihdpljkllpkaaa
open Go.RowKit

theorem f32_word_lt {b : Nat} (h : (Lit.float .f32 b).wf = true) : b < 4294967296 := f32_lt h
theorem fAr_lt (op : BinOp) (x y : Nat) (w : World) : fAr op .f32 x y w < 4294967296 := by
  unfold fAr
  cases h : floatBits op .f32 x y with
  | some r => exact f32_lt (floatBits_wf h)
  | none =>
    simp only [Question.cut]
    generalize w.tape w.drawn (.nanBits .f32 x y) = t
    have h1 : t % 2 < 2 := Nat.mod_lt _ (by decide)
    have h2 : (t / 2) % (2 ^ 23 - 1) < 2 ^ 23 - 1 := Nat.mod_lt _ (by decide)
    generalize t % 2 = a at *
    generalize (t / 2) % (2 ^ 23 - 1) = b at *
    omega
theorem ofInt_lt (n : Int) : floatOfInt .f32 n < 4294967296 := f32_lt (floatOfInt_wf .f32 n)
theorem fromB_lt {k : Int} (h : -2139095039 ≤ k ∧ k ≤ 2139095039) : fromB k < 4294967296 := by unfold fromB; split <;> omega
theorem neg0_lt : Op.negFloat .f32 0 < 4294967296 := by decide +kernel
end Go.Proofs.Ytihdpljkllpkaaa
