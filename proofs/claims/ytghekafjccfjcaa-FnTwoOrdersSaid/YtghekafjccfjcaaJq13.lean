/- Sums of 16777216 and of ones, in three ways and in both orders. -/
import Derived.Test.YtghekafjccfjcaaJq3
import Derived.Test.YtghekafjccfjcaaJq12
import Derived.Outline
namespace Go.Proofs.Ytghekafjccfjcaa
open Go.RowKit

theorem all_lt {P : Nat → Bool} {n j : Nat} (h : (List.range n).all P = true) (hj : j < n) : P j = true := by
  rw [List.all_eq_true] at h
  exact h j (List.mem_range.2 hj)
theorem fold_rep {α : Type} (f : α → Nat → α) (s : α) (n x : Nat) : (List.replicate (n + 1) x).foldl f s = f ((List.replicate n x).foldl f s) x := by
  rw [List.replicate_succ', List.foldl_append]; rfl

theorem tie_stays : fC .add .f32 0 1266679808 = 1266679808 ∧ fC .add .f32 1266679808 1065353216 = 1266679808 := by decide +kernel
theorem orders_sumF (m : Nat) : sumF (1266679808 :: List.replicate m 1065353216) = 1266679808 := by
  show (List.replicate m 1065353216).foldl (fC .add .f32) (fC .add .f32 0 1266679808) = _
  rw [tie_stays.1]
  induction m with
  | zero => rfl
  | succ m ih => rw [fold_rep, ih]; exact tie_stays.2

def kah (p : Nat × Nat) (x : Nat) : Nat × Nat := (fC .add .f32 p.1 (fC .sub .f32 x p.2), fC .sub .f32 (fC .sub .f32 (fC .add .f32 p.1 (fC .sub .f32 x p.2)) p.1) (fC .sub .f32 x p.2))
theorem kah_all : ((List.range 100).all fun j => kah (kah (1266679808 + j, 0) 1065353216) 1065353216 == (1266679808 + (j + 1), 0)) = true := by decide +kernel
theorem kah_first : kah (0, 0) 1266679808 = (1266679808, 0) := by decide +kernel
theorem orders_steady (m : Nat) (hm : m ≤ 100) : steadyF (1266679808 :: List.replicate (2 * m) 1065353216) = 1266679808 + m := by
  have key : (List.replicate (2 * m) 1065353216).foldl kah (1266679808, 0) = (1266679808 + m, 0) := by
    induction m with
    | zero => rfl
    | succ m ih =>
      rw [show 2 * (m + 1) = 2 * m + 1 + 1 by omega, fold_rep, fold_rep, ih (by omega)]
      have := all_lt kah_all (show m < 100 by omega)
      simpa using this
  show ((List.replicate (2 * m) 1065353216).foldl kah (kah (0, 0) 1266679808)).1 = _
  rw [kah_first, key]

def dBig (j : Nat) : Nat := 4715268809856909312 + 268435456 * j
theorem dbl_all : ((List.range 200).all fun j => fC .add .f64 (dBig j) (widC 1065353216) == dBig (j + 1)) = true := by decide +kernel
theorem dbl_first : fC .add .f64 0 (widC 1266679808) = dBig 0 := by decide +kernel
theorem orders_sumD (m : Nat) (hm : m ≤ 200) : sumD (1266679808 :: List.replicate m 1065353216) = dBig m := by
  unfold sumD
  rw [List.foldl_cons, dbl_first]
  induction m with
  | zero => rfl
  | succ m ih =>
    rw [fold_rep, ih (by omega)]
    have := all_lt dbl_all (show m < 200 by omega)
    simpa using this

theorem ones_all : ((List.range 200).all fun j => fC .add .f32 (fi ((j : Nat) : Int)) 1065353216 == fi ((j + 1 : Nat) : Int)) = true := by decide +kernel
theorem ones_sum (m : Nat) (hm : m ≤ 200) : (List.replicate m 1065353216).foldl (fC .add .f32) 0 = fi (m : Int) := by
  induction m with
  | zero => decide +kernel
  | succ m ih =>
    rw [fold_rep, ih (by omega)]
    have := all_lt ones_all (show m < 200 by omega)
    simpa using this
theorem last_all : ((List.range 101).all fun m => fC .add .f32 (fi ((2 * m : Nat) : Int)) 1266679808 == 1266679808 + m && fC .add .f32 1266679808 (fi ((2 * m : Nat) : Int)) == 1266679808 + m && fC .add .f64 (dBig 0) (floatOfInt .f64 ((2 * m : Nat) : Int)) == dBig (2 * m)) = true := by decide +kernel
theorem orders_last (m : Nat) (hm : m ≤ 100) : sumF (List.replicate (2 * m) 1065353216 ++ [1266679808]) = 1266679808 + m := by
  unfold sumF
  rw [List.foldl_append, ones_sum (2 * m) (by omega)]
  have := all_lt last_all (show m < 101 by omega)
  simp only [Bool.and_eq_true, beq_iff_eq] at this
  exact this.1.1
/-- What the law itself reckons to compare with. -/
theorem orders_right (m : Nat) (hm : m ≤ 100) : fC .add .f32 1266679808 (fi ((2 * m : Nat) : Int)) = 1266679808 + m ∧ fC .add .f64 (dBig 0) (floatOfInt .f64 ((2 * m : Nat) : Int)) = dBig (2 * m) := by
  have := all_lt last_all (show m < 101 by omega)
  simp only [Bool.and_eq_true, beq_iff_eq] at this
  exact ⟨this.1.2, this.2⟩
end Go.Proofs.Ytghekafjccfjcaa
