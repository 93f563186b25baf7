/- IsSubnormal and FlushSmall. -/
import Derived.Test.YtihdpljkllpkaaaJq13
namespace Go.Proofs.Ytihdpljkllpkaaa
open Ieee Go.RowKit

/-- A bool comes back, and nothing is written. -/
def GivesB (w : World) (b : Bool) (e : Ending) (w' : World) : Prop := ∃ n, e = .returned (.bool b) ∧ w' = w.drewN n

/-- The sign alone. -/
def zeroOf (x : Nat) : Nat := if negOf Ieee.single x then 2147483648 else 0

theorem isU_zero (s : Bool) : isU Ieee.single (if s then 2147483648 else 0) s 0 := by
  refine ⟨0, ?_, by rw [s_inf]; omega, by decide +kernel⟩
  cases s <;> decide +kernel

/-- A subnormal number times 0. -/
theorem sub_times_zero {x : Nat} (w : World) (h : subB x = true) : fAr .mul .f32 x 0 w = zeroOf x := by
  unfold subB at h
  rw [decide_eq_true_eq] at h
  have hr : rungOf Ieee.single x < Ieee.single.infRung := by rw [s_inf]; omega
  obtain ⟨m, e, hx, hu⟩ := read_fin Ieee.single hr
  have h0 : Ieee.single.read 0 = .number false 0 (-149) := by decide +kernel
  have hp : Ieee.single.mul x 0 = some (zeroOf x) := by
    unfold Ieee.Format.mul
    rw [hx, h0]
    simp only [Ieee.Datum.product, Option.map_some, Ieee.Format.write, Nat.mul_zero, Bool.xor_false]
    refine congrArg some ?_
    unfold zeroOf Ieee.Format.nearest
    rw [if_pos rfl]
    cases negOf Ieee.single x <;> rfl
  unfold fAr
  simp only [floatBits, FloatKind.format, hp]

theorem and_two31 (x : Nat) : x &&& 2 ^ 31 = if x.testBit 31 then 2 ^ 31 else 0 := by
  apply Nat.eq_of_testBit_eq
  intro i
  rw [Nat.testBit_and, Nat.testBit_two_pow]
  by_cases h : 31 = i
  · subst h
    have h31 : Nat.testBit (2 ^ 31) 31 = true := by decide +kernel
    cases x.testBit 31
    · simp
    · rw [if_pos rfl, h31]; rfl
  · have : decide (31 = i) = false := by simpa using h
    rw [this, Bool.and_false]
    cases x.testBit 31
    · simp
    · rw [if_pos rfl, Nat.testBit_two_pow, this]

theorem and_sign (x : Nat) : x &&& 2147483648 = zeroOf x := by
  have h := and_two31 x
  unfold zeroOf negOf
  rw [s_sw]
  have a1 : (x / 2147483648 % 2 == 1) = x.testBit 31 := by
    rw [Nat.testBit_eq_decide_div_mod_eq]
    rw [Bool.eq_iff_iff]; simp
  rw [a1]
  exact h

theorem bits_and_u32 (a b : Nat) (ha : a < 4294967296) (hb : b < 4294967296) : bits .and .u32 (a : Int) (b : Int) = ((a &&& b : Nat) : Int) :=
  (bits_nat .u32 32 (by decide) (fun n h0 h1 => by rw [IntKind.wrap_u32]; omega) a b (by omega) (by omega)).1
theorem bits_or_u32 (a b : Nat) (ha : a < 4294967296) (hb : b < 4294967296) : bits .or .u32 (a : Int) (b : Int) = ((a ||| b : Nat) : Int) :=
  (bits_nat .u32 32 (by decide) (fun n h0 h1 => by rw [IntKind.wrap_u32]; omega) a b (by omega) (by omega)).2
theorem bits_sign (x : Nat) (hx : x < 4294967296) : (bits .and .u32 (x : Int) 2147483648).toNat = zeroOf x := by
  have h := bits_and_u32 x 2147483648 hx (by omega)
  rw [and_sign] at h
  have e : ((2147483648 : Nat) : Int) = 2147483648 := rfl
  rw [e] at h
  rw [h]
  rfl

/-- What is flushed. -/
def flushB (x : Nat) : Nat := if subB x then zeroOf x else x

theorem f32_lt {x : Nat} (h : (Lit.float .f32 x).wf = true) : x < 4294967296 := by
  simpa [Lit.wf] using h
end Go.Proofs.Ytihdpljkllpkaaa
