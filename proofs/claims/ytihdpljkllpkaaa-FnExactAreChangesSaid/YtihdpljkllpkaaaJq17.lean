/- FromSteps. -/
import Derived.Test.YtihdpljkllpkaaaJq16
namespace Go.Proofs.Ytihdpljkllpkaaa
open Ieee Go.RowKit

/-- The number with so many steps, by its bits. -/
def fromB (k : Int) : Nat := if k < 0 then 2147483648 + k.natAbs else k.natAbs

def GivesFrom (w : World) (k : Int) (e : Ending) (w' : World) : Prop :=
  ∃ n, e = .returned (if -2139095039 ≤ k ∧ k ≤ 2139095039 then .tuple #[.float .f32 (fromB k), .bool true] else .tuple #[.float .f32 0, .bool false]) ∧ w' = w.drewN n

set_option maxHeartbeats 400000 in
theorem l1In_any (x a b : Int) (w : World) : Calls Try.prog 10 #[.int .i64 x, .int .i64 a, .int .i64 b] w fun e w' => e = .returned (.bool (decide (a ≤ x ∧ x ≤ b))) ∧ w = w' := by
  by_cases h1 : a ≤ x
  · by_cases h2 : x ≤ b
    · rw [decide_eq_true (show a ≤ x ∧ x ≤ b from ⟨h1, h2⟩)]
      go_enter Try.func10, Try.ntmps10
      go_wp2
      go_ret
      exact ⟨rfl, rfl⟩
    · rw [decide_eq_false (show ¬ (a ≤ x ∧ x ≤ b) from fun h => h2 h.2)]
      go_enter Try.func10, Try.ntmps10
      go_wp2
      go_ret
      exact ⟨rfl, rfl⟩
  · rw [decide_eq_false (show ¬ (a ≤ x ∧ x ≤ b) from fun h => h1 h.1)]
    go_enter Try.func10, Try.ntmps10
    go_wp2
    go_ret
    exact ⟨rfl, rfl⟩

theorem times_one_pow (kept K : Nat) : kept * 2 ^ K = kept * 2 ^ K * 2 ^ 0 := by rw [Nat.pow_zero, Nat.mul_one]

theorem AtY.ofInt {kept : Nat} (hk : kept < 16777216) : AtY (floatOfInt .f64 kept) kept 1074 := by
  have h : floatOfInt .f64 kept = Ieee.double.nearest false kept 0 := by
    unfold floatOfInt FloatKind.nearest FloatKind.encode FloatKind.format Ieee.Format.write
    simp only []
    have e1 : decide ((kept : Int) < 0) = false := by simp
    rw [e1, Int.natAbs_natCast]
  rw [h]
  exact isU_of_nearest false (a := 1074) (b := 0) (rep_d (n := 1074) hk (by omega)) (times_one_pow kept 1074) (by rw [d_lp]; omega)

theorem narrow {z E kept r : Nat} {s : Bool} (h : isU Ieee.double z s (kept * 2 ^ (E + 925))) (hr : units Ieee.single r = kept * 2 ^ E) (hr' : r < Ieee.single.infRung) :
    floatToFloatBits .f64 z .f32 = some (Ieee.single.word s r) := by
  obtain ⟨m, g, h1, h2⟩ := read_isU h
  rw [scaled_pow kept E 925, ← hr] at h2
  have hw : isU Ieee.single (Ieee.single.nearest s m (Ieee.double.leastPlace + (g : Int))) s (units Ieee.single r) :=
    isU_of_nearest s (a := g) (b := 925) ⟨r, hr', rfl⟩ h2 (by rw [d_lp, s_lp]; omega)
  have he := isU_word hw ⟨r, rfl, hr', rfl⟩
  obtain ⟨m', g', h3, _⟩ := read_isU hw
  unfold floatToFloatBits FloatKind.decode FloatKind.encode FloatKind.format
  rw [if_neg (by simp)]
  simp only []
  rw [h1]
  simp only [Ieee.Format.write, h3, Ieee.Datum.isInfinity]
  rw [← he]
  rfl

theorem d_sw : Ieee.double.signWeight = 9223372036854775808 := by decide +kernel

theorem neg_isU {z U : Nat} (h : isU Ieee.double z false U) : isU Ieee.double (Op.negFloat .f64 z) true U := by
  obtain ⟨r, hz, hr, hU⟩ := h
  refine ⟨r, ?_, hr, hU⟩
  rw [d_inf] at hr
  rw [hz]
  clear hz hU
  have e1 : Ieee.double.word false r = r := rfl
  have e2 : Ieee.double.word true r = Ieee.double.signWeight + r := rfl
  have e3 : Op.negFloat .f64 r = r ^^^ 2 ^ 63 := rfl
  rw [e1, e2, e3, d_sw]
  have h1 : r < 2 ^ 63 := by omega
  have h2 := Nat.two_pow_add_eq_or_of_lt h1 1
  have h3 : (r ^^^ 2 ^ 63) = 2 ^ 63 * 1 ||| r := by
    apply Nat.eq_of_testBit_eq
    intro i
    rw [Nat.testBit_xor, Nat.testBit_or, Nat.mul_one, Nat.testBit_two_pow]
    by_cases hi : 63 = i
    · subst hi
      rw [Nat.testBit_lt_two_pow h1]
      simp
    · have : decide (63 = i) = false := by simpa using hi
      rw [this]
      simp
  rw [h3, ← h2]

theorem fromB_neg {N : Nat} (h : 0 < N) : fromB (-(N : Int)) = Ieee.single.word true N := by
  unfold fromB
  rw [if_pos (by omega)]
  show _ = Ieee.single.signWeight + N
  rw [s_sw]
  omega
theorem fromB_pos (N : Nat) : fromB (N : Int) = Ieee.single.word false N := by
  unfold fromB
  rw [if_neg (by omega)]
  show _ = N
  omega
end Go.Proofs.Ytihdpljkllpkaaa
