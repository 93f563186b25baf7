/- Steps of single precision. -/
import Derived.Test.YtihdpljkllpkaaaJq14
import Derived.Test.YtihdpljkllpkaaaJq15
namespace Go.Proofs.Ytihdpljkllpkaaa
open Ieee Go.RowKit

/-- A rung by its digits and their place. -/
theorem split_rung {r : Nat} (h : r < 2139095040) : ∃ kept E : Nat, units Ieee.single r = kept * 2 ^ E ∧ r = E * 8388608 + kept ∧ kept < 16777216 ∧ (0 < E → 8388608 ≤ kept) ∧ E ≤ 253 := by
  unfold units
  rw [s_bin]
  by_cases hb : r < 8388608
  · rw [if_pos hb]
    exact ⟨r, 0, by simp, by omega, by omega, by omega, by omega⟩
  · rw [if_neg hb]
    exact ⟨8388608 + r % 8388608, r / 8388608 - 1, rfl, by omega, by omega, by omega, by omega⟩

/-- A double that is so many units. -/
def AtY (z kept n : Nat) : Prop := isU Ieee.double z false (kept * 2 ^ n)

theorem rep_d {kept n : Nat} (hk : kept < 16777216) (hn : n ≤ 2000) : Rep Ieee.double (kept * 2 ^ n) := by
  refine rep_of _ (by rw [d_bin]; omega) ?_
  have h : Ieee.double.exponentBits = 11 := rfl
  rw [h]
  omega

theorem read_two : Ieee.double.read 4611686018427387904 = .number false (2 ^ 52) (-51) := by decide +kernel

theorem AtY.half {z kept n : Nat} (h : AtY z kept (n + 1)) (hk : kept < 16777216) (hn : n ≤ 2000) : ∃ z', floatBits .quo .f64 z 4611686018427387904 = some z' ∧ AtY z' kept n := by
  have h' : isU Ieee.double z false (2 * (kept * 2 ^ n)) := by
    have e : kept * 2 ^ (n + 1) = 2 * (kept * 2 ^ n) := by rw [Nat.pow_succ, Nat.mul_comm (2 ^ n), Nat.mul_left_comm]
    unfold AtY at h
    rw [e] at h
    exact h
  obtain ⟨z', h1, h2⟩ := quo_isU h' read_two rfl (by omega) (rep_d hk hn)
  exact ⟨z', h1, h2⟩

theorem isU_two : isU Ieee.double 4611686018427387904 false (2 * 2 ^ 1074) := ⟨4611686018427387904, rfl, by rw [d_inf]; omega, by decide +kernel⟩

theorem twice_units (kept n K : Nat) : kept * 2 ^ n * (2 * 2 ^ K) = kept * 2 ^ (n + 1) * 2 ^ K := by
  rw [Nat.pow_succ]
  simp only [Nat.mul_assoc]

theorem AtY.twice {z kept n : Nat} (h : AtY z kept n) (hk : kept < 16777216) (hn : n ≤ 1999) : ∃ z', floatBits .mul .f64 z 4611686018427387904 = some z' ∧ AtY z' kept (n + 1) := by
  obtain ⟨z', h1, h2⟩ := mul_isU (K := 1074) d_lp h isU_two (rep_d (n := n + 1) hk (by omega)) (twice_units kept n 1074)
  exact ⟨z', h1, h2⟩

theorem AtY.toInt {z kept : Nat} (h : AtY z kept 1074) (hk : kept < 16777216) : floatToIntVal .f64 z .i64 = some (kept : Int) := by
  have := toInt_isU (K := 1074) d_lp h
  unfold floatToIntVal FloatKind.decode FloatKind.format
  simp only []
  rw [this]
  have e1 : IntKind.i64.min = -9223372036854775808 := by decide +kernel
  have e2 : IntKind.i64.max = 9223372036854775807 := by decide +kernel
  simp only [sgn, e1, e2]
  rw [if_pos ⟨by simp, by simp; omega⟩]
  simp

theorem isU_bound : isU Ieee.double 4044232465378705408 false (16777216 * 2 ^ 925) := ⟨4044232465378705408, rfl, by rw [d_inf]; omega, by decide +kernel⟩

theorem scaled_pow (kept n K : Nat) : kept * 2 ^ (n + K) = kept * 2 ^ n * 2 ^ K := by rw [Nat.pow_add, Nat.mul_assoc]

theorem AtY.order {z kept n : Nat} (h : AtY z kept (n + 925)) : (FloatKind.f64.format.order z 4044232465378705408 = some .lt ↔ kept * 2 ^ n < 16777216) ∧ (FloatKind.f64.format.order z 4044232465378705408 = some .lt ∨ FloatKind.f64.format.order z 4044232465378705408 = some .eq ∨ FloatKind.f64.format.order z 4044232465378705408 = some .gt) := by
  unfold AtY at h
  rw [scaled_pow kept n 925] at h
  have ho := order_isU h isU_bound
  have hc := cmp_scaled (kept * 2 ^ n) 16777216 (2 ^ 925) (Nat.two_pow_pos 925)
  have ho' : FloatKind.f64.format.order z 4044232465378705408 = _ := ho
  rw [ho', Option.some.injEq]
  refine ⟨hc, ?_⟩
  generalize compare (sgn false (kept * 2 ^ n * 2 ^ 925)) (sgn false (16777216 * 2 ^ 925)) = c
  cases c <;> simp

/-- An integer comes back, and nothing is written. -/
def GivesI (w : World) (b : Int) (e : Ending) (w' : World) : Prop := ∃ n, e = .returned (.int .i64 b) ∧ w' = w.drewN n

/-- The steps of a number of single precision. -/
def stepsZ (x : Nat) : Int := if negOf Ieee.single x then -(rungOf Ieee.single x : Int) else (rungOf Ieee.single x : Int)

/-- What StepsOf gives. -/
def GivesSteps (w : World) (x : Nat) (e : Ending) (w' : World) : Prop :=
  ∃ n, e = .returned (if rungOf Ieee.single x < 2139095040 then .tuple #[.int .i64 (stepsZ x), .bool true] else .tuple #[.int .i64 0, .bool false]) ∧ w' = w.drewN n

theorem sub_self_fin {x : Nat} (h : rungOf Ieee.single x < Ieee.single.infRung) : floatBits .sub .f32 x x = some 0 := by
  obtain ⟨m, e, hr, _⟩ := read_fin Ieee.single h
  simp only [floatBits, FloatKind.format, Ieee.Format.sub]
  rw [hr]
  simp only [Ieee.Datum.opposite, Ieee.Datum.sum, Option.map_some, Ieee.Format.write]
  have : signed (negOf Ieee.single x) m (Ieee.single.leastPlace + (e : Int) - min (Ieee.single.leastPlace + (e : Int)) (Ieee.single.leastPlace + (e : Int))).toNat + signed (!negOf Ieee.single x) m (Ieee.single.leastPlace + (e : Int) - min (Ieee.single.leastPlace + (e : Int)) (Ieee.single.leastPlace + (e : Int))).toNat = 0 := by
    unfold signed
    cases negOf Ieee.single x <;> simp <;> omega
  rw [this]
  cases negOf Ieee.single x <;> rfl

theorem sub_self_not {x : Nat} (h : ¬ rungOf Ieee.single x < Ieee.single.infRung) : floatBits .sub .f32 x x = none := by
  simp only [floatBits, FloatKind.format, Ieee.Format.sub]
  rcases Nat.lt_or_ge Ieee.single.infRung (rungOf Ieee.single x) with h1 | h1
  · have hn := read_nan Ieee.single s_eb h1
    obtain ⟨s, t, he⟩ := (isNaN_cases _).1 hn
    rw [he]; rfl
  · have hi := read_inf Ieee.single s_eb (show rungOf Ieee.single x = Ieee.single.infRung by omega)
    rw [hi]
    cases negOf Ieee.single x <;> rfl

theorem bits_andNot_sign (x : Nat) (hx : x < 4294967296) : bits .andNot .u32 (x : Int) 2147483648 = (rungOf Ieee.single x : Nat) := by
  have e : (2147483648 : Int) = ((2147483648 : Nat) : Int) := rfl
  rw [e]
  unfold bits rungOf
  rw [s_sw]
  have hb : IntKind.u32.bits = 32 := rfl
  rw [hb]
  simp only [BitVec.ofInt_natCast]
  have hm : (BitVec.ofNat 32 x &&& ~~~(BitVec.ofNat 32 2147483648)).toNat = x % 2147483648 := by
    rw [BitVec.toNat_and, BitVec.toNat_not, BitVec.toNat_ofNat, BitVec.toNat_ofNat]
    have e1 : x % 2 ^ 32 = x := Nat.mod_eq_of_lt (by omega)
    have e2 : 2 ^ 32 - 1 - 2147483648 % 2 ^ 32 = 2 ^ 31 - 1 := by decide
    rw [e1, e2, Nat.and_two_pow_sub_one_eq_mod]
  rw [hm, IntKind.wrap_u32]
  omega

theorem bits_sign_int (x : Nat) (hx : x < 4294967296) : bits .and .u32 (x : Int) 2147483648 = (zeroOf x : Nat) := by
  have h := bits_and_u32 x 2147483648 hx (by omega)
  rw [and_sign] at h
  exact h
end Go.Proofs.Ytihdpljkllpkaaa
