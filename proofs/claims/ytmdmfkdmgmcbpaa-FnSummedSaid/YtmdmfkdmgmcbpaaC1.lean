/- Steps of single precision. -/
import Derived.Test.YtmdmfkdmgmcbpaaB3
import Derived.Test.YtmdmfkdmgmcbpaaEx3
namespace Go.Proofs.Ytmdmfkdmgmcbpaa
open Ieee Go.RowKit

/-- A rung by its digits and their place. -/
theorem split_rung {r : Nat} (h : r < 2139095040) : ∃ kept E : Nat, units Ieee.single r = kept * 2 ^ E ∧ r = E * 8388608 + kept ∧ kept < 16777216 ∧ (0 < E → 8388608 ≤ kept) ∧ E ≤ 253 := by
  unfold units
  rw [s_bin]
  by_cases hb : r < 8388608
  · rw [if_pos hb]
    exact ⟨r, 0, by simp, by omega, by omega, by omega, by omega⟩
  · rw [if_neg hb]
    exact ⟨8388608 + r % 8388608, r / 8388608 - 1, rfl, by omega, by omega, by omega, by omega⟩

/-- A double that is so many units. -/
def AtY (z kept n : Nat) : Prop := isU Ieee.double z false (kept * 2 ^ n)

theorem rep_d {kept n : Nat} (hk : kept < 16777216) (hn : n ≤ 2000) : Rep Ieee.double (kept * 2 ^ n) := by
  refine rep_of _ (by rw [d_bin]; omega) ?_
  have h : Ieee.double.exponentBits = 11 := rfl
  rw [h]
  omega

theorem read_two : Ieee.double.read 4611686018427387904 = .number false (2 ^ 52) (-51) := by decide +kernel

theorem AtY.half {z kept n : Nat} (h : AtY z kept (n + 1)) (hk : kept < 16777216) (hn : n ≤ 2000) : ∃ z', floatBits .quo .f64 z 4611686018427387904 = some z' ∧ AtY z' kept n := by
  have h' : isU Ieee.double z false (2 * (kept * 2 ^ n)) := by
    have e : kept * 2 ^ (n + 1) = 2 * (kept * 2 ^ n) := by rw [Nat.pow_succ, Nat.mul_comm (2 ^ n), Nat.mul_left_comm]
    unfold AtY at h
    rw [e] at h
    exact h
  obtain ⟨z', h1, h2⟩ := quo_isU h' read_two rfl (by omega) (rep_d hk hn)
  exact ⟨z', h1, h2⟩

theorem isU_two : isU Ieee.double 4611686018427387904 false (2 * 2 ^ 1074) := ⟨4611686018427387904, rfl, by rw [d_inf]; omega, by decide +kernel⟩

theorem twice_units (kept n K : Nat) : kept * 2 ^ n * (2 * 2 ^ K) = kept * 2 ^ (n + 1) * 2 ^ K := by
  rw [Nat.pow_succ]
  simp only [Nat.mul_assoc]

theorem AtY.twice {z kept n : Nat} (h : AtY z kept n) (hk : kept < 16777216) (hn : n ≤ 1999) : ∃ z', floatBits .mul .f64 z 4611686018427387904 = some z' ∧ AtY z' kept (n + 1) := by
  obtain ⟨z', h1, h2⟩ := mul_isU (K := 1074) d_lp h isU_two (rep_d (n := n + 1) hk (by omega)) (twice_units kept n 1074)
  exact ⟨z', h1, h2⟩

theorem AtY.toInt {z kept : Nat} (h : AtY z kept 1074) (hk : kept < 16777216) : floatToIntVal .f64 z .i64 = some (kept : Int) := by
  have := toInt_isU (K := 1074) d_lp h
  unfold floatToIntVal FloatKind.decode FloatKind.format
  simp only []
  rw [this]
  have e1 : IntKind.i64.min = -9223372036854775808 := by decide +kernel
  have e2 : IntKind.i64.max = 9223372036854775807 := by decide +kernel
  simp only [sgn, e1, e2]
  rw [if_pos ⟨by simp, by simp; omega⟩]
  simp

theorem isU_bound : isU Ieee.double 4044232465378705408 false (16777216 * 2 ^ 925) := ⟨4044232465378705408, rfl, by rw [d_inf]; omega, by decide +kernel⟩

theorem scaled_pow (kept n K : Nat) : kept * 2 ^ (n + K) = kept * 2 ^ n * 2 ^ K := by rw [Nat.pow_add, Nat.mul_assoc]

theorem AtY.order {z kept n : Nat} (h : AtY z kept (n + 925)) : (FloatKind.f64.format.order z 4044232465378705408 = some .lt ↔ kept * 2 ^ n < 16777216) ∧ (FloatKind.f64.format.order z 4044232465378705408 = some .lt ∨ FloatKind.f64.format.order z 4044232465378705408 = some .eq ∨ FloatKind.f64.format.order z 4044232465378705408 = some .gt) := by
  unfold AtY at h
  rw [scaled_pow kept n 925] at h
  have ho := order_isU h isU_bound
  have hc := cmp_scaled (kept * 2 ^ n) 16777216 (2 ^ 925) (Nat.two_pow_pos 925)
  have ho' : FloatKind.f64.format.order z 4044232465378705408 = _ := ho
  rw [ho', Option.some.injEq]
  refine ⟨hc, ?_⟩
  generalize compare (sgn false (kept * 2 ^ n * 2 ^ 925)) (sgn false (16777216 * 2 ^ 925)) = c
  cases c <;> simp

/-- An integer comes back, and nothing is written. -/
def GivesI (w : World) (b : Int) (e : Ending) (w' : World) : Prop := ∃ n, e = .returned (.int .i64 b) ∧ w' = w.drewN n

set_option maxRecDepth 100000 in
set_option maxHeartbeats 1000000 in
theorem l1Steps_any (x : Nat) (w : World) (hf : rungOf Ieee.single x < 2139095040) (hn : negOf Ieee.single x = false) : Calls Try.prog 47 #[.float .f32 x] w (GivesI w (rungOf Ieee.single x : Nat)) := by
  obtain ⟨kept, E, hu, hr, hk, hE1, hE2⟩ := split_rung hf
  have hz := widen_fin w (x := x) (by rw [s_inf]; exact hf)
  rw [hn, hu, ← scaled_pow kept E 925] at hz
  have hz' : AtY (fCv .f32 .f64 x w) kept (E + 925) := hz
  clear hz hn hu
  have Hr := Lib.hid hr
  clear hr hf
  go_enter Try.func47, Try.ntmps47
  go_wp2
  go_loopw [3, 4] (fun v i wr => ∃ (k z m : Nat), k ≤ E ∧ i = .int .i64 k ∧ v = .float .f64 z ∧ AtY z kept (E - k + 925) ∧ wr = w.drewN m) (fun _ i _ => E - (intOf i).toNat)
  case atStart => exact ⟨0, _, _, Nat.zero_le _, rfl, rfl, hz', rfl⟩
  case round =>
    clear hz'
    obtain ⟨k, z, m, hk1, rfl, rfl, hz, rfl⟩ := hrel
    obtain ⟨ho1, ho2⟩ := hz.order
    by_cases hlt : k < E
    · have hge : ¬ (kept * 2 ^ (E - k) < 16777216) := by
        have h1 := hE1 (by omega)
        have h2 : 2 ^ 1 ≤ 2 ^ (E - k) := Nat.pow_le_pow_right (by decide) (by omega)
        have h3 : 8388608 * 2 ≤ kept * 2 ^ (E - k) := Nat.mul_le_mul h1 (by omega)
        omega
      have hne : ¬ FloatKind.f64.format.order z 4044232465378705408 = some .lt := fun h => hge (ho1.1 h)
      have hst : E - k + 925 = (E - (k + 1) + 925) + 1 := by omega
      rw [hst] at hz
      obtain ⟨z', hq, hz2⟩ := hz.half hk (by omega)
      have hq1 : ∀ w, fAr .quo .f64 z 4611686018427387904 w = z' := by intro w; simp [fAr, hq]
      have hq2 : fDr .quo .f64 z 4611686018427387904 = 0 := by simp [fDr, hq]
      have hor : FloatKind.f64.format.order z 4044232465378705408 = some .eq ∨ FloatKind.f64.format.order z 4044232465378705408 = some .gt := by
        rcases ho2 with h | h | h
        · exact absurd h hne
        · exact .inl h
        · exact .inr h
      have hmeas : k < E := hlt
      clear hge hne hst hq hz ho1 ho2
      rcases hor with ho | ho
      all_goals
        go_wp2
        go_roundw
        case rel => exact ⟨k + 1, z', _, by omega, by go_num, rfl, hz2, rfl⟩
        case measure => simp [intOf]; omega
    · have hke : k = E := by omega
      subst hke
      have ho : FloatKind.f64.format.order z 4044232465378705408 = some .lt := ho1.2 (by rw [Nat.sub_self, Nat.pow_zero, Nat.mul_one]; exact hk)
      rw [Nat.sub_self, Nat.zero_add] at hz
      clear ho1 ho2 hk1 hlt
      go_wp2
      go_loopw [3, 5] (fun v i wr => ∃ (j z m : Nat), j ≤ 149 ∧ i = .int .i64 j ∧ v = .float .f64 z ∧ AtY z kept (925 + j) ∧ wr = w.drewN m) (fun _ i _ => 149 - (intOf i).toNat)
      case atStart => exact ⟨0, z, m, Nat.zero_le _, rfl, rfl, hz, rfl⟩
      case round =>
        clear hz ho
        obtain ⟨j, z2, m2, hj, rfl, rfl, hz2, rfl⟩ := hrel
        by_cases hlt : j < 149
        · obtain ⟨z', hq, hz3⟩ := hz2.twice hk (by omega)
          have hq1 : ∀ w, fAr .mul .f64 z2 4611686018427387904 w = z' := by intro w; simp [fAr, hq]
          have hq2 : fDr .mul .f64 z2 4611686018427387904 = 0 := by simp [fDr, hq]
          clear hq hz2
          go_wp2
          go_roundw
          case rel => exact ⟨j + 1, z', _, by omega, by go_num, rfl, hz3, rfl⟩
          case measure => simp [intOf]; omega
        · have hj9 : j = 149 := by omega
          subst hj9
          have hti := hz2.toInt hk
          have hcv := fun w' => run_convert_float_int (P := Try.prog) w' 28 3 .f64 .i64 z2 kept (by rw [Try.underlying28]; rfl) Try.underlying3 hti
          clear hti hz2 hj hlt
          go_wp2
          go_ret
          refine ⟨_, ?_, rfl⟩
          rw [Hr.out]
          exact congrArg (fun n : Int => Ending.returned (.int .i64 n)) (show ((kept : Int) + (k : Int) * 8388608) = ((k * 8388608 + kept : Nat) : Int) by omega)

/-- The steps of a number of single precision. -/
def stepsZ (x : Nat) : Int := if negOf Ieee.single x then -(rungOf Ieee.single x : Int) else (rungOf Ieee.single x : Int)

/-- What StepsOf gives. -/
def GivesSteps (w : World) (x : Nat) (e : Ending) (w' : World) : Prop :=
  ∃ n, e = .returned (if rungOf Ieee.single x < 2139095040 then .tuple #[.int .i64 (stepsZ x), .bool true] else .tuple #[.int .i64 0, .bool false]) ∧ w' = w.drewN n

theorem sub_self_fin {x : Nat} (h : rungOf Ieee.single x < Ieee.single.infRung) : floatBits .sub .f32 x x = some 0 := by
  obtain ⟨m, e, hr, _⟩ := read_fin Ieee.single h
  simp only [floatBits, FloatKind.format, Ieee.Format.sub]
  rw [hr]
  simp only [Ieee.Datum.opposite, Ieee.Datum.sum, Option.map_some, Ieee.Format.write]
  have : signed (negOf Ieee.single x) m (Ieee.single.leastPlace + (e : Int) - min (Ieee.single.leastPlace + (e : Int)) (Ieee.single.leastPlace + (e : Int))).toNat + signed (!negOf Ieee.single x) m (Ieee.single.leastPlace + (e : Int) - min (Ieee.single.leastPlace + (e : Int)) (Ieee.single.leastPlace + (e : Int))).toNat = 0 := by
    unfold signed
    cases negOf Ieee.single x <;> simp <;> omega
  rw [this]
  cases negOf Ieee.single x <;> rfl

theorem sub_self_not {x : Nat} (h : ¬ rungOf Ieee.single x < Ieee.single.infRung) : floatBits .sub .f32 x x = none := by
  simp only [floatBits, FloatKind.format, Ieee.Format.sub]
  rcases Nat.lt_or_ge Ieee.single.infRung (rungOf Ieee.single x) with h1 | h1
  · have hn := read_nan Ieee.single s_eb h1
    obtain ⟨s, t, he⟩ := (isNaN_cases _).1 hn
    rw [he]; rfl
  · have hi := read_inf Ieee.single s_eb (show rungOf Ieee.single x = Ieee.single.infRung by omega)
    rw [hi]
    cases negOf Ieee.single x <;> rfl

set_option maxHeartbeats 400000 in
theorem l1Finite_any (x : Nat) (w : World) : Calls Try.prog 46 #[.float .f32 x] w (GivesB w (decide (rungOf Ieee.single x < 2139095040))) := by
  by_cases h : rungOf Ieee.single x < 2139095040
  · have h1 := sub_self_fin (x := x) (by rw [s_inf]; exact h)
    have hq1 : ∀ w, fAr .sub .f32 x x w = 0 := by intro w; simp [fAr, h1]
    have ho : FloatKind.f32.format.order 0 0 = some .eq := by decide +kernel
    rw [decide_eq_true h]
    clear h1 h
    go_enter Try.func46, Try.ntmps46
    go_wp2
    go_ret
    exact ⟨_, rfl, rfl⟩
  · have h1 := sub_self_not (x := x) (by rw [s_inf]; exact h)
    have ho : FloatKind.f32.format.order (fAr .sub .f32 x x w) 0 = none := order_nan_left (fAr_nan w h1)
    rw [decide_eq_false h]
    clear h1 h
    go_enter Try.func46, Try.ntmps46
    go_wp2
    go_ret
    exact ⟨_, rfl, rfl⟩

set_option maxHeartbeats 400000 in
theorem spec_stepsOf (x : Nat) (w : World) : Calls Try.prog 18 #[.float .f32 x] w (GivesSteps w x) := by
  by_cases h : rungOf Ieee.single x < 2139095040
  · go_enter Try.func18, Try.ntmps18
    go_wp2_with fail
    refine (l1Finite_any x _).mono ?_
    rintro _ _ ⟨n1, rfl, rfl⟩
    rw [decide_eq_true h]
    go_wp2_with fail
    refine (l1Abs_any x _).mono ?_
    rintro _ _ ⟨⟨y, rfl, hy⟩, rfl⟩
    obtain ⟨hy1, hy2⟩ := hy.2 (not_nan_of_fin (by rw [s_inf]; exact h))
    go_wp2_with fail
    refine (l1Steps_any y _ (by rw [hy1]; exact h) hy2).mono ?_
    rintro _ _ ⟨n2, rfl, rfl⟩
    rw [hy1]
    have hb : (rungOf Ieee.single x : Int) < 2139095040 := by omega
    have hst : stepsZ x = if negOf Ieee.single x then -(rungOf Ieee.single x : Int) else (rungOf Ieee.single x : Int) := rfl
    have Hst := Lib.hid hst
    have ho := order_zero_fin (x := x) (by rw [s_inf]; exact h)
    have hfin : ∀ v : Int, v = stepsZ x → GivesSteps w x (.returned (.tuple #[.int .i64 v, .bool true])) (w.drewN (n1 + n2)) := by
      intro v hv
      refine ⟨n1 + n2, ?_, rfl⟩
      rw [if_pos h, hv]
    have Hfin := Lib.hid hfin
    clear hst hy hy1 hy2 hfin
    generalize rungOf Ieee.single x = r at *
    generalize negOf Ieee.single x = s at *
    by_cases h0 : r = 0
    · subst h0
      rw [if_pos rfl] at ho
      have ho' : FloatKind.f32.format.order x 0 = some .eq := ho
      clear ho
      go_wp2_with fail
      go_ret2
      exact Hfin.out _ (by rw [Hst.out]; cases s <;> rfl)
    · rw [if_neg h0] at ho
      cases s with
      | true =>
        have ho' : FloatKind.f32.format.order x 0 = some .lt := ho
        clear ho
        go_wp2_with fail
        go_ret2
        exact Hfin.out _ (by rw [Hst.out]; rfl)
      | false =>
        have ho' : FloatKind.f32.format.order x 0 = some .gt := ho
        clear ho
        go_wp2_with fail
        go_ret2
        exact Hfin.out _ (by rw [Hst.out]; rfl)
  · go_enter Try.func18, Try.ntmps18
    go_wp2_with fail
    refine (l1Finite_any x _).mono ?_
    rintro _ _ ⟨n1, rfl, rfl⟩
    rw [decide_eq_false h]
    go_wp2_with fail
    go_ret2
    exact ⟨_, by rw [if_neg h]; rfl, rfl⟩

theorem bits_andNot_sign (x : Nat) (hx : x < 4294967296) : bits .andNot .u32 (x : Int) 2147483648 = (rungOf Ieee.single x : Nat) := by
  have e : (2147483648 : Int) = ((2147483648 : Nat) : Int) := rfl
  rw [e]
  unfold bits rungOf
  rw [s_sw]
  have hb : IntKind.u32.bits = 32 := rfl
  rw [hb]
  simp only [BitVec.ofInt_natCast]
  have hm : (BitVec.ofNat 32 x &&& ~~~(BitVec.ofNat 32 2147483648)).toNat = x % 2147483648 := by
    rw [BitVec.toNat_and, BitVec.toNat_not, BitVec.toNat_ofNat, BitVec.toNat_ofNat]
    have e1 : x % 2 ^ 32 = x := Nat.mod_eq_of_lt (by omega)
    have e2 : 2 ^ 32 - 1 - 2147483648 % 2 ^ 32 = 2 ^ 31 - 1 := by decide
    rw [e1, e2, Nat.and_two_pow_sub_one_eq_mod]
  rw [hm, IntKind.wrap_u32]
  omega

theorem bits_sign_int (x : Nat) (hx : x < 4294967296) : bits .and .u32 (x : Int) 2147483648 = (zeroOf x : Nat) := by
  have h := bits_and_u32 x 2147483648 hx (by omega)
  rw [and_sign] at h
  exact h

set_option maxHeartbeats 400000 in
theorem impl_stepsOf (x : Nat) (hx : x < 4294967296) (w : World) : Calls Try.prog 84 #[.float .f32 x] w (GivesSteps w x) := by
  have hb := run_float32bits x
  have h1 := bits_andNot_sign x hx
  have h2 := bits_sign_int x hx
  have hst : stepsZ x = if negOf Ieee.single x then -(rungOf Ieee.single x : Int) else (rungOf Ieee.single x : Int) := rfl
  have Hst := Lib.hid hst
  have hlt : rungOf Ieee.single x < 2147483648 := by unfold rungOf; rw [s_sw]; exact Nat.mod_lt _ (by decide)
  have hfin : ∀ e : Ending, e = .returned (if rungOf Ieee.single x < 2139095040 then .tuple #[.int .i64 (stepsZ x), .bool true] else .tuple #[.int .i64 0, .bool false]) → GivesSteps w x e w := fun e he => ⟨0, he, rfl⟩
  have Hfin := Lib.hid hfin
  unfold zeroOf at h2
  clear hst hfin hx
  generalize rungOf Ieee.single x = r at *
  generalize negOf Ieee.single x = s at *
  by_cases h : r < 2139095040
  · cases s with
    | true =>
      simp only [if_true] at h2
      go_enter Try.func84, Try.ntmps84
      go_wp2_with fail
      go_ret2
      exact Hfin.out _ (by rw [if_pos h, Hst.out]; rfl)
    | false =>
      simp only [Bool.false_eq_true, if_false] at h2
      go_enter Try.func84, Try.ntmps84
      go_wp2_with fail
      go_ret2
      exact Hfin.out _ (by rw [if_pos h, Hst.out]; rfl)
  · go_enter Try.func84, Try.ntmps84
    have hge : 2139095040 ≤ r := by omega
    clear h2
    go_wp2_with fail
    go_ret2
    exact Hfin.out _ (by rw [if_neg h]; rfl)

end Go.Proofs.Ytmdmfkdmgmcbpaa
