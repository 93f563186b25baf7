/- FromSteps. -/
import Derived.Test.YtkjlodoppmipfaaGreatJh8
namespace Go.Proofs.YtkjlodoppmipfaaGreat
open Ieee Go.RowKit

/-- The number with so many steps, by its bits. -/
def fromB (k : Int) : Nat := if k < 0 then 2147483648 + k.natAbs else k.natAbs

def GivesFrom (w : World) (k : Int) (e : Ending) (w' : World) : Prop :=
  ∃ n, e = .returned (if -2139095039 ≤ k ∧ k ≤ 2139095039 then .tuple #[.float .f32 (fromB k), .bool true] else .tuple #[.float .f32 0, .bool false]) ∧ w' = w.drewN n

set_option maxHeartbeats 400000 in
theorem l1In_any (x a b : Int) (w : World) : Calls Tryz.prog 98 #[.int .i64 x, .int .i64 a, .int .i64 b] w fun e w' => e = .returned (.bool (decide (a ≤ x ∧ x ≤ b))) ∧ w = w' := by
  by_cases h1 : a ≤ x
  · by_cases h2 : x ≤ b
    · rw [decide_eq_true (show a ≤ x ∧ x ≤ b from ⟨h1, h2⟩)]
      go_enter Tryz.func98, Tryz.ntmps98
      go_wp2
      go_ret
      exact ⟨rfl, rfl⟩
    · rw [decide_eq_false (show ¬ (a ≤ x ∧ x ≤ b) from fun h => h2 h.2)]
      go_enter Tryz.func98, Tryz.ntmps98
      go_wp2
      go_ret
      exact ⟨rfl, rfl⟩
  · rw [decide_eq_false (show ¬ (a ≤ x ∧ x ≤ b) from fun h => h1 h.1)]
    go_enter Tryz.func98, Tryz.ntmps98
    go_wp2
    go_ret
    exact ⟨rfl, rfl⟩

theorem times_one_pow (kept K : Nat) : kept * 2 ^ K = kept * 2 ^ K * 2 ^ 0 := by rw [Nat.pow_zero, Nat.mul_one]

theorem AtY.ofInt {kept : Nat} (hk : kept < 16777216) : AtY (floatOfInt .f64 kept) kept 1074 := by
  have h : floatOfInt .f64 kept = Ieee.double.nearest false kept 0 := by
    unfold floatOfInt FloatKind.nearest FloatKind.encode FloatKind.format Ieee.Format.write
    simp only []
    have e1 : decide ((kept : Int) < 0) = false := by simp
    rw [e1, Int.natAbs_natCast]
  rw [h]
  exact isU_of_nearest false (a := 1074) (b := 0) (rep_d (n := 1074) hk (by omega)) (times_one_pow kept 1074) (by rw [d_lp]; omega)

theorem narrow {z E kept r : Nat} {s : Bool} (h : isU Ieee.double z s (kept * 2 ^ (E + 925))) (hr : units Ieee.single r = kept * 2 ^ E) (hr' : r < Ieee.single.infRung) :
    floatToFloatBits .f64 z .f32 = some (Ieee.single.word s r) := by
  obtain ⟨m, g, h1, h2⟩ := read_isU h
  rw [scaled_pow kept E 925, ← hr] at h2
  have hw : isU Ieee.single (Ieee.single.nearest s m (Ieee.double.leastPlace + (g : Int))) s (units Ieee.single r) :=
    isU_of_nearest s (a := g) (b := 925) ⟨r, hr', rfl⟩ h2 (by rw [d_lp, s_lp]; omega)
  have he := isU_word hw ⟨r, rfl, hr', rfl⟩
  obtain ⟨m', g', h3, _⟩ := read_isU hw
  unfold floatToFloatBits FloatKind.decode FloatKind.encode FloatKind.format
  rw [if_neg (by simp)]
  simp only []
  rw [h1]
  simp only [Ieee.Format.write, h3, Ieee.Datum.isInfinity]
  rw [← he]
  rfl

theorem d_sw : Ieee.double.signWeight = 9223372036854775808 := by decide +kernel

theorem neg_isU {z U : Nat} (h : isU Ieee.double z false U) : isU Ieee.double (Op.negFloat .f64 z) true U := by
  obtain ⟨r, hz, hr, hU⟩ := h
  refine ⟨r, ?_, hr, hU⟩
  rw [d_inf] at hr
  rw [hz]
  clear hz hU
  have e1 : Ieee.double.word false r = r := rfl
  have e2 : Ieee.double.word true r = Ieee.double.signWeight + r := rfl
  have e3 : Op.negFloat .f64 r = r ^^^ 2 ^ 63 := rfl
  rw [e1, e2, e3, d_sw]
  have h1 : r < 2 ^ 63 := by omega
  have h2 := Nat.two_pow_add_eq_or_of_lt h1 1
  have h3 : (r ^^^ 2 ^ 63) = 2 ^ 63 * 1 ||| r := by
    apply Nat.eq_of_testBit_eq
    intro i
    rw [Nat.testBit_xor, Nat.testBit_or, Nat.mul_one, Nat.testBit_two_pow]
    by_cases hi : 63 = i
    · subst hi
      rw [Nat.testBit_lt_two_pow h1]
      simp
    · have : decide (63 = i) = false := by simpa using hi
      rw [this]
      simp
  rw [h3, ← h2]

theorem fromB_neg {N : Nat} (h : 0 < N) : fromB (-(N : Int)) = Ieee.single.word true N := by
  unfold fromB
  rw [if_pos (by omega)]
  show _ = Ieee.single.signWeight + N
  rw [s_sw]
  omega
theorem fromB_pos (N : Nat) : fromB (N : Int) = Ieee.single.word false N := by
  unfold fromB
  rw [if_neg (by omega)]
  show _ = N
  omega

set_option maxRecDepth 100000 in
set_option maxHeartbeats 1000000 in
theorem spec_fromSteps_neg (N : Nat) (h0 : 0 < N) (hN : N < 2139095040) (w : World) :
    Calls Tryz.prog 86 #[.int .i64 (-(N : Int))] w fun e w' => e = .returned (.tuple #[.float .f32 (Ieee.single.word true N), .bool true]) ∧ w = w' := by
  obtain ⟨kept, E, hu, hr, hk, hE1, hE2⟩ := split_rung hN
  have Hr := Lib.hid hr
  have Hu := Lib.hid hu
  have HE2 := Lib.hid hE2
  have Hin : Hid (decide (-2139095039 ≤ (-(N : Int)) ∧ (-(N : Int)) ≤ 2139095039) = true) := by unfold Hid; rw [decide_eq_true_eq]; omega
  clear hu hr
  go_enter Tryz.func86, Tryz.ntmps86
  go_wp2_with fail
  refine (l1In_any (-(N : Int)) _ _ _).mono ?_
  rintro _ _ ⟨rfl, rfl⟩
  rw [Hin.out]
  go_wp2_with fail
  go_loopw [4, 5] (fun v i wr => ∃ (j V : Nat), j ≤ E ∧ V = kept + (E - j) * 8388608 ∧ v = .int .i64 V ∧ i = .int .i64 j ∧ w = wr) (fun _ i _ => E - (intOf i).toNat)
  case atStart => exact ⟨0, N, Nat.zero_le _, by rw [Hr.out]; omega, rfl, rfl, rfl⟩
  case round =>
    obtain ⟨j, V, hj, hV, rfl, rfl, rfl⟩ := hrel
    by_cases hlt : j < E
    · have hk3 := hE1 (by omega)
      have hV1 : 16777216 ≤ V := by
        have : 8388608 ≤ (E - j) * 8388608 := by omega
        omega
      have hV2 : V - 8388608 = kept + (E - (j + 1)) * 8388608 := by omega
      have i1 : (16777216 : Int) ≤ (V : Int) := by omega
      have i2 : (V : Int) ≤ 2139095040 := by omega
      have HV2 := Lib.hid hV2
      have HV1 := Lib.hid hV1
      have Hk := Lib.hid hk
      have HN := Lib.hid hN
      clear hV hV2 hV1 hk hk3 hN
      go_wp2_with fail
      go_roundw
      case rel => exact ⟨j + 1, V - 8388608, by omega, HV2.out, congrArg (Value.int .i64) (show (V : Int) - 8388608 = ((V - 8388608 : Nat) : Int) by have := HV1.out; omega), by go_num, by first | rfl | trivial⟩
      case measure => simp [intOf]; omega
    · have hje : j = E := by omega
      subst hje
      have hVk : V = kept := by omega
      subst hVk
      have i1 : decide ((16777216 : Int) ≤ (V : Int)) = false := by rw [decide_eq_false_iff_not]; omega
      have Hk := Lib.hid hk
      have HN := Lib.hid hN
      have Hz0 := Lib.hid (AtY.ofInt hk)
      clear hV hj hlt hk hN hE1 hE2
      go_wp2_with fail
      go_loopw [6, 7] (fun v i wr => ∃ (i' z : Nat), i' ≤ 149 ∧ i = .int .i64 i' ∧ v = .float .f64 z ∧ AtY z V (1074 - i') ∧ w = wr) (fun _ i _ => 149 - (intOf i).toNat)
      case atStart => exact ⟨0, _, Nat.zero_le _, rfl, rfl, Hz0.out, rfl⟩
      case round =>
        clear Hz0
        obtain ⟨i, z, hi, rfl, rfl, hz, rfl⟩ := hrel
        by_cases hlt : i < 149
        · have hst : 1074 - i = (1074 - (i + 1)) + 1 := by omega
          rw [hst] at hz
          obtain ⟨z', hq, hz2⟩ := hz.half Hk.out (by omega)
          have hq1 : ∀ w, fAr .quo .f64 z 4611686018427387904 w = z' := by intro w; simp [fAr, hq]
          have hq2 : fDr .quo .f64 z 4611686018427387904 = 0 := by simp [fDr, hq]
          clear hq hst hz
          go_wp2_with fail
          go_roundw
          case rel => exact ⟨i + 1, z', by omega, by go_num, rfl, hz2, by first | rfl | trivial⟩
          case measure => simp [intOf]; omega
        · have hi9 : i = 149 := by omega
          subst hi9
          have hz' : AtY z V (0 + 925) := hz
          clear hz hi hlt
          go_wp2_with fail
          go_loopw [5, 6] (fun c v wr => ∃ (i' z R : Nat), i' ≤ j ∧ R = j - i' ∧ c = .int .i64 R ∧ v = .float .f64 z ∧ AtY z V (i' + 925) ∧ w = wr) (fun c _ _ => (intOf c).toNat)
          case atStart => exact ⟨0, z, j, Nat.zero_le _, by omega, rfl, rfl, hz', rfl⟩
          case round =>
            clear hz'
            obtain ⟨i, z2, R, hi, hR, rfl, rfl, hz2, rfl⟩ := hrel
            by_cases hlt : i < j
            · have hR0 : 0 < R := by omega
              obtain ⟨z', hq, hz3⟩ := hz2.twice Hk.out (by have := HE2.out; omega)
              have hq1 : ∀ w, fAr .mul .f64 z2 4611686018427387904 w = z' := by intro w; simp [fAr, hq]
              have hq2 : fDr .mul .f64 z2 4611686018427387904 = 0 := by simp [fDr, hq]
              have e1 : i + 925 + 1 = (i + 1) + 925 := by omega
              rw [e1] at hz3
              have HR := Lib.hid hR
              have hRb : R ≤ 253 := by have := HE2.out; omega
              clear hq hz2 e1 hR
              go_wp2_with fail
              go_roundw
              case rel => exact ⟨i + 1, z', R - 1, by omega, by have := HR.out; omega, by go_num, rfl, hz3, by first | rfl | trivial⟩
              case measure => simp [intOf]; omega
            · have hie : i = j := by omega
              subst hie
              have hR0 : R = 0 := by omega
              subst hR0
              clear hR hi hlt
              have hnar := narrow (r := N) (neg_isU hz2) Hu.out (by rw [s_inf]; exact HN.out)
              have hc1 : ∀ w, fCv .f64 .f32 (Op.negFloat .f64 z2) w = Ieee.single.word true N := by intro w; simp [fCv, hnar]
              have hc2 : fCd .f64 .f32 (Op.negFloat .f64 z2) = 0 := by simp [fCd, hnar]
              clear hnar hz2
              go_wp2_with fail
              go_ret2
              exact ⟨rfl, rfl⟩

set_option maxRecDepth 100000 in
set_option maxHeartbeats 1000000 in
theorem spec_fromSteps_pos (N : Nat) (hN : N < 2139095040) (w : World) :
    Calls Tryz.prog 86 #[.int .i64 (N : Int)] w fun e w' => e = .returned (.tuple #[.float .f32 (Ieee.single.word false N), .bool true]) ∧ w = w' := by
  obtain ⟨kept, E, hu, hr, hk, hE1, hE2⟩ := split_rung hN
  have Hr := Lib.hid hr
  have Hu := Lib.hid hu
  have HE2 := Lib.hid hE2
  have Hin : Hid (decide (-2139095039 ≤ (N : Int) ∧ (N : Int) ≤ 2139095039) = true) := by unfold Hid; rw [decide_eq_true_eq]; omega
  clear hu hr
  go_enter Tryz.func86, Tryz.ntmps86
  go_wp2_with fail
  refine (l1In_any (N : Int) _ _ _).mono ?_
  rintro _ _ ⟨rfl, rfl⟩
  rw [Hin.out]
  go_wp2_with fail
  go_loopw [4, 5] (fun v i wr => ∃ (j V : Nat), j ≤ E ∧ V = kept + (E - j) * 8388608 ∧ v = .int .i64 V ∧ i = .int .i64 j ∧ w = wr) (fun _ i _ => E - (intOf i).toNat)
  case atStart => exact ⟨0, N, Nat.zero_le _, by rw [Hr.out]; omega, rfl, rfl, rfl⟩
  case round =>
    obtain ⟨j, V, hj, hV, rfl, rfl, rfl⟩ := hrel
    by_cases hlt : j < E
    · have hk3 := hE1 (by omega)
      have hV1 : 16777216 ≤ V := by
        have : 8388608 ≤ (E - j) * 8388608 := by omega
        omega
      have hV2 : V - 8388608 = kept + (E - (j + 1)) * 8388608 := by omega
      have i1 : (16777216 : Int) ≤ (V : Int) := by omega
      have i2 : (V : Int) ≤ 2139095040 := by omega
      have HV2 := Lib.hid hV2
      have HV1 := Lib.hid hV1
      have Hk := Lib.hid hk
      have HN := Lib.hid hN
      clear hV hV2 hV1 hk hk3 hN
      go_wp2_with fail
      go_roundw
      case rel => exact ⟨j + 1, V - 8388608, by omega, HV2.out, congrArg (Value.int .i64) (show (V : Int) - 8388608 = ((V - 8388608 : Nat) : Int) by have := HV1.out; omega), by go_num, by first | rfl | trivial⟩
      case measure => simp [intOf]; omega
    · have hje : j = E := by omega
      subst hje
      have hVk : V = kept := by omega
      subst hVk
      have i1 : decide ((16777216 : Int) ≤ (V : Int)) = false := by rw [decide_eq_false_iff_not]; omega
      have Hk := Lib.hid hk
      have HN := Lib.hid hN
      have Hz0 := Lib.hid (AtY.ofInt hk)
      clear hV hj hlt hk hN hE1 hE2
      go_wp2_with fail
      go_loopw [6, 7] (fun v i wr => ∃ (i' z : Nat), i' ≤ 149 ∧ i = .int .i64 i' ∧ v = .float .f64 z ∧ AtY z V (1074 - i') ∧ w = wr) (fun _ i _ => 149 - (intOf i).toNat)
      case atStart => exact ⟨0, _, Nat.zero_le _, rfl, rfl, Hz0.out, rfl⟩
      case round =>
        clear Hz0
        obtain ⟨i, z, hi, rfl, rfl, hz, rfl⟩ := hrel
        by_cases hlt : i < 149
        · have hst : 1074 - i = (1074 - (i + 1)) + 1 := by omega
          rw [hst] at hz
          obtain ⟨z', hq, hz2⟩ := hz.half Hk.out (by omega)
          have hq1 : ∀ w, fAr .quo .f64 z 4611686018427387904 w = z' := by intro w; simp [fAr, hq]
          have hq2 : fDr .quo .f64 z 4611686018427387904 = 0 := by simp [fDr, hq]
          clear hq hst hz
          go_wp2_with fail
          go_roundw
          case rel => exact ⟨i + 1, z', by omega, by go_num, rfl, hz2, by first | rfl | trivial⟩
          case measure => simp [intOf]; omega
        · have hi9 : i = 149 := by omega
          subst hi9
          have hz' : AtY z V (0 + 925) := hz
          clear hz hi hlt
          go_wp2_with fail
          go_loopw [5, 6] (fun c v wr => ∃ (i' z R : Nat), i' ≤ j ∧ R = j - i' ∧ c = .int .i64 R ∧ v = .float .f64 z ∧ AtY z V (i' + 925) ∧ w = wr) (fun c _ _ => (intOf c).toNat)
          case atStart => exact ⟨0, z, j, Nat.zero_le _, by omega, rfl, rfl, hz', rfl⟩
          case round =>
            clear hz'
            obtain ⟨i, z2, R, hi, hR, rfl, rfl, hz2, rfl⟩ := hrel
            by_cases hlt : i < j
            · have hR0 : 0 < R := by omega
              obtain ⟨z', hq, hz3⟩ := hz2.twice Hk.out (by have := HE2.out; omega)
              have hq1 : ∀ w, fAr .mul .f64 z2 4611686018427387904 w = z' := by intro w; simp [fAr, hq]
              have hq2 : fDr .mul .f64 z2 4611686018427387904 = 0 := by simp [fDr, hq]
              have e1 : i + 925 + 1 = (i + 1) + 925 := by omega
              rw [e1] at hz3
              have HR := Lib.hid hR
              have hRb : R ≤ 253 := by have := HE2.out; omega
              clear hq hz2 e1 hR
              go_wp2_with fail
              go_roundw
              case rel => exact ⟨i + 1, z', R - 1, by omega, by have := HR.out; omega, by go_num, rfl, hz3, by first | rfl | trivial⟩
              case measure => simp [intOf]; omega
            · have hie : i = j := by omega
              subst hie
              have hR0 : R = 0 := by omega
              subst hR0
              clear hR hi hlt
              have hnar := narrow (r := N) hz2 Hu.out (by rw [s_inf]; exact HN.out)
              have hc1 : ∀ w, fCv .f64 .f32 z2 w = Ieee.single.word false N := by intro w; simp [fCv, hnar]
              have hc2 : fCd .f64 .f32 z2 = 0 := by simp [fCd, hnar]
              clear hnar hz2
              go_wp2_with fail
              go_ret2
              exact ⟨rfl, rfl⟩
end Go.Proofs.YtkjlodoppmipfaaGreat
