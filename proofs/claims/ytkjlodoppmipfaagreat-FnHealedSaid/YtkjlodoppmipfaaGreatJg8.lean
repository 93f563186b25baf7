/- FromSteps. FromSteps, NextUp, NextDown. Numbers that are drawn. Any number that is drawn. -/
import Derived.Test.YtkjlodoppmipfaaGreatJg7
import Derived.Test.YtkjlodoppmipfaaGreatJg5
namespace Go.Proofs.YtkjlodoppmipfaaGreat
section
open Ieee Go.RowKit

/-- The number with so many steps, by its bits. -/
def fromB (k : Int) : Nat := if k < 0 then 2147483648 + k.natAbs else k.natAbs

def GivesFrom (w : World) (k : Int) (e : Ending) (w' : World) : Prop :=
  ∃ n, e = .returned (if -2139095039 ≤ k ∧ k ≤ 2139095039 then .tuple #[.float .f32 (fromB k), .bool true] else .tuple #[.float .f32 0, .bool false]) ∧ w' = w.drewN n

set_option maxHeartbeats 400000 in
theorem l1In_any (x a b : Int) (w : World) : Calls Tryz.prog 98 #[.int .i64 x, .int .i64 a, .int .i64 b] w fun e w' => e = .returned (.bool (decide (a ≤ x ∧ x ≤ b))) ∧ w = w' := by
  by_cases h1 : a ≤ x
  · by_cases h2 : x ≤ b
    · rw [decide_eq_true (show a ≤ x ∧ x ≤ b from ⟨h1, h2⟩)]
      go_enter Tryz.func98, Tryz.ntmps98
      go_wp2
      go_ret
      exact ⟨rfl, rfl⟩
    · rw [decide_eq_false (show ¬ (a ≤ x ∧ x ≤ b) from fun h => h2 h.2)]
      go_enter Tryz.func98, Tryz.ntmps98
      go_wp2
      go_ret
      exact ⟨rfl, rfl⟩
  · rw [decide_eq_false (show ¬ (a ≤ x ∧ x ≤ b) from fun h => h1 h.1)]
    go_enter Tryz.func98, Tryz.ntmps98
    go_wp2
    go_ret
    exact ⟨rfl, rfl⟩

theorem times_one_pow (kept K : Nat) : kept * 2 ^ K = kept * 2 ^ K * 2 ^ 0 := by rw [Nat.pow_zero, Nat.mul_one]

theorem AtY.ofInt {kept : Nat} (hk : kept < 16777216) : AtY (floatOfInt .f64 kept) kept 1074 := by
  have h : floatOfInt .f64 kept = Ieee.double.nearest false kept 0 := by
    unfold floatOfInt FloatKind.nearest FloatKind.encode FloatKind.format Ieee.Format.write
    simp only []
    have e1 : decide ((kept : Int) < 0) = false := by simp
    rw [e1, Int.natAbs_natCast]
  rw [h]
  exact isU_of_nearest false (a := 1074) (b := 0) (rep_d (n := 1074) hk (by omega)) (times_one_pow kept 1074) (by rw [d_lp]; omega)

theorem narrow {z E kept r : Nat} {s : Bool} (h : isU Ieee.double z s (kept * 2 ^ (E + 925))) (hr : units Ieee.single r = kept * 2 ^ E) (hr' : r < Ieee.single.infRung) :
    floatToFloatBits .f64 z .f32 = some (Ieee.single.word s r) := by
  obtain ⟨m, g, h1, h2⟩ := read_isU h
  rw [scaled_pow kept E 925, ← hr] at h2
  have hw : isU Ieee.single (Ieee.single.nearest s m (Ieee.double.leastPlace + (g : Int))) s (units Ieee.single r) :=
    isU_of_nearest s (a := g) (b := 925) ⟨r, hr', rfl⟩ h2 (by rw [d_lp, s_lp]; omega)
  have he := isU_word hw ⟨r, rfl, hr', rfl⟩
  obtain ⟨m', g', h3, _⟩ := read_isU hw
  unfold floatToFloatBits FloatKind.decode FloatKind.encode FloatKind.format
  rw [if_neg (by simp)]
  simp only []
  rw [h1]
  simp only [Ieee.Format.write, h3, Ieee.Datum.isInfinity]
  rw [← he]
  rfl

theorem d_sw : Ieee.double.signWeight = 9223372036854775808 := by decide +kernel

theorem neg_isU {z U : Nat} (h : isU Ieee.double z false U) : isU Ieee.double (Op.negFloat .f64 z) true U := by
  obtain ⟨r, hz, hr, hU⟩ := h
  refine ⟨r, ?_, hr, hU⟩
  rw [d_inf] at hr
  rw [hz]
  clear hz hU
  have e1 : Ieee.double.word false r = r := rfl
  have e2 : Ieee.double.word true r = Ieee.double.signWeight + r := rfl
  have e3 : Op.negFloat .f64 r = r ^^^ 2 ^ 63 := rfl
  rw [e1, e2, e3, d_sw]
  have h1 : r < 2 ^ 63 := by omega
  have h2 := Nat.two_pow_add_eq_or_of_lt h1 1
  have h3 : (r ^^^ 2 ^ 63) = 2 ^ 63 * 1 ||| r := by
    apply Nat.eq_of_testBit_eq
    intro i
    rw [Nat.testBit_xor, Nat.testBit_or, Nat.mul_one, Nat.testBit_two_pow]
    by_cases hi : 63 = i
    · subst hi
      rw [Nat.testBit_lt_two_pow h1]
      simp
    · have : decide (63 = i) = false := by simpa using hi
      rw [this]
      simp
  rw [h3, ← h2]

theorem fromB_neg {N : Nat} (h : 0 < N) : fromB (-(N : Int)) = Ieee.single.word true N := by
  unfold fromB
  rw [if_pos (by omega)]
  show _ = Ieee.single.signWeight + N
  rw [s_sw]
  omega
theorem fromB_pos (N : Nat) : fromB (N : Int) = Ieee.single.word false N := by
  unfold fromB
  rw [if_neg (by omega)]
  show _ = N
  omega

set_option maxRecDepth 100000 in
set_option maxHeartbeats 1000000 in
theorem spec_fromSteps_neg (N : Nat) (h0 : 0 < N) (hN : N < 2139095040) (w : World) :
    Calls Tryz.prog 86 #[.int .i64 (-(N : Int))] w fun e w' => e = .returned (.tuple #[.float .f32 (Ieee.single.word true N), .bool true]) ∧ w = w' := by
  obtain ⟨kept, E, hu, hr, hk, hE1, hE2⟩ := split_rung hN
  have Hr := Lib.hid hr
  have Hu := Lib.hid hu
  have HE2 := Lib.hid hE2
  have Hin : Hid (decide (-2139095039 ≤ (-(N : Int)) ∧ (-(N : Int)) ≤ 2139095039) = true) := by unfold Hid; rw [decide_eq_true_eq]; omega
  clear hu hr
  go_enter Tryz.func86, Tryz.ntmps86
  go_wp2_with fail
  refine (l1In_any (-(N : Int)) _ _ _).mono ?_
  rintro _ _ ⟨rfl, rfl⟩
  rw [Hin.out]
  go_wp2_with fail
  go_loopw [4, 5] (fun v i wr => ∃ (j V : Nat), j ≤ E ∧ V = kept + (E - j) * 8388608 ∧ v = .int .i64 V ∧ i = .int .i64 j ∧ w = wr) (fun _ i _ => E - (intOf i).toNat)
  case atStart => exact ⟨0, N, Nat.zero_le _, by rw [Hr.out]; omega, rfl, rfl, rfl⟩
  case round =>
    obtain ⟨j, V, hj, hV, rfl, rfl, rfl⟩ := hrel
    by_cases hlt : j < E
    · have hk3 := hE1 (by omega)
      have hV1 : 16777216 ≤ V := by
        have : 8388608 ≤ (E - j) * 8388608 := by omega
        omega
      have hV2 : V - 8388608 = kept + (E - (j + 1)) * 8388608 := by omega
      have i1 : (16777216 : Int) ≤ (V : Int) := by omega
      have i2 : (V : Int) ≤ 2139095040 := by omega
      have HV2 := Lib.hid hV2
      have HV1 := Lib.hid hV1
      have Hk := Lib.hid hk
      have HN := Lib.hid hN
      clear hV hV2 hV1 hk hk3 hN
      go_wp2_with fail
      go_roundw
      case rel => exact ⟨j + 1, V - 8388608, by omega, HV2.out, congrArg (Value.int .i64) (show (V : Int) - 8388608 = ((V - 8388608 : Nat) : Int) by have := HV1.out; omega), by go_num, by first | rfl | trivial⟩
      case measure => simp [intOf]; omega
    · have hje : j = E := by omega
      subst hje
      have hVk : V = kept := by omega
      subst hVk
      have i1 : decide ((16777216 : Int) ≤ (V : Int)) = false := by rw [decide_eq_false_iff_not]; omega
      have Hk := Lib.hid hk
      have HN := Lib.hid hN
      have Hz0 := Lib.hid (AtY.ofInt hk)
      clear hV hj hlt hk hN hE1 hE2
      go_wp2_with fail
      go_loopw [6, 7] (fun v i wr => ∃ (i' z : Nat), i' ≤ 149 ∧ i = .int .i64 i' ∧ v = .float .f64 z ∧ AtY z V (1074 - i') ∧ w = wr) (fun _ i _ => 149 - (intOf i).toNat)
      case atStart => exact ⟨0, _, Nat.zero_le _, rfl, rfl, Hz0.out, rfl⟩
      case round =>
        clear Hz0
        obtain ⟨i, z, hi, rfl, rfl, hz, rfl⟩ := hrel
        by_cases hlt : i < 149
        · have hst : 1074 - i = (1074 - (i + 1)) + 1 := by omega
          rw [hst] at hz
          obtain ⟨z', hq, hz2⟩ := hz.half Hk.out (by omega)
          have hq1 : ∀ w, fAr .quo .f64 z 4611686018427387904 w = z' := by intro w; simp [fAr, hq]
          have hq2 : fDr .quo .f64 z 4611686018427387904 = 0 := by simp [fDr, hq]
          clear hq hst hz
          go_wp2_with fail
          go_roundw
          case rel => exact ⟨i + 1, z', by omega, by go_num, rfl, hz2, by first | rfl | trivial⟩
          case measure => simp [intOf]; omega
        · have hi9 : i = 149 := by omega
          subst hi9
          have hz' : AtY z V (0 + 925) := hz
          clear hz hi hlt
          go_wp2_with fail
          go_loopw [5, 6] (fun c v wr => ∃ (i' z R : Nat), i' ≤ j ∧ R = j - i' ∧ c = .int .i64 R ∧ v = .float .f64 z ∧ AtY z V (i' + 925) ∧ w = wr) (fun c _ _ => (intOf c).toNat)
          case atStart => exact ⟨0, z, j, Nat.zero_le _, by omega, rfl, rfl, hz', rfl⟩
          case round =>
            clear hz'
            obtain ⟨i, z2, R, hi, hR, rfl, rfl, hz2, rfl⟩ := hrel
            by_cases hlt : i < j
            · have hR0 : 0 < R := by omega
              obtain ⟨z', hq, hz3⟩ := hz2.twice Hk.out (by have := HE2.out; omega)
              have hq1 : ∀ w, fAr .mul .f64 z2 4611686018427387904 w = z' := by intro w; simp [fAr, hq]
              have hq2 : fDr .mul .f64 z2 4611686018427387904 = 0 := by simp [fDr, hq]
              have e1 : i + 925 + 1 = (i + 1) + 925 := by omega
              rw [e1] at hz3
              have HR := Lib.hid hR
              have hRb : R ≤ 253 := by have := HE2.out; omega
              clear hq hz2 e1 hR
              go_wp2_with fail
              go_roundw
              case rel => exact ⟨i + 1, z', R - 1, by omega, by have := HR.out; omega, by go_num, rfl, hz3, by first | rfl | trivial⟩
              case measure => simp [intOf]; omega
            · have hie : i = j := by omega
              subst hie
              have hR0 : R = 0 := by omega
              subst hR0
              clear hR hi hlt
              have hnar := narrow (r := N) (neg_isU hz2) Hu.out (by rw [s_inf]; exact HN.out)
              have hc1 : ∀ w, fCv .f64 .f32 (Op.negFloat .f64 z2) w = Ieee.single.word true N := by intro w; simp [fCv, hnar]
              have hc2 : fCd .f64 .f32 (Op.negFloat .f64 z2) = 0 := by simp [fCd, hnar]
              clear hnar hz2
              go_wp2_with fail
              go_ret2
              exact ⟨rfl, rfl⟩

set_option maxRecDepth 100000 in
set_option maxHeartbeats 1000000 in
theorem spec_fromSteps_pos (N : Nat) (hN : N < 2139095040) (w : World) :
    Calls Tryz.prog 86 #[.int .i64 (N : Int)] w fun e w' => e = .returned (.tuple #[.float .f32 (Ieee.single.word false N), .bool true]) ∧ w = w' := by
  obtain ⟨kept, E, hu, hr, hk, hE1, hE2⟩ := split_rung hN
  have Hr := Lib.hid hr
  have Hu := Lib.hid hu
  have HE2 := Lib.hid hE2
  have Hin : Hid (decide (-2139095039 ≤ (N : Int) ∧ (N : Int) ≤ 2139095039) = true) := by unfold Hid; rw [decide_eq_true_eq]; omega
  clear hu hr
  go_enter Tryz.func86, Tryz.ntmps86
  go_wp2_with fail
  refine (l1In_any (N : Int) _ _ _).mono ?_
  rintro _ _ ⟨rfl, rfl⟩
  rw [Hin.out]
  go_wp2_with fail
  go_loopw [4, 5] (fun v i wr => ∃ (j V : Nat), j ≤ E ∧ V = kept + (E - j) * 8388608 ∧ v = .int .i64 V ∧ i = .int .i64 j ∧ w = wr) (fun _ i _ => E - (intOf i).toNat)
  case atStart => exact ⟨0, N, Nat.zero_le _, by rw [Hr.out]; omega, rfl, rfl, rfl⟩
  case round =>
    obtain ⟨j, V, hj, hV, rfl, rfl, rfl⟩ := hrel
    by_cases hlt : j < E
    · have hk3 := hE1 (by omega)
      have hV1 : 16777216 ≤ V := by
        have : 8388608 ≤ (E - j) * 8388608 := by omega
        omega
      have hV2 : V - 8388608 = kept + (E - (j + 1)) * 8388608 := by omega
      have i1 : (16777216 : Int) ≤ (V : Int) := by omega
      have i2 : (V : Int) ≤ 2139095040 := by omega
      have HV2 := Lib.hid hV2
      have HV1 := Lib.hid hV1
      have Hk := Lib.hid hk
      have HN := Lib.hid hN
      clear hV hV2 hV1 hk hk3 hN
      go_wp2_with fail
      go_roundw
      case rel => exact ⟨j + 1, V - 8388608, by omega, HV2.out, congrArg (Value.int .i64) (show (V : Int) - 8388608 = ((V - 8388608 : Nat) : Int) by have := HV1.out; omega), by go_num, by first | rfl | trivial⟩
      case measure => simp [intOf]; omega
    · have hje : j = E := by omega
      subst hje
      have hVk : V = kept := by omega
      subst hVk
      have i1 : decide ((16777216 : Int) ≤ (V : Int)) = false := by rw [decide_eq_false_iff_not]; omega
      have Hk := Lib.hid hk
      have HN := Lib.hid hN
      have Hz0 := Lib.hid (AtY.ofInt hk)
      clear hV hj hlt hk hN hE1 hE2
      go_wp2_with fail
      go_loopw [6, 7] (fun v i wr => ∃ (i' z : Nat), i' ≤ 149 ∧ i = .int .i64 i' ∧ v = .float .f64 z ∧ AtY z V (1074 - i') ∧ w = wr) (fun _ i _ => 149 - (intOf i).toNat)
      case atStart => exact ⟨0, _, Nat.zero_le _, rfl, rfl, Hz0.out, rfl⟩
      case round =>
        clear Hz0
        obtain ⟨i, z, hi, rfl, rfl, hz, rfl⟩ := hrel
        by_cases hlt : i < 149
        · have hst : 1074 - i = (1074 - (i + 1)) + 1 := by omega
          rw [hst] at hz
          obtain ⟨z', hq, hz2⟩ := hz.half Hk.out (by omega)
          have hq1 : ∀ w, fAr .quo .f64 z 4611686018427387904 w = z' := by intro w; simp [fAr, hq]
          have hq2 : fDr .quo .f64 z 4611686018427387904 = 0 := by simp [fDr, hq]
          clear hq hst hz
          go_wp2_with fail
          go_roundw
          case rel => exact ⟨i + 1, z', by omega, by go_num, rfl, hz2, by first | rfl | trivial⟩
          case measure => simp [intOf]; omega
        · have hi9 : i = 149 := by omega
          subst hi9
          have hz' : AtY z V (0 + 925) := hz
          clear hz hi hlt
          go_wp2_with fail
          go_loopw [5, 6] (fun c v wr => ∃ (i' z R : Nat), i' ≤ j ∧ R = j - i' ∧ c = .int .i64 R ∧ v = .float .f64 z ∧ AtY z V (i' + 925) ∧ w = wr) (fun c _ _ => (intOf c).toNat)
          case atStart => exact ⟨0, z, j, Nat.zero_le _, by omega, rfl, rfl, hz', rfl⟩
          case round =>
            clear hz'
            obtain ⟨i, z2, R, hi, hR, rfl, rfl, hz2, rfl⟩ := hrel
            by_cases hlt : i < j
            · have hR0 : 0 < R := by omega
              obtain ⟨z', hq, hz3⟩ := hz2.twice Hk.out (by have := HE2.out; omega)
              have hq1 : ∀ w, fAr .mul .f64 z2 4611686018427387904 w = z' := by intro w; simp [fAr, hq]
              have hq2 : fDr .mul .f64 z2 4611686018427387904 = 0 := by simp [fDr, hq]
              have e1 : i + 925 + 1 = (i + 1) + 925 := by omega
              rw [e1] at hz3
              have HR := Lib.hid hR
              have hRb : R ≤ 253 := by have := HE2.out; omega
              clear hq hz2 e1 hR
              go_wp2_with fail
              go_roundw
              case rel => exact ⟨i + 1, z', R - 1, by omega, by have := HR.out; omega, by go_num, rfl, hz3, by first | rfl | trivial⟩
              case measure => simp [intOf]; omega
            · have hie : i = j := by omega
              subst hie
              have hR0 : R = 0 := by omega
              subst hR0
              clear hR hi hlt
              have hnar := narrow (r := N) hz2 Hu.out (by rw [s_inf]; exact HN.out)
              have hc1 : ∀ w, fCv .f64 .f32 z2 w = Ieee.single.word false N := by intro w; simp [fCv, hnar]
              have hc2 : fCd .f64 .f32 z2 = 0 := by simp [fCd, hnar]
              clear hnar hz2
              go_wp2_with fail
              go_ret2
              exact ⟨rfl, rfl⟩
end
section
open Ieee Go.RowKit

set_option maxHeartbeats 400000 in
theorem spec_fromSteps (k : Int) (w : World) : Calls Tryz.prog 86 #[.int .i64 k] w (GivesFrom w k) := by
  by_cases h : -2139095039 ≤ k ∧ k ≤ 2139095039
  · by_cases hneg : k < 0
    · obtain ⟨N, hN⟩ : ∃ N : Nat, k = -(N : Int) := ⟨k.natAbs, by omega⟩
      refine Calls.mono (P := Tryz.prog) (by rw [hN]; exact spec_fromSteps_neg N (by omega) (by omega) w) ?_
      rintro e w' ⟨rfl, rfl⟩
      exact ⟨0, by rw [if_pos h, hN, fromB_neg (by omega)], rfl⟩
    · obtain ⟨N, hN⟩ : ∃ N : Nat, k = (N : Int) := ⟨k.natAbs, by omega⟩
      refine Calls.mono (P := Tryz.prog) (by rw [hN]; exact spec_fromSteps_pos N (by omega) w) ?_
      rintro e w' ⟨rfl, rfl⟩
      exact ⟨0, by rw [if_pos h, hN, fromB_pos], rfl⟩
  · go_enter Tryz.func86, Tryz.ntmps86
    go_wp2_with fail
    refine (l1In_any k _ _ _).mono ?_
    rintro _ _ ⟨rfl, rfl⟩
    rw [decide_eq_false h]
    go_wp2_with fail
    go_ret2
    exact ⟨0, by rw [if_neg h]; rfl, rfl⟩

theorem or_sign {N : Nat} (h : N < 2147483648) : N ||| 2147483648 = 2147483648 + N := by
  have h1 : N < 2 ^ 31 := h
  have h2 := Nat.two_pow_add_eq_or_of_lt h1 1
  rw [Nat.mul_one] at h2
  have h3 : (2 ^ 31 : Nat) = 2147483648 := rfl
  rw [h3] at h2
  rw [h2, Nat.or_comm]

def GivesNext (w : World) (x : Nat) (d : Int) (e : Ending) (w' : World) : Prop :=
  ∃ n, e = .returned (if rungOf Ieee.single x < 2139095040 ∧ -2139095039 ≤ stepsZ x + d ∧ stepsZ x + d ≤ 2139095039 then .tuple #[.float .f32 (fromB (stepsZ x + d)), .bool true] else .tuple #[.float .f32 0, .bool false]) ∧ w' = w.drewN n

theorem GivesNext.fin (w : World) (x : Nat) (d : Int) (h : rungOf Ieee.single x < 2139095040) (e : Ending) (n : Nat)
    (he : e = .returned (if -2139095039 ≤ stepsZ x + d ∧ stepsZ x + d ≤ 2139095039 then .tuple #[.float .f32 (fromB (stepsZ x + d)), .bool true] else .tuple #[.float .f32 0, .bool false])) : GivesNext w x d e (w.drewN n) := by
  refine ⟨n, ?_, rfl⟩
  rw [he]
  by_cases hin : -2139095039 ≤ stepsZ x + d ∧ stepsZ x + d ≤ 2139095039
  · rw [if_pos hin, if_pos ⟨h, hin⟩]
  · rw [if_neg hin, if_neg (fun hh => hin hh.2)]

theorem stepsZ_bound2 {x : Nat} (h : rungOf Ieee.single x < 2139095040) : -2139095040 < stepsZ x ∧ stepsZ x < 2139095040 := by
  unfold stepsZ
  split <;> omega
end
section
open Go.RowKit

theorem Cur.drewN {B : Nat} {w : World} {a : Addr} (h : Cur B w a) (n : Nat) : Cur B (w.drewN n) a := h

theorem f32_word_lt {b : Nat} (h : (Lit.float .f32 b).wf = true) : b < 4294967296 := f32_lt h
theorem fAr_lt (op : BinOp) (x y : Nat) (w : World) : fAr op .f32 x y w < 4294967296 := by
  unfold fAr
  cases h : floatBits op .f32 x y with
  | some r => exact f32_lt (floatBits_wf h)
  | none =>
    simp only [Question.cut]
    generalize w.tape w.drawn (.nanBits .f32 x y) = t
    have h1 : t % 2 < 2 := Nat.mod_lt _ (by decide)
    have h2 : (t / 2) % (2 ^ 23 - 1) < 2 ^ 23 - 1 := Nat.mod_lt _ (by decide)
    generalize t % 2 = a at *
    generalize (t / 2) % (2 ^ 23 - 1) = b at *
    omega
theorem ofInt_lt (n : Int) : floatOfInt .f32 n < 4294967296 := f32_lt (floatOfInt_wf .f32 n)
theorem fromB_lt {k : Int} (h : -2139095039 ≤ k ∧ k ≤ 2139095039) : fromB k < 4294967296 := by unfold fromB; split <;> omega
theorem neg0_lt : Op.negFloat .f32 0 < 4294967296 := by decide +kernel

/-- A number of single precision comes back, the cursor has moved. -/
def DrawnF (B : Nat) (a : Addr) (w : World) (e : Ending) (w' : World) : Prop :=
  ∃ r, e = .returned (.float .f32 r) ∧ r < 4294967296 ∧ Cur B w' a ∧ w.grownBy w' (some a.block)

def DrawnB (B : Nat) (a : Addr) (w : World) (e : Ending) (w' : World) : Prop :=
  ∃ r, e = .returned (.bool r) ∧ Cur B w' a ∧ w.grownBy w' (some a.block)

set_option maxHeartbeats 400000 in
theorem l01Once_any (B : Nat) (a : Addr) (m : Int) (w : World) (h : Cur B w a) (h1 : 1 ≤ m) (h2 : m ≤ 9223372036854775807) :
    Calls Tryz.prog 51 #[.pointer (some a), .int .i64 m] w (DrawnB B a w) := by
  go_enter Tryz.func51, Tryz.ntmps51
  go_wp2_with fail
  refine (l01Below_any B a m w h h1 h2).mono ?_
  rintro _ w1 ⟨r, rfl, r0, r1, hc, hb⟩
  go_wp2_with fail
  go_ret
  exact ⟨_, rfl, hc, hb⟩

set_option maxHeartbeats 1000000 in
theorem l1Odd_any (B : Nat) (a : Addr) (w : World) (h : Cur B w a) : Calls Tryz.prog 85 #[.pointer (some a)] w (DrawnF B a w) := by
  go_enter Tryz.func85, Tryz.ntmps85
  go_wp2_with fail
  refine (l01Below_any B a 12 w h (by omega) (by omega)).mono ?_
  rintro _ w1 ⟨r, rfl, r0, r1, hc, hb⟩
  have hcase : r = 0 ∨ r = 1 ∨ r = 2 ∨ r = 3 ∨ r = 4 ∨ r = 5 ∨ r = 6 ∨ r = 7 ∨ r = 8 ∨ r = 9 ∨ r = 10 ∨ r = 11 := by omega
  clear r0 r1
  rcases hcase with rfl | rfl | rfl | rfl | rfl | rfl | rfl | rfl | rfl | rfl | rfl | rfl
  all_goals
    go_wp2_with fail
    go_ret
    exact ⟨_, rfl, by first | exact fAr_lt _ _ _ _ | exact neg0_lt | decide, by first | exact hc | exact Cur.drewN hc _, by first | exact hb | exact grown_drewN hb _⟩

set_option maxHeartbeats 1000000 in
theorem l1Some_any (B : Nat) (a : Addr) (w : World) (h : Cur B w a) : Calls Tryz.prog 88 #[.pointer (some a)] w (DrawnF B a w) := by
  go_enter Tryz.func88, Tryz.ntmps88
  go_wp2_with fail
  refine (l01Below_any B a 3 w h (by omega) (by omega)).mono ?_
  rintro _ w1 ⟨r, rfl, r0, r1, hc, hb⟩
  have hcase : r = 0 ∨ r = 1 ∨ r = 2 := by omega
  clear r0 r1
  rcases hcase with rfl | rfl | rfl
  · go_wp2_with fail
    refine (l01Below_any B a 65 w1 hc (by omega) (by omega)).mono ?_
    rintro _ w2 ⟨s, rfl, s0, s1, hc2, hb2⟩
    go_wp2_with fail
    go_ret
    exact ⟨_, rfl, fAr_lt _ _ _ _, Cur.drewN hc2 _, grown_drewN (grown_trans hb hb2) _⟩
  · go_wp2_with fail
    refine (l01Below_any B a 2000001 w1 hc (by omega) (by omega)).mono ?_
    rintro _ w2 ⟨s, rfl, s0, s1, hc2, hb2⟩
    go_wp2_with fail
    go_ret
    exact ⟨_, rfl, fAr_lt _ _ _ _, Cur.drewN hc2 _, grown_drewN (grown_trans hb hb2) _⟩
  · go_wp2_with fail
    refine (l01Below_any B a 9 w1 hc (by omega) (by omega)).mono ?_
    rintro _ w2 ⟨s, rfl, s0, s1, hc2, hb2⟩
    go_wp2_with fail
    go_ret
    exact ⟨_, rfl, ofInt_lt _, hc2, grown_trans hb hb2⟩
end
section
open Go.RowKit

set_option maxHeartbeats 400000 in
theorem l01Int_any (B : Nat) (a : Addr) (b n c : Nat) (lo hi : Int) (w : World) (h : Cur B w a) (hb : b ≠ a.block) (hn : 1 ≤ n) (hn2 : n ≤ 100)
    (hc : ∀ j, j < n → ∃ u : Int, lo ≤ u ∧ u ≤ hi ∧ w.cell? ⟨b, j, none⟩ = some (.int .i64 u)) :
    Calls Tryz.prog 87 #[.pointer (some a), .slice (some ⟨b, 0, none⟩) n c] w fun e w' => (∃ u : Int, e = .returned (.int .i64 u) ∧ lo ≤ u ∧ u ≤ hi ∧ Cur B w' a) ∧ w.grownBy w' (some a.block) := by
  have Hc := Lib.hid hc
  clear hc
  go_enter Tryz.func87, Tryz.ntmps87
  go_wp2_with fail
  refine (l01Below_any B a n w h (by omega) (by omega)).mono ?_
  rintro _ w1 ⟨r, rfl, r0, r1, hcur, hg⟩
  obtain ⟨k, rfl⟩ := Int.eq_ofNat_of_zero_le r0
  have hkn : k < n := by omega
  obtain ⟨u, u0, u1, hu⟩ := Hc.out k hkn
  have hu1 := hg.cell hu (by intro he; injection he with he; exact hb he)
  clear hu r0 r1
  go_wp2_with fail
  go_ret
  exact ⟨⟨u, rfl, u0, u1, hcur⟩, hg⟩

theorem Cur.lt {B : Nat} {w : World} {a : Addr} (h : Cur B w a) : a.block < w.heap.size := by
  obtain ⟨g, A, n, c, i, x, rfl, _, hh, _⟩ := h
  rcases Nat.lt_or_ge g w.heap.size with h1 | h1
  · exact h1
  · rw [Array.getElem?_eq_none h1] at hh; cases hh
theorem Cur.alloc {B : Nat} {w : World} {a : Addr} (h : Cur B w a) (o : Obj) : Cur B (w.alloc o) a := by
  have hlt := h.lt
  obtain ⟨g, A, n, c, i, x, rfl, hg, hh, hi, hn, hby⟩ := h
  refine ⟨g, A, n, c, i, x, rfl, hg, (Below.heap_alloc w o g hlt).trans hh, hi, hn, fun hp => ?_⟩
  obtain ⟨b, off, rfl, hb, hc⟩ := hby hp
  refine ⟨b, off, rfl, hb, fun j hj => ?_⟩
  obtain ⟨u, u0, u1, hu⟩ := hc j hj
  exact ⟨u, u0, u1, (World.cell?_alloc_lt w o ⟨b, off + j, none⟩ (World.block_lt_of_cell? w ⟨b, off + j, none⟩ hu)).trans hu⟩

def MakesCur (w : World) (e : Ending) (w' : World) : Prop := ∃ a, e = .returned (.pointer (some a)) ∧ a.block = w.heap.size ∧ Cur w.heap.size w' a ∧ Below w.heap.size w w'

set_option maxHeartbeats 1000000 in
theorem l01New_any (A : Option Addr) (n c : Nat) (w : World) (hn : n ≤ 1048576) (h : HasBy w.heap.size w A n) :
    Calls Tryz.prog 32 #[.slice A n c] w (MakesCur w) := by
  have Hby := Lib.hid h
  have Hn := Lib.hid hn
  have i0 : (n : Int) ≤ 1048576 := by omega
  clear h hn
  go_enter Tryz.func32, Tryz.ntmps32
  go_wp2
  go_loopw [3, 4] (fun v i wr => ∃ (k : Nat) (x : Int), k ≤ n ∧ i = .int .i64 k ∧ v = .int .i64 x ∧ w = wr) (fun _ i _ => n - (intOf i).toNat)
  case atStart => exact ⟨0, _, Nat.zero_le _, rfl, rfl, rfl⟩
  case round =>
    obtain ⟨k, x, hk, rfl, rfl, rfl⟩ := hrel
    by_cases hlt : k < n
    · by_cases hlt2 : k < 4000
      · obtain ⟨b, off, rfl, hbB, hcell⟩ := Hby.out (by omega)
        obtain ⟨u, u0, u1, hu⟩ := hcell k hlt
        have i1 : decide ((k : Int) < 4000) = true := by rw [decide_eq_true_eq]; omega
        clear hcell hlt2
        go_wp2
        go_roundw
        case rel => exact ⟨k + 1, _, by omega, by go_num, rfl, by first | rfl | trivial⟩
        case measure => simp [intOf]; omega
      · have i1 : decide ((k : Int) < 4000) = false := by rw [decide_eq_false_iff_not]; omega
        clear hlt2
        go_wp2
        go_ret
        refine ⟨⟨w.heap.size, 0, none⟩, rfl, rfl, ⟨w.heap.size, A, n, c, 0, x, rfl, Nat.le_refl _, ?_, Nat.zero_le _, Hn.out, Hby.out.below ((Below.refl _ _).alloc (Nat.le_refl _) _)⟩, (Below.refl _ _).alloc (Nat.le_refl _) _⟩
        show (w.heap.push _)[w.heap.size]? = _
        simp
    · have hk2 : n ≤ k := by omega
      go_wp2
      go_ret
      refine ⟨⟨w.heap.size, 0, none⟩, rfl, rfl, ⟨w.heap.size, A, n, c, 0, x, rfl, Nat.le_refl _, ?_, Nat.zero_le _, Hn.out, Hby.out.below ((Below.refl _ _).alloc (Nat.le_refl _) _)⟩, (Below.refl _ _).alloc (Nat.le_refl _) _⟩
      show (w.heap.push _)[w.heap.size]? = _
      simp

set_option maxHeartbeats 1000000 in
theorem l1Any_any (B : Nat) (a : Addr) (w : World) (h : Cur B w a) : Calls Tryz.prog 63 #[.pointer (some a)] w (DrawnF B a w) := by
  go_enter Tryz.func63, Tryz.ntmps63
  go_wp2_with fail
  refine (l01Once_any B a 8 w h (by omega) (by omega)).mono ?_
  rintro _ w1 ⟨o1, rfl, hc1, hg1⟩
  cases o1 with
  | true =>
    go_wp2_with fail
    refine (l1Odd_any B a w1 hc1).mono ?_
    rintro _ w2 ⟨r, rfl, hr, hc2, hg2⟩
    go_wp2_with fail
    go_ret
    exact ⟨r, rfl, hr, hc2, grown_trans hg1 hg2⟩
  | false =>
    go_wp2_with fail
    refine (l01Once_any B a 6 w1 hc1 (by omega) (by omega)).mono ?_
    rintro _ w2 ⟨o2, rfl, hc2, hg2⟩
    have hg12 := grown_trans hg1 hg2
    cases o2 with
    | false =>
      go_wp2_with fail
      refine (l1Some_any B a w2 hc2).mono ?_
      rintro _ w3 ⟨r, rfl, hr, hc3, hg3⟩
      go_wp2_with fail
      go_ret
      exact ⟨r, rfl, hr, hc3, grown_trans hg12 hg3⟩
    | true =>
      go_wp2_with fail
      refine (l01Below_any B a 40 w2 hc2 (by omega) (by omega)).mono ?_
      rintro _ w3 ⟨q, rfl, q0, q1, hc3, hg3⟩
      have hg123 := grown_trans hg12 hg3
      go_wp2_with fail
      have hlt := Cur.lt hc3
      refine (l01Int_any B a w3.heap.size 5 5 (-8388608) 2139095019 _ ?_ (by omega) (by omega) (by omega) ?_).mono ?_
      · exact hc3.alloc _
      · intro j hj
        have hj5 : j = 0 ∨ j = 1 ∨ j = 2 ∨ j = 3 ∨ j = 4 := by omega
        rcases hj5 with rfl | rfl | rfl | rfl | rfl
        · exact ⟨0, by omega, by omega, by rw [World.cell?_alloc_new]; rfl⟩
        · exact ⟨8388608, by omega, by omega, by rw [World.cell?_alloc_new]; rfl⟩
        · exact ⟨-8388608, by omega, by omega, by rw [World.cell?_alloc_new]; rfl⟩
        · exact ⟨1065353216, by omega, by omega, by rw [World.cell?_alloc_new]; rfl⟩
        · exact ⟨2139095019, by omega, by omega, by rw [World.cell?_alloc_new]; rfl⟩
      rintro _ w4 ⟨⟨u, rfl, u0, u1, hc4⟩, hg4⟩
      have hg1234 : w.grownBy w4 (some a.block) := grown_trans (grown_alloc_other hg123 _) hg4
      go_wp2_with fail
      refine (spec_fromSteps (q - 20 + u) _).mono ?_
      rintro _ _ ⟨m, rfl, rfl⟩
      by_cases hin : -2139095039 ≤ q - 20 + u ∧ q - 20 + u ≤ 2139095039
      · have hlt := fromB_lt hin
        rw [if_pos hin]
        generalize fromB (q - 20 + u) = r at *
        go_wp2_with fail
        go_ret
        exact ⟨r, rfl, hlt, Cur.drewN hc4 _, grown_drewN hg1234 _⟩
      · rw [if_neg hin]
        go_wp2_with fail
        go_ret
        exact ⟨0, rfl, by decide, Cur.drewN hc4 _, grown_drewN hg1234 _⟩

/-- A number of single precision comes back; old memory is as it was. -/
def MakesFloat (w : World) (e : Ending) (w' : World) : Prop := ∃ r, e = .returned (.float .f32 r) ∧ r < 4294967296 ∧ Below w.heap.size w w'
end
end Go.Proofs.YtkjlodoppmipfaaGreat
