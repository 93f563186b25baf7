/- Modules that are made, as values; numbers of few steps. -/
import Derived.Test.YtdmahikaajdkgaaJb36
import Derived.Test.YtdmahikaajdkgaaJb38
import Derived.Test.YtdmahikaajdkgaaJb39
import Derived.Test.YtdmahikaajdkgaaJb40
import Derived.Test.YtdmahikaajdkgaaJb45
import Derived.Test.YtdmahikaajdkgaaJb10
import Derived.Test.YtdmahikaajdkgaaJb48
import Derived.Outline
namespace Go.Proofs.Ytdmahikaajdkgaa
open Ieee Go.RowKit

set_option maxRecDepth 100000 in
theorem newSum_is (w : World) : Calls Try.prog 12 #[] w fun e w' => e = .returned (.agg #[.int .i64 5, .complex .f32 0 0, .complex .f32 0 0, .float .f32 0, .slice none 0 0, .int .i64 0, .int .i64 0, .slice none 0 0, .slice none 0 0, .int .i64 0, .int .i64 0]) ∧ Span 0 0 w w' := by
  go_enter Try.func12, Try.ntmps12
  go_wp2_with fail
  exact bodyPost_ret (v := .agg #[.int .i64 5, .complex .f32 0 0, .complex .f32 0 0, .float .f32 0, .slice none 0 0, .int .i64 0, .int .i64 0, .slice none 0 0, .slice none 0 0, .int .i64 0, .int .i64 0]) (by simp [results, Try.results12, go_sem]) rfl ⟨rfl, (Span.refl _ _ _).alloc _⟩

set_option maxRecDepth 100000 in
theorem newGain_is (l : Nat) (w : World) : Calls Try.prog 17 #[.float .f32 l] w fun e w' => e = .returned (.agg #[.int .i64 3, .complex .f32 0 0, .complex .f32 0 0, .float .f32 l, .slice none 0 0, .int .i64 0, .int .i64 0, .slice none 0 0, .slice none 0 0, .int .i64 0, .int .i64 0]) ∧ Span 0 0 w w' := by
  go_enter Try.func17, Try.ntmps17
  go_wp2_with fail
  exact bodyPost_ret (v := .agg #[.int .i64 3, .complex .f32 0 0, .complex .f32 0 0, .float .f32 l, .slice none 0 0, .int .i64 0, .int .i64 0, .slice none 0 0, .slice none 0 0, .int .i64 0, .int .i64 0]) (by simp [results, Try.results17, go_sem]) rfl ⟨rfl, (Span.refl _ _ _).alloc _⟩

set_option maxRecDepth 100000 in
theorem newMixer_is (t1 t2 : Nat) (w : World) : Calls Try.prog 16 #[.complex .f32 t1 t2] w fun e w' => e = .returned (.agg #[.int .i64 2, .complex .f32 t1 t2, .complex .f32 1065353216 0, .float .f32 0, .slice none 0 0, .int .i64 0, .int .i64 0, .slice none 0 0, .slice none 0 0, .int .i64 0, .int .i64 0]) ∧ Span 0 0 w w' := by
  go_enter Try.func16, Try.ntmps16
  go_wp2_with fail
  exact bodyPost_ret (v := .agg #[.int .i64 2, .complex .f32 t1 t2, .complex .f32 1065353216 0, .float .f32 0, .slice none 0 0, .int .i64 0, .int .i64 0, .slice none 0 0, .slice none 0 0, .int .i64 0, .int .i64 0]) (by simp [results, Try.results16, go_sem]) rfl ⟨rfl, (Span.refl _ _ _).alloc _⟩

set_option maxRecDepth 100000 in
set_option maxHeartbeats 4000000 in
theorem newHold_is (n : Int) (h : 1 ≤ n ∧ n ≤ 100) (w : World) : Calls Try.prog 10 #[.int .i64 n] w fun e w' => e = .returned (.tuple #[.agg #[.int .i64 8, .complex .f32 0 0, .complex .f32 0 0, .float .f32 0, .slice none 0 0, .int .i64 0, .int .i64 0, .slice none 0 0, .slice none 0 0, .int .i64 n, .int .i64 0], .bool true]) ∧ Span 0 0 w w' := by
  have HO := Lib.hid (onlyValid_hold n)
  rw [if_pos h, decide_eq_true h] at HO
  clear h
  go_enter Try.func10, Try.ntmps10
  go_wp2_with fail
  refine (HO.out _).mono ?_
  rintro _ w1 ⟨rfl, s1⟩
  have Y := (Bx.new w #[.int .i64 0, .complex .f32 0 0, .complex .f32 0 0, .float .f32 0, .slice none 0 0, .int .i64 0, .int .i64 0, .slice none 0 0, .slice none 0 0, .int .i64 0, .int .i64 0] 35).keep s1
  have S1 := Lib.hid (((Span.refl 0 0 w).alloc (.cells #[.int .i64 0, .complex .f32 0 0, .complex .f32 0 0, .float .f32 0, .slice none 0 0, .int .i64 0, .int .i64 0, .slice none 0 0, .slice none 0 0, .int .i64 0, .int .i64 0] 35)).trans s1)
  have cy := Y.cells
  have fy := Y.thaw
  have YS := Lib.hid (Y.set11 (.int .i64 8) (.complex .f32 0 0) (.complex .f32 0 0) (.float .f32 0) (.slice none 0 0) (.int .i64 0) (.int .i64 0) (.slice none 0 0) (.slice none 0 0) (.int .i64 n) (.int .i64 0))
  clear s1 Y
  go_wp2_with fail
  have d1 := YS.out.cells
  exact bodyPost_ret (v := .tuple #[.agg #[.int .i64 8, .complex .f32 0 0, .complex .f32 0 0, .float .f32 0, .slice none 0 0, .int .i64 0, .int .i64 0, .slice none 0 0, .slice none 0 0, .int .i64 n, .int .i64 0], .bool true]) (by simp [results, Try.results10, go_sem, d1]) rfl ⟨rfl, S1.out.set11 (Nat.le_refl _) _ _ _ _ _ _ _ _ _ _ _⟩

theorem fromSteps_posM (M : Nat) (hM : M ≤ 65025) (w : World) : Calls Try.prog 8 #[.int .i64 (1 + (M : Int))] w fun e w' => e = .returned (.tuple #[.float .f32 (M + 1), .bool true]) ∧ w = w' := by
  have h := spec_fromSteps_pos (M + 1) (by omega) w
  rw [show ((M + 1 : Nat) : Int) = 1 + (M : Int) by omega] at h
  exact h
theorem fromSteps_negM (M : Nat) (hM : M ≤ 65025) (w : World) : Calls Try.prog 8 #[.int .i64 (-1 - (M : Int))] w fun e w' => e = .returned (.tuple #[.float .f32 (2147483648 + (M + 1)), .bool true]) ∧ w = w' := by
  have h := spec_fromSteps_neg (M + 1) (by omega) (by omega) w
  rw [show -((M + 1 : Nat) : Int) = -1 - (M : Int) by omega, show Ieee.single.word true (M + 1) = 2147483648 + (M + 1) by unfold Ieee.Format.word; rw [s_sw]; rfl] at h
  exact h

theorem isU_low {M : Nat} (hM : M ≤ 65026) : isU Ieee.single M false M ∧ isU Ieee.single (2147483648 + M) true M := by
  have hb : Ieee.single.binade = 8388608 := by decide +kernel
  have hu : units Ieee.single M = M := units_small _ (by rw [hb]; omega)
  refine ⟨⟨M, rfl, by rw [s_inf]; omega, hu⟩, ⟨M, by unfold Ieee.Format.word; rw [s_sw]; rfl, by rw [s_inf]; omega, hu⟩⟩
theorem sat_low {M : Nat} (hM : M ≤ 65026) : SAt 0 M (M : Int) ∧ SAt 0 (2147483648 + M) (-(M : Int)) := by
  obtain ⟨h1, h2⟩ := isU_low hM
  exact ⟨AtU.sat ⟨false, h1, by simp [sgn]⟩, AtU.sat ⟨true, by rw [Int.natAbs_neg]; exact h2, by rw [Int.natAbs_neg]; simp [sgn]⟩⟩
theorem isU_one : isU Ieee.single 1065353216 false (1 * 2 ^ 149) := by
  have := isU_fi (a := 1) (by decide)
  have e : fi 1 = 1065353216 := by decide +kernel
  rw [e] at this
  exact this
theorem mul_one_low {x U : Nat} {s : Bool} (h : isU Ieee.single x s U) : floatBits .mul .f32 x 1065353216 = some x := by
  obtain ⟨z, h1, h2⟩ := mul_isU (K := 149) s_lp h isU_one (isU_rep h) (by rw [Nat.one_mul])
  rw [Bool.xor_false] at h2
  have e := isU_word h2 h
  subst e
  exact h1
theorem flush_low {M : Nat} (h0 : 0 < M) (hM : M ≤ 65026) : flushB M = 0 ∧ flushB (2147483648 + M) = 2147483648 := by
  have r1 : rungOf Ieee.single M = M := by unfold rungOf; rw [s_sw]; exact Nat.mod_eq_of_lt (by omega)
  have r2 : rungOf Ieee.single (2147483648 + M) = M := by unfold rungOf; rw [s_sw]; omega
  have n1 : negOf Ieee.single M = false := by unfold negOf; rw [s_sw, Nat.div_eq_of_lt (by omega)]; rfl
  have n2 : negOf Ieee.single (2147483648 + M) = true := by
    unfold negOf; rw [s_sw]
    have : (2147483648 + M) / 2147483648 = 1 := by omega
    rw [this]; rfl
  constructor
  · unfold flushB subB zeroOf
    rw [r1, n1, if_pos (by simp; omega)]; rfl
  · unfold flushB subB zeroOf
    rw [r2, n2, if_pos (by simp; omega)]; rfl

theorem run_max_pos (P : Program) (ts : Array TypeId) (t : TypeId) (x y : Nat) (hx : 0 < x) (hx2 : x ≤ 2139095040) (hy2 : y ≤ 2139095040) (w : World) : (Builtin.max_ ts t #[.float .f32 x, .float .f32 y]).run P w = .ok (.float .f32 (max x y)) w := by
  have ho := order_bits hx2 hy2
  rcases Nat.lt_trichotomy x y with h | h | h
  · rw [(cmp_lt).2 (by omega)] at ho
    simp [Builtin.max_, Builtin.max2, ho, Nat.max_eq_right (Nat.le_of_lt h)]
  · subst h
    rw [(cmp_eq).2 rfl] at ho
    simp [Builtin.max_, Builtin.max2, ho]
  · rw [(cmp_gt).2 (by omega)] at ho
    simp [Builtin.max_, Builtin.max2, ho, Nat.max_eq_left (Nat.le_of_lt h)]

theorem raise_low {M N : Nat} (hM : M ≤ 65026) (hN : N ≤ 65026) : raiseN (raiseN 0 M) (2147483648 + N) = max M N := by
  have n1 := sat_nan (sat_low hM).1
  have n2 := sat_nan (sat_low hN).2
  unfold raiseN
  rw [n1, n2]
  unfold sizeB
  simp
  omega

theorem ring1_first (z : Cx) : pushR ([(0, 0)], 0, 1) z = ([z], 0, 1) ∧ oldR ([(0, 0)], 0, 1) = (0, 0) := by
  constructor
  · simp [pushR, putR, takeR]
  · simp [oldR, itemR]
theorem ring1_old (z : Cx) : oldR ([z], 0, 1) = z := by simp [oldR, itemR]
theorem ring1_vr (z : Cx) : VR ([z], 0, 1) := ⟨by simp, by simp, by simp, by simp, fun j h1 h2 => absurd (show j < 1 from h2) (by have : 1 ≤ j := h1; omega)⟩

theorem mixed_low {M N : Nat} (hM : M ≤ 65026) (hN : N ≤ 65026) (w : World) : ∃ p q, mulS (M, 2147483648 + N) (1065353216, 0) = some (p, q) ∧ FloatKind.f32.format.order p M = some .eq ∧ FloatKind.f32.format.order q (2147483648 + N) = some .eq := by
  have e1 : fi 1 = 1065353216 := by decide +kernel
  have e0 : fi 0 = 0 := by decide +kernel
  have w1 := whole_fi (a := 1) (by decide)
  have w0 := whole_fi (a := 0) (by decide)
  rw [e1] at w1
  rw [e0] at w0
  obtain ⟨⟨p, q⟩, h1, h2, h3⟩ := mulS_at (j := 0) (by omega) (a := (M, 2147483648 + N)) (b := (1065353216, 0)) (sat_low hM).1 (sat_low hN).2 w1 w0 (by omega) (by omega) (by omega) (by omega) (by omega) (by omega) w
  refine ⟨p, q, h1, ?_, ?_⟩
  · rw [sat_order h2 (sat_low hM).1, (cmp_eq).2 (by omega)]
  · rw [sat_order h3 (sat_low hN).2, (cmp_eq).2 (by omega)]
theorem one_one : mulS (1065353216, 0) (1065353216, 0) = some (1065353216, 0) := by decide +kernel
end Go.Proofs.Ytdmahikaajdkgaa
