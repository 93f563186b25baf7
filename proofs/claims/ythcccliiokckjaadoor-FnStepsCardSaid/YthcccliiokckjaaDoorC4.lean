/- FromSteps, NextUp, NextDown. -/
import Derived.Test.YthcccliiokckjaaDoorC3
namespace Go.Proofs.YthcccliiokckjaaDoor
open Ieee Go.RowKit

set_option maxHeartbeats 400000 in
theorem spec_fromSteps (k : Int) (w : World) : Calls Tryd.prog 36 #[.int .i64 k] w (GivesFrom w k) := by
  by_cases h : -2139095039 ≤ k ∧ k ≤ 2139095039
  · by_cases hneg : k < 0
    · obtain ⟨N, hN⟩ : ∃ N : Nat, k = -(N : Int) := ⟨k.natAbs, by omega⟩
      refine Calls.mono (P := Tryd.prog) (by rw [hN]; exact spec_fromSteps_neg N (by omega) (by omega) w) ?_
      rintro e w' ⟨rfl, rfl⟩
      exact ⟨0, by rw [if_pos h, hN, fromB_neg (by omega)], rfl⟩
    · obtain ⟨N, hN⟩ : ∃ N : Nat, k = (N : Int) := ⟨k.natAbs, by omega⟩
      refine Calls.mono (P := Tryd.prog) (by rw [hN]; exact spec_fromSteps_pos N (by omega) w) ?_
      rintro e w' ⟨rfl, rfl⟩
      exact ⟨0, by rw [if_pos h, hN, fromB_pos], rfl⟩
  · go_enter Tryd.func36, Tryd.ntmps36
    go_wp2_with fail
    refine (l1In_any k _ _ _).mono ?_
    rintro _ _ ⟨rfl, rfl⟩
    rw [decide_eq_false h]
    go_wp2_with fail
    go_ret2
    exact ⟨0, by rw [if_neg h]; rfl, rfl⟩

theorem or_sign {N : Nat} (h : N < 2147483648) : N ||| 2147483648 = 2147483648 + N := by
  have h1 : N < 2 ^ 31 := h
  have h2 := Nat.two_pow_add_eq_or_of_lt h1 1
  rw [Nat.mul_one] at h2
  have h3 : (2 ^ 31 : Nat) = 2147483648 := rfl
  rw [h3] at h2
  rw [h2, Nat.or_comm]

set_option maxHeartbeats 400000 in
theorem impl_fromSteps (k : Int) (hk1 : -9223372036854775808 ≤ k) (hk2 : k ≤ 9223372036854775807) (w : World) : Calls Tryd.prog 11 #[.int .i64 k] w (GivesFrom w k) := by
  have hfb := fun n : Int => run_float32frombits n
  by_cases hlo : k < -2139095039
  · have hno : ¬ (-2139095039 ≤ k ∧ k ≤ 2139095039) := fun h => by omega
    go_enter Tryd.func11, Tryd.ntmps11
    go_wp2_with fail
    go_ret2
    exact ⟨0, by rw [if_neg hno]; rfl, rfl⟩
  · by_cases hhi : 2139095039 < k
    · have hno : ¬ (-2139095039 ≤ k ∧ k ≤ 2139095039) := fun h => by omega
      go_enter Tryd.func11, Tryd.ntmps11
      go_wp2_with fail
      go_ret2
      exact ⟨0, by rw [if_neg hno]; rfl, rfl⟩
    · have hin : -2139095039 ≤ k ∧ k ≤ 2139095039 := by omega
      by_cases hneg : k < 0
      · obtain ⟨N, hN⟩ : ∃ N : Nat, k = -(N : Int) := ⟨k.natAbs, by omega⟩
        have hb : fromB k = 2147483648 + N := by unfold fromB; rw [if_pos hneg]; omega
        have hor : (bits .or .u32 (N : Int) 2147483648).toNat = 2147483648 + N := by
          have h := bits_or_u32 N 2147483648 (by omega) (by omega)
          rw [or_sign (by omega)] at h
          have e : ((2147483648 : Nat) : Int) = 2147483648 := rfl
          rw [e] at h
          rw [h]
          rfl
        have Hb := Lib.hid hb
        have Hor := Lib.hid hor
        have Hin := Lib.hid hin
        have i1 : 0 < (N : Int) := by omega
        have i2 : (N : Int) ≤ 2139095039 := by omega
        clear hb hor hlo hhi hin hk1 hk2
        subst hN
        go_enter Tryd.func11, Tryd.ntmps11
        go_wp2_with fail
        go_ret2
        exact ⟨0, by rw [if_pos Hin.out, Hb.out, ← Hor.out]; rfl, rfl⟩
      · obtain ⟨N, hN⟩ : ∃ N : Nat, k = (N : Int) := ⟨k.natAbs, by omega⟩
        have hb : fromB k = N := by unfold fromB; rw [if_neg hneg]; omega
        have Hb := Lib.hid hb
        have Hin := Lib.hid hin
        have i2 : (N : Int) ≤ 2139095039 := by omega
        clear hb hlo hhi hin hk1 hk2 hneg
        subst hN
        go_enter Tryd.func11, Tryd.ntmps11
        go_wp2_with fail
        go_ret2
        exact ⟨0, by rw [if_pos Hin.out, Hb.out]; rfl, rfl⟩

def GivesNext (w : World) (x : Nat) (d : Int) (e : Ending) (w' : World) : Prop :=
  ∃ n, e = .returned (if rungOf Ieee.single x < 2139095040 ∧ -2139095039 ≤ stepsZ x + d ∧ stepsZ x + d ≤ 2139095039 then .tuple #[.float .f32 (fromB (stepsZ x + d)), .bool true] else .tuple #[.float .f32 0, .bool false]) ∧ w' = w.drewN n

theorem GivesNext.fin (w : World) (x : Nat) (d : Int) (h : rungOf Ieee.single x < 2139095040) (e : Ending) (n : Nat)
    (he : e = .returned (if -2139095039 ≤ stepsZ x + d ∧ stepsZ x + d ≤ 2139095039 then .tuple #[.float .f32 (fromB (stepsZ x + d)), .bool true] else .tuple #[.float .f32 0, .bool false])) : GivesNext w x d e (w.drewN n) := by
  refine ⟨n, ?_, rfl⟩
  rw [he]
  by_cases hin : -2139095039 ≤ stepsZ x + d ∧ stepsZ x + d ≤ 2139095039
  · rw [if_pos hin, if_pos ⟨h, hin⟩]
  · rw [if_neg hin, if_neg (fun hh => hin hh.2)]

theorem stepsZ_bound2 {x : Nat} (h : rungOf Ieee.single x < 2139095040) : -2139095040 < stepsZ x ∧ stepsZ x < 2139095040 := by
  unfold stepsZ
  split <;> omega

set_option maxHeartbeats 1000000 in
theorem impl_moveSteps (x : Nat) (hx : x < 4294967296) (d : Int) (hd1 : -1 ≤ d) (hd2 : d ≤ 1) (w : World) : Calls Tryd.prog 27 #[.float .f32 x, .int .i64 d] w (GivesNext w x d) := by
  go_enter Tryd.func27, Tryd.ntmps27
  go_wp2_with fail
  refine (impl_stepsOf x hx _).mono ?_
  rintro _ _ ⟨n, rfl, rfl⟩
  by_cases h : rungOf Ieee.single x < 2139095040
  · have hb := stepsZ_bound2 h
    rw [if_pos h]
    have Hfin := Lib.hid (GivesNext.fin w x d h)
    generalize stepsZ x = z at *
    obtain ⟨hb1, hb2⟩ := hb
    go_wp2_with fail
    refine (impl_fromSteps (z + d) (by omega) (by omega) _).mono ?_
    rintro _ _ ⟨n', rfl, rfl⟩
    by_cases hin : -2139095039 ≤ z + d ∧ z + d ≤ 2139095039
    · rw [if_pos hin]
      go_wp2_with fail
      go_ret2
      exact Hfin.out _ _ (by rw [if_pos hin]; rfl)
    · rw [if_neg hin]
      go_wp2_with fail
      go_ret2
      exact Hfin.out _ _ (by rw [if_neg hin]; rfl)
  · rw [if_neg h]
    go_wp2_with fail
    go_ret2
    exact ⟨_, by rw [if_neg (fun hh => h hh.1)]; rfl, rfl⟩

set_option maxHeartbeats 1000000 in
theorem impl_nextUp (x : Nat) (hx : x < 4294967296) (w : World) : Calls Tryd.prog 12 #[.float .f32 x] w (GivesNext w x (1)) := by
  go_enter Tryd.func12, Tryd.ntmps12
  go_wp2_with fail
  refine (impl_moveSteps x hx (1) (by omega) (by omega) _).mono ?_
  rintro _ _ ⟨n, rfl, rfl⟩
  by_cases h : rungOf Ieee.single x < 2139095040 ∧ -2139095039 ≤ stepsZ x + (1) ∧ stepsZ x + (1) ≤ 2139095039
  · have Hfin : Hid (∀ n, GivesNext w x (1) (.returned (.tuple #[.float .f32 (fromB (stepsZ x + (1))), .bool true])) (w.drewN n)) := fun n => ⟨n, by rw [if_pos h], rfl⟩
    rw [if_pos h]
    generalize fromB (stepsZ x + (1)) = r at *
    clear h
    go_wp2_with fail
    go_ret2
    exact Hfin.out _
  · have Hfin : Hid (∀ n, GivesNext w x (1) (.returned (.tuple #[.float .f32 0, .bool false])) (w.drewN n)) := fun n => ⟨n, by rw [if_neg h], rfl⟩
    rw [if_neg h]
    clear h
    go_wp2_with fail
    go_ret2
    exact Hfin.out _

set_option maxHeartbeats 1000000 in
theorem impl_nextDown (x : Nat) (hx : x < 4294967296) (w : World) : Calls Tryd.prog 13 #[.float .f32 x] w (GivesNext w x (-1)) := by
  go_enter Tryd.func13, Tryd.ntmps13
  go_wp2_with fail
  refine (impl_moveSteps x hx (-1) (by omega) (by omega) _).mono ?_
  rintro _ _ ⟨n, rfl, rfl⟩
  by_cases h : rungOf Ieee.single x < 2139095040 ∧ -2139095039 ≤ stepsZ x + (-1) ∧ stepsZ x + (-1) ≤ 2139095039
  · have Hfin : Hid (∀ n, GivesNext w x (-1) (.returned (.tuple #[.float .f32 (fromB (stepsZ x + (-1))), .bool true])) (w.drewN n)) := fun n => ⟨n, by rw [if_pos h], rfl⟩
    rw [if_pos h]
    generalize fromB (stepsZ x + (-1)) = r at *
    clear h
    go_wp2_with fail
    go_ret2
    exact Hfin.out _
  · have Hfin : Hid (∀ n, GivesNext w x (-1) (.returned (.tuple #[.float .f32 0, .bool false])) (w.drewN n)) := fun n => ⟨n, by rw [if_neg h], rfl⟩
    rw [if_neg h]
    clear h
    go_wp2_with fail
    go_ret2
    exact Hfin.out _

end Go.Proofs.YthcccliiokckjaaDoor
