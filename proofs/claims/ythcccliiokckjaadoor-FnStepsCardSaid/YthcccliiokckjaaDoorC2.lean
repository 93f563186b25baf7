/- StepsBetween. -/
import Derived.Test.YthcccliiokckjaaDoorC1
namespace Go.Proofs.YthcccliiokckjaaDoor
open Ieee Go.RowKit

def GivesBetween (w : World) (a b : Nat) (e : Ending) (w' : World) : Prop :=
  ∃ n, e = .returned (if rungOf Ieee.single a < 2139095040 ∧ rungOf Ieee.single b < 2139095040 then .tuple #[.int .i64 (stepsZ b - stepsZ a), .bool true] else .tuple #[.int .i64 0, .bool false]) ∧ w' = w.drewN n

theorem stepsZ_bound {x : Nat} (h : rungOf Ieee.single x < 2139095040) : -2139095040 < stepsZ x ∧ stepsZ x < 2139095040 := by
  unfold stepsZ
  split <;> omega

set_option maxHeartbeats 1000000 in
theorem impl_stepsBetween (a : Nat) (hxa : a < 4294967296) (b : Nat) (hxb : b < 4294967296) (w : World) : Calls Tryd.prog 14 #[.float .f32 a, .float .f32 b] w (GivesBetween w a b) := by
  go_enter Tryd.func14, Tryd.ntmps14
  go_wp2_with fail
  refine (impl_stepsOf a hxa _).mono ?_
  rintro _ _ ⟨n, rfl, rfl⟩
  by_cases ha : rungOf Ieee.single a < 2139095040
  · have hba := stepsZ_bound ha
    rw [if_pos ha]
    generalize hsa : stepsZ a = p at *
    have Hsa := Lib.hid hsa
    clear hsa
    obtain ⟨ha1, ha2⟩ := hba
    go_wp2_with fail
    refine (impl_stepsOf b hxb _).mono ?_
    rintro _ _ ⟨n', rfl, rfl⟩
    by_cases hb : rungOf Ieee.single b < 2139095040
    · have hbb := stepsZ_bound hb
      rw [if_pos hb]
      generalize hsb : stepsZ b = q at *
      have Hsb := Lib.hid hsb
      clear hsb
      obtain ⟨hb1, hb2⟩ := hbb
      go_wp2_with fail
      go_ret2
      exact ⟨_, by rw [if_pos ⟨ha, hb⟩, Hsa.out, Hsb.out]; rfl, rfl⟩
    · rw [if_neg hb]
      go_wp2_with fail
      go_ret2
      exact ⟨_, by rw [if_neg (fun h => hb h.2)]; rfl, rfl⟩
  · rw [if_neg ha]
    go_wp2_with fail
    refine (impl_stepsOf b hxb _).mono ?_
    rintro _ _ ⟨n', rfl, rfl⟩
    by_cases hb : rungOf Ieee.single b < 2139095040
    · rw [if_pos hb]
      generalize stepsZ b = q at *
      go_wp2_with fail
      go_ret2
      exact ⟨_, by rw [if_neg (fun h => ha h.1)]; rfl, rfl⟩
    · rw [if_neg hb]
      go_wp2_with fail
      go_ret2
      exact ⟨_, by rw [if_neg (fun h => ha h.1)]; rfl, rfl⟩


end Go.Proofs.YthcccliiokckjaaDoor
