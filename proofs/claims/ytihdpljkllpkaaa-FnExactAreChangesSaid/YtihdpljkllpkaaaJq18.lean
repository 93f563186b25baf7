/- FromSteps, NextUp, NextDown. -/
import Derived.Test.YtihdpljkllpkaaaJq17
namespace Go.Proofs.Ytihdpljkllpkaaa
open Ieee Go.RowKit

theorem or_sign {N : Nat} (h : N < 2147483648) : N ||| 2147483648 = 2147483648 + N := by
  have h1 : N < 2 ^ 31 := h
  have h2 := Nat.two_pow_add_eq_or_of_lt h1 1
  rw [Nat.mul_one] at h2
  have h3 : (2 ^ 31 : Nat) = 2147483648 := rfl
  rw [h3] at h2
  rw [h2, Nat.or_comm]

def GivesNext (w : World) (x : Nat) (d : Int) (e : Ending) (w' : World) : Prop :=
  ∃ n, e = .returned (if rungOf Ieee.single x < 2139095040 ∧ -2139095039 ≤ stepsZ x + d ∧ stepsZ x + d ≤ 2139095039 then .tuple #[.float .f32 (fromB (stepsZ x + d)), .bool true] else .tuple #[.float .f32 0, .bool false]) ∧ w' = w.drewN n

theorem GivesNext.fin (w : World) (x : Nat) (d : Int) (h : rungOf Ieee.single x < 2139095040) (e : Ending) (n : Nat)
    (he : e = .returned (if -2139095039 ≤ stepsZ x + d ∧ stepsZ x + d ≤ 2139095039 then .tuple #[.float .f32 (fromB (stepsZ x + d)), .bool true] else .tuple #[.float .f32 0, .bool false])) : GivesNext w x d e (w.drewN n) := by
  refine ⟨n, ?_, rfl⟩
  rw [he]
  by_cases hin : -2139095039 ≤ stepsZ x + d ∧ stepsZ x + d ≤ 2139095039
  · rw [if_pos hin, if_pos ⟨h, hin⟩]
  · rw [if_neg hin, if_neg (fun hh => hin hh.2)]

theorem stepsZ_bound2 {x : Nat} (h : rungOf Ieee.single x < 2139095040) : -2139095040 < stepsZ x ∧ stepsZ x < 2139095040 := by
  unfold stepsZ
  split <;> omega
end Go.Proofs.Ytihdpljkllpkaaa
