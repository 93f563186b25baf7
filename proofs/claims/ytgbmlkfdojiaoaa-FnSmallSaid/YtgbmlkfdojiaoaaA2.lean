import Derived.Test.YtgbmlkfdojiaoaaA1
import Derived.ProofKit
namespace Go.Proofs.Ytgbmlkfdojiaoaa
open Go.RowKit

/-- The law answers true; what was there is as it was. -/
def Says (w : World) (e : Ending) (w' : World) : Prop := e = .returned (.bool true) ∧ Below w.heap.size w w'

theorem Below.drewN {B : Nat} {a w : World} (h : Below B a w) (n : Nat) : Below B a (w.drewN n) := ⟨h.os, h.tape, h.output, h.size, h.block⟩

set_option maxHeartbeats 400000 in
theorem law_twoSum (a b : Nat) (w : World) : Calls Try.prog 15 #[.float .f32 a, .float .f32 b] w (Says w) := by
  go_enter Try.func15, Try.ntmps15
  go_wp2_with fail
  refine (spec_twoSum a b _).mono ?_
  rintro _ _ ⟨s, r, n, rfl, rfl, h1, h2⟩
  go_wp2_with fail
  refine (impl_twoSum a b _).mono ?_
  rintro _ _ ⟨s', r', n', rfl, rfl, h1', h2'⟩
  go_wp2_with fail
  refine (sameFloat_true _ _ _ (FE.widen _ _ (h1'.trans h1.symm))).mono ?_
  rintro _ _ ⟨n2, rfl, rfl⟩
  go_wp2_with fail
  refine (sameFloat_true _ _ _ (FE.widen _ _ (h2'.trans h2.symm))).mono ?_
  rintro _ _ ⟨n3, rfl, rfl⟩
  go_wp2_with fail
  go_ret
  exact ⟨rfl, Below.drewN (Below.refl _ _) _⟩

set_option maxHeartbeats 400000 in
theorem law_losesHalf (x : Nat) (w : World) : Calls Try.prog 14 #[.float .f32 x] w (Says w) := by
  go_enter Try.func14, Try.ntmps14
  go_wp2_with fail
  refine (spec_losesHalf x _).mono ?_
  rintro _ _ ⟨n, rfl, rfl⟩
  go_wp2_with fail
  refine (impl_losesHalf x _).mono ?_
  rintro _ _ ⟨n', rfl, rfl⟩
  go_wp2_with fail
  go_ret
  exact ⟨rfl, Below.drewN (Below.refl _ _) _⟩

set_option maxHeartbeats 400000 in
theorem law_halveSingle (x : Nat) (n : Int) (h1 : -9223372036854775808 ≤ n) (h2 : n ≤ 9223372036854775807) (w : World) : Calls Try.prog 13 #[.float .f32 x, .int .i64 n] w (Says w) := by
  go_enter Try.func13, Try.ntmps13
  go_wp2_with fail
  refine (spec_halveSingle x n _ h1 h2).mono ?_
  rintro _ _ ⟨r, m, rfl, rfl, hr⟩
  go_wp2_with fail
  refine (impl_halveSingle x n _ h1 h2).mono ?_
  rintro _ _ ⟨r', m', rfl, rfl, hr'⟩
  go_wp2_with fail
  refine (sameFloat_true _ _ _ (FE.widen _ _ (hr'.trans hr.symm))).mono ?_
  rintro _ _ ⟨n2, rfl, rfl⟩
  go_wp2_with fail
  go_ret
  exact ⟨rfl, Below.drewN (Below.refl _ _) _⟩

theorem i64_both {n : Int} (h : (Lit.int .i64 n).wf = true) : -9223372036854775808 ≤ n ∧ n ≤ 9223372036854775807 := by
  have e1 : IntKind.i64.min = -9223372036854775808 := by decide +kernel
  have e2 : IntKind.i64.max = 9223372036854775807 := by decide +kernel
  simp only [Lit.wf, e1, e2, Bool.and_eq_true, decide_eq_true_eq] at h
  exact h
theorem i64_low {n : Int} (h : (Lit.int .i64 n).wf = true) : -9223372036854775808 ≤ n := (i64_both h).1
theorem i64_high {n : Int} (h : (Lit.int .i64 n).wf = true) : n ≤ 9223372036854775807 := (i64_both h).2
end Go.Proofs.Ytgbmlkfdojiaoaa
