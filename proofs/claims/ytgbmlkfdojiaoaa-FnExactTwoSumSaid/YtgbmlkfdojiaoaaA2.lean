import Derived.Test.YtgbmlkfdojiaoaaA1
import Derived.ProofKit
namespace Go.Proofs.Ytgbmlkfdojiaoaa
open Go.RowKit

/-- The law answers true; what was there is as it was. -/
def Says (w : World) (e : Ending) (w' : World) : Prop := e = .returned (.bool true) ∧ Below w.heap.size w w'

theorem Below.drewN {B : Nat} {a w : World} (h : Below B a w) (n : Nat) : Below B a (w.drewN n) := ⟨h.os, h.tape, h.output, h.size, h.block⟩

set_option maxHeartbeats 400000 in
theorem law_twoSum (a b : Nat) (w : World) : Calls Try.prog 15 #[.float .f32 a, .float .f32 b] w (Says w) := by
  go_enter Try.func15, Try.ntmps15
  go_wp2_with fail
  refine (spec_twoSum a b _).mono ?_
  rintro _ _ ⟨s, r, n, rfl, rfl, h1, h2⟩
  go_wp2_with fail
  refine (impl_twoSum a b _).mono ?_
  rintro _ _ ⟨s', r', n', rfl, rfl, h1', h2'⟩
  go_wp2_with fail
  refine (sameFloat_true _ _ _ (FE.widen _ _ (h1'.trans h1.symm))).mono ?_
  rintro _ _ ⟨n2, rfl, rfl⟩
  go_wp2_with fail
  refine (sameFloat_true _ _ _ (FE.widen _ _ (h2'.trans h2.symm))).mono ?_
  rintro _ _ ⟨n3, rfl, rfl⟩
  go_wp2_with fail
  go_ret
  exact ⟨rfl, Below.drewN (Below.refl _ _) _⟩
end Go.Proofs.Ytgbmlkfdojiaoaa
