/- For every input the law FnExactTwoSum answers true and leaves its arguments as they were. No condition. -/
import Derived.Test.YtgbmlkfdojiaoaaA2
import Derived.Test.YtgbmlkfdojiaoaaK
import Derived.ProofKit
import Derived.OpenShut
namespace Go.Proofs.Ytgbmlkfdojiaoaa
open Go.ChangeShapes Go.WideShapes Go.ChangeAt Go.RowKit

set_option maxRecDepth 100000 in
theorem lifted_fnExactTwoSum (os : Os) (started : os.Started) (H : Type) (enc : TypeId × Value → H) :
    ReturnsInHanded {} Try.checked os 15 .any (Rows.fnExactTwoSumSpec.pre6 enc Try.prog Try.f15 Rows.fnExactTwoSumRow.domain false) (Rows.fnExactTwoSumSpec.post enc Try.prog Try.f15 false true false false) := by
  refine returnsInHanded_of_change (C := Try.checked) own_all started (by kernel_rfl) Try.func15
    (ChangeSpec.witness6 (enc := enc) (C := Try.checked) false ⟨#[], #[.float .f32 0, .float .f32 0], []⟩ 8 (by kernel_rfl) (by kernel_rfl) (by kernel_rfl) (by kernel_rfl)) ?_
  intro W base args ds gs before hval0 hW hcnd _
  have hval : ∀ (j : Nat) t v, Try.f15.params[j]? = some t → args[j]? = some v → Value.okWide Try.prog W .any base t v := hval0
  have hW' := hW
  obtain ⟨p, q, hA0, hV, rfl, hfz, hnd⟩ := hW
  have hA : DataW.TrodAll enc Try.prog W 0 (fun _ => true) true Try.f15.params.toList args.toList ds p := hA0
  rw [Try.params15] at hA hval
  obtain ⟨v0, vs0, d0, ds0, p0, q0, hargs, rfl, rfl, h0, r0⟩ := trodAll_cons hA
  obtain ⟨v1, vs1, d1, ds1, p1, q1, rfl, rfl, rfl, h1, r1⟩ := trodAll_cons r0
  obtain ⟨rfl, rfl, rfl⟩ := trodAll_nil r1
  obtain rfl : args = #[v0, v1] := by cases args; simp_all
  obtain ⟨rfl, rfl⟩ := trodVars_none hV
  obtain ⟨a0, rfl, rfl, rfl, w0⟩ := open_float Try.underlying23 (hval 0 23 v0 rfl rfl) h0
  obtain ⟨a1, rfl, rfl, rfl, w1⟩ := open_float Try.underlying23 (hval 1 23 v1 rfl rfl) h1
  clear hA0 hval0
  simp only [List.append_nil] at hW'
  refine (law_twoSum a0 a1 W).mono fun e W' ⟨he, hb⟩ => ?_
  subst he
  exact ⟨_, rfl, _, _, _, [], _, [], hW', trodAll_mk1 (shut_bool Try.underlying4 _), (trodAll_cons_mk (shut_float Try.underlying23 w0) (trodAll_cons_mk (shut_float Try.underlying23 w1) trodAll_mk0)), rfl, hb.frame _, fun h => by cases h⟩

theorem c1_fnExactTwoSum : Try.pinned.checked.prog.funcNamed Rows.fnExactTwoSumRow.func = some 15 := by kernel_rfl
theorem c2_fnExactTwoSum : joinedFacts Try.pinned.checked.prog 15 Try.f15 Rows.fnExactTwoSumSpec Rows.fnExactTwoSumRow = true :=
  facts_of _ _ _ _ rfl rfl rfl (by kernel_rfl) (by kernel_rfl) (by kernel_rfl)
theorem c3_fnExactTwoSum : Func.isInstance Try.pinned.checked.prog Try.f15 Rows.fnExactTwoSumRow.origin Rows.fnExactTwoSumRow.targs := of_decide_eq_true (by kernel_rfl)
theorem c4_fnExactTwoSum : Func.isWrapper Try.pinned.checked.prog Try.f15 Rows.fnExactTwoSumRow.wrapper Rows.fnExactTwoSumRow.mainSum := by
  unfold Func.isWrapper; first | (rw [if_pos (by decide +kernel)]; kernel_rfl) | (rw [if_neg (by decide +kernel)]; exact ⟨rfl, rfl⟩)

theorem holds_fnExactTwoSum : Rows.FnExactTwoSumSaid :=
  OpenClaim.holds_of_wide 15 Try.f15 rfl rfl rfl rfl rfl rfl rfl ⟨rfl, rfl, rfl, rfl, rfl⟩ rfl rfl rfl rfl rfl c1_fnExactTwoSum Try.func15 c2_fnExactTwoSum c3_fnExactTwoSum c4_fnExactTwoSum
    (fun os started H enc _ => lifted_fnExactTwoSum os started H enc)
end Go.Proofs.Ytgbmlkfdojiaoaa

