/- For every input the law FnExactNewSum answers true and leaves its arguments as they were. No condition. -/
import Derived.Test.YtocmppilihiehaaL2
import Derived.Test.YtocmppilihiehaaK
import Derived.Test.YtocmppilihiehaaOpen
import Derived.ProofKit
import Derived.OpenShut
namespace Go.Proofs.Ytocmppilihiehaa
open Go.ChangeShapes Go.WideShapes Go.ChangeAt Go.RowKit

set_option maxRecDepth 100000 in
theorem lifted_fnExactNewSum (os : Os) (started : os.Started) (H : Type) (enc : TypeId × Value → H) :
    ReturnsInHanded {} Try.checked os 9 .any (Rows.fnExactNewSumSpec.pre6 enc Try.prog Try.f9 Rows.fnExactNewSumRow.domain false) (Rows.fnExactNewSumSpec.post enc Try.prog Try.f9 false true false false) := by
  refine returnsInHanded_of_change (C := Try.checked) own_all started (by kernel_rfl) Try.func9
    (ChangeSpec.witness6 (enc := enc) (C := Try.checked) false ⟨#[], #[], []⟩ 8 (by kernel_rfl) (by kernel_rfl) (by kernel_rfl) (by kernel_rfl)) ?_
  intro W base args ds gs before hval0 hW hcnd _
  have hval : ∀ (j : Nat) t v, Try.f9.params[j]? = some t → args[j]? = some v → Value.okWide Try.prog W .any base t v := hval0
  have hW' := hW
  obtain ⟨p, q, hA0, hV, rfl, hfz, hnd⟩ := hW
  have hA : DataW.TrodAll enc Try.prog W 0 (fun _ => true) true Try.f9.params.toList args.toList ds p := hA0
  rw [Try.params9] at hA hval
  obtain ⟨hargs, rfl, rfl⟩ := trodAll_nil hA
  obtain rfl : args = #[] := by cases args; simp_all
  obtain ⟨rfl, rfl⟩ := trodVars_none hV
  clear hA0 hval0
  simp only [List.append_nil] at hW'
  refine (law_newSum  W).mono fun e W' ⟨he, hb⟩ => ?_
  subst he
  exact ⟨_, rfl, _, _, _, [], _, [], hW', trodAll_mk1 (shut_bool Try.underlying4 _), trodAll_mk0, rfl, hb.frame _, fun h => by cases h⟩

theorem c1_fnExactNewSum : Try.pinned.checked.prog.funcNamed Rows.fnExactNewSumRow.func = some 9 := by kernel_rfl
theorem c2_fnExactNewSum : joinedFacts Try.pinned.checked.prog 9 Try.f9 Rows.fnExactNewSumSpec Rows.fnExactNewSumRow = true :=
  facts_of _ _ _ _ rfl rfl rfl (by kernel_rfl) (by kernel_rfl) (by kernel_rfl)
theorem c3_fnExactNewSum : Func.isInstance Try.pinned.checked.prog Try.f9 Rows.fnExactNewSumRow.origin Rows.fnExactNewSumRow.targs := of_decide_eq_true (by kernel_rfl)
theorem c4_fnExactNewSum : Func.isWrapper Try.pinned.checked.prog Try.f9 Rows.fnExactNewSumRow.wrapper Rows.fnExactNewSumRow.mainSum := by
  unfold Func.isWrapper; first | (rw [if_pos (by decide +kernel)]; kernel_rfl) | (rw [if_neg (by decide +kernel)]; exact ⟨rfl, rfl⟩)

theorem holds_fnExactNewSum : Rows.FnExactNewSumSaid :=
  OpenClaim.holds_of_wide 9 Try.f9 rfl rfl rfl rfl rfl rfl rfl ⟨rfl, rfl, rfl, rfl, rfl⟩ rfl rfl rfl rfl rfl c1_fnExactNewSum Try.func9 c2_fnExactNewSum c3_fnExactNewSum c4_fnExactNewSum
    (fun os started H enc _ => lifted_fnExactNewSum os started H enc)
end Go.Proofs.Ytocmppilihiehaa

