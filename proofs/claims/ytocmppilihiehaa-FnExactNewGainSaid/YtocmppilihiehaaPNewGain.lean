/- For every input the law FnExactNewGain answers true and leaves its arguments as they were. No condition. -/
import Derived.Test.YtocmppilihiehaaL4
import Derived.Test.YtocmppilihiehaaK
import Derived.Test.YtocmppilihiehaaOpen
import Derived.ProofKit
import Derived.OpenShut
namespace Go.Proofs.Ytocmppilihiehaa
open Go.ChangeShapes Go.WideShapes Go.ChangeAt Go.RowKit

set_option maxRecDepth 100000 in
theorem lifted_fnExactNewGain (os : Os) (started : os.Started) (H : Type) (enc : TypeId × Value → H) :
    ReturnsInHanded {} Try.checked os 8 .any (Rows.fnExactNewGainSpec.pre6 enc Try.prog Try.f8 Rows.fnExactNewGainRow.domain false) (Rows.fnExactNewGainSpec.post enc Try.prog Try.f8 false true false false) := by
  refine returnsInHanded_of_change (C := Try.checked) own_all started (by kernel_rfl) Try.func8
    (ChangeSpec.witness6 (enc := enc) (C := Try.checked) false ⟨#[], #[.float .f32 0], []⟩ 8 (by kernel_rfl) (by kernel_rfl) (by kernel_rfl) (by kernel_rfl)) ?_
  intro W base args ds gs before hval0 hW hcnd _
  have hval : ∀ (j : Nat) t v, Try.f8.params[j]? = some t → args[j]? = some v → Value.okWide Try.prog W .any base t v := hval0
  have hW' := hW
  obtain ⟨p, q, hA0, hV, rfl, hfz, hnd⟩ := hW
  have hA : DataW.TrodAll enc Try.prog W 0 (fun _ => true) true Try.f8.params.toList args.toList ds p := hA0
  rw [Try.params8] at hA hval
  obtain ⟨v0, vs0, d0, ds0, p0, q0, hargs, rfl, rfl, h0, r0⟩ := trodAll_cons hA
  obtain ⟨rfl, rfl, rfl⟩ := trodAll_nil r0
  obtain rfl : args = #[v0] := by cases args; simp_all
  obtain ⟨rfl, rfl⟩ := trodVars_none hV
  obtain ⟨a0, rfl, rfl, rfl, w0⟩ := open_float Try.underlying36 (hval 0 36 v0 rfl rfl) h0
  clear hA0 hval0
  simp only [List.append_nil] at hW'
  refine (law_newGain a0 W).mono fun e W' ⟨he, hb⟩ => ?_
  subst he
  exact ⟨_, rfl, _, _, _, [], _, [], hW', trodAll_mk1 (shut_bool Try.underlying4 _), (trodAll_cons_mk (shut_float Try.underlying36 w0) trodAll_mk0), rfl, hb.frame _, fun h => by cases h⟩

theorem c1_fnExactNewGain : Try.pinned.checked.prog.funcNamed Rows.fnExactNewGainRow.func = some 8 := by kernel_rfl
theorem c2_fnExactNewGain : joinedFacts Try.pinned.checked.prog 8 Try.f8 Rows.fnExactNewGainSpec Rows.fnExactNewGainRow = true :=
  facts_of _ _ _ _ rfl rfl rfl (by kernel_rfl) (by kernel_rfl) (by kernel_rfl)
theorem c3_fnExactNewGain : Func.isInstance Try.pinned.checked.prog Try.f8 Rows.fnExactNewGainRow.origin Rows.fnExactNewGainRow.targs := of_decide_eq_true (by kernel_rfl)
theorem c4_fnExactNewGain : Func.isWrapper Try.pinned.checked.prog Try.f8 Rows.fnExactNewGainRow.wrapper Rows.fnExactNewGainRow.mainSum := by
  unfold Func.isWrapper; first | (rw [if_pos (by decide +kernel)]; kernel_rfl) | (rw [if_neg (by decide +kernel)]; exact ⟨rfl, rfl⟩)

theorem holds_fnExactNewGain : Rows.FnExactNewGainSaid :=
  OpenClaim.holds_of_wide 8 Try.f8 rfl rfl rfl rfl rfl rfl rfl ⟨rfl, rfl, rfl, rfl, rfl⟩ rfl rfl rfl rfl rfl c1_fnExactNewGain Try.func8 c2_fnExactNewGain c3_fnExactNewGain c4_fnExactNewGain
    (fun os started H enc _ => lifted_fnExactNewGain os started H enc)
end Go.Proofs.Ytocmppilihiehaa

