/- For every input the law FnExactNewHold answers true and leaves its arguments as they were. No condition. -/
import Derived.Test.YtocmppilihiehaaL6
import Derived.Test.YtocmppilihiehaaK
import Derived.Test.YtocmppilihiehaaOpen
import Derived.ProofKit
import Derived.OpenShut
namespace Go.Proofs.Ytocmppilihiehaa
open Go.ChangeShapes Go.WideShapes Go.ChangeAt Go.RowKit

set_option maxRecDepth 100000 in
theorem lifted_fnExactNewHold (os : Os) (started : os.Started) (H : Type) (enc : TypeId × Value → H) :
    ReturnsInHanded {} Try.checked os 12 .any (Rows.fnExactNewHoldSpec.pre6 enc Try.prog Try.f12 Rows.fnExactNewHoldRow.domain false) (Rows.fnExactNewHoldSpec.post enc Try.prog Try.f12 false true false false) := by
  refine returnsInHanded_of_change (C := Try.checked) own_all started (by kernel_rfl) Try.func12
    (ChangeSpec.witness6 (enc := enc) (C := Try.checked) false ⟨#[], #[.int .i64 0], []⟩ 8 (by kernel_rfl) (by kernel_rfl) (by kernel_rfl) (by kernel_rfl)) ?_
  intro W base args ds gs before hval0 hW hcnd _
  have hval : ∀ (j : Nat) t v, Try.f12.params[j]? = some t → args[j]? = some v → Value.okWide Try.prog W .any base t v := hval0
  have hW' := hW
  obtain ⟨p, q, hA0, hV, rfl, hfz, hnd⟩ := hW
  have hA : DataW.TrodAll enc Try.prog W 0 (fun _ => true) true Try.f12.params.toList args.toList ds p := hA0
  rw [Try.params12] at hA hval
  obtain ⟨v0, vs0, d0, ds0, p0, q0, hargs, rfl, rfl, h0, r0⟩ := trodAll_cons hA
  obtain ⟨rfl, rfl, rfl⟩ := trodAll_nil r0
  obtain rfl : args = #[v0] := by cases args; simp_all
  obtain ⟨rfl, rfl⟩ := trodVars_none hV
  obtain ⟨a0, rfl, rfl, rfl, w0⟩ := open_int Try.underlying3 (hval 0 3 v0 rfl rfl) h0
  clear hA0 hval0
  simp only [List.append_nil] at hW'
  refine (law_newHold a0 (i64_low w0) (i64_high w0) W).mono fun e W' ⟨he, hb⟩ => ?_
  subst he
  exact ⟨_, rfl, _, _, _, [], _, [], hW', trodAll_mk1 (shut_bool Try.underlying4 _), (trodAll_cons_mk (shut_int Try.underlying3 w0) trodAll_mk0), rfl, hb.frame _, fun h => by cases h⟩

theorem c1_fnExactNewHold : Try.pinned.checked.prog.funcNamed Rows.fnExactNewHoldRow.func = some 12 := by kernel_rfl
theorem c2_fnExactNewHold : joinedFacts Try.pinned.checked.prog 12 Try.f12 Rows.fnExactNewHoldSpec Rows.fnExactNewHoldRow = true :=
  facts_of _ _ _ _ rfl rfl rfl (by kernel_rfl) (by kernel_rfl) (by kernel_rfl)
theorem c3_fnExactNewHold : Func.isInstance Try.pinned.checked.prog Try.f12 Rows.fnExactNewHoldRow.origin Rows.fnExactNewHoldRow.targs := of_decide_eq_true (by kernel_rfl)
theorem c4_fnExactNewHold : Func.isWrapper Try.pinned.checked.prog Try.f12 Rows.fnExactNewHoldRow.wrapper Rows.fnExactNewHoldRow.mainSum := by
  unfold Func.isWrapper; first | (rw [if_pos (by decide +kernel)]; kernel_rfl) | (rw [if_neg (by decide +kernel)]; exact ⟨rfl, rfl⟩)

theorem holds_fnExactNewHold : Rows.FnExactNewHoldSaid :=
  OpenClaim.holds_of_wide 12 Try.f12 rfl rfl rfl rfl rfl rfl rfl ⟨rfl, rfl, rfl, rfl, rfl⟩ rfl rfl rfl rfl rfl c1_fnExactNewHold Try.func12 c2_fnExactNewHold c3_fnExactNewHold c4_fnExactNewHold
    (fun os started H enc _ => lifted_fnExactNewHold os started H enc)
end Go.Proofs.Ytocmppilihiehaa

