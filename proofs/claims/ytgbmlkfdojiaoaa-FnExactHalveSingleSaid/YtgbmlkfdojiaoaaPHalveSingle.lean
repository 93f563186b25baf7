/- For every input the law FnExactHalveSingle answers true and leaves its arguments as they were. No condition. -/
import Derived.Test.YtgbmlkfdojiaoaaA2
import Derived.Test.YtgbmlkfdojiaoaaK
import Derived.ProofKit
import Derived.OpenShut
namespace Go.Proofs.Ytgbmlkfdojiaoaa
open Go.ChangeShapes Go.WideShapes Go.ChangeAt Go.RowKit

set_option maxRecDepth 100000 in
theorem lifted_fnExactHalveSingle (os : Os) (started : os.Started) (H : Type) (enc : TypeId × Value → H) :
    ReturnsInHanded {} Try.checked os 13 .any (Rows.fnExactHalveSingleSpec.pre6 enc Try.prog Try.f13 Rows.fnExactHalveSingleRow.domain false) (Rows.fnExactHalveSingleSpec.post enc Try.prog Try.f13 false true false false) := by
  refine returnsInHanded_of_change (C := Try.checked) own_all started (by kernel_rfl) Try.func13
    (ChangeSpec.witness6 (enc := enc) (C := Try.checked) false ⟨#[], #[.float .f32 0, .int .i64 0], []⟩ 8 (by kernel_rfl) (by kernel_rfl) (by kernel_rfl) (by kernel_rfl)) ?_
  intro W base args ds gs before hval0 hW hcnd _
  have hval : ∀ (j : Nat) t v, Try.f13.params[j]? = some t → args[j]? = some v → Value.okWide Try.prog W .any base t v := hval0
  have hW' := hW
  obtain ⟨p, q, hA0, hV, rfl, hfz, hnd⟩ := hW
  have hA : DataW.TrodAll enc Try.prog W 0 (fun _ => true) true Try.f13.params.toList args.toList ds p := hA0
  rw [Try.params13] at hA hval
  obtain ⟨v0, vs0, d0, ds0, p0, q0, hargs, rfl, rfl, h0, r0⟩ := trodAll_cons hA
  obtain ⟨v1, vs1, d1, ds1, p1, q1, rfl, rfl, rfl, h1, r1⟩ := trodAll_cons r0
  obtain ⟨rfl, rfl, rfl⟩ := trodAll_nil r1
  obtain rfl : args = #[v0, v1] := by cases args; simp_all
  obtain ⟨rfl, rfl⟩ := trodVars_none hV
  obtain ⟨a0, rfl, rfl, rfl, w0⟩ := open_float Try.underlying23 (hval 0 23 v0 rfl rfl) h0
  obtain ⟨a1, rfl, rfl, rfl, w1⟩ := open_int Try.underlying3 (hval 1 3 v1 rfl rfl) h1
  clear hA0 hval0
  simp only [List.append_nil] at hW'
  refine (law_halveSingle a0 a1 (i64_low w1) (i64_high w1) W).mono fun e W' ⟨he, hb⟩ => ?_
  subst he
  exact ⟨_, rfl, _, _, _, [], _, [], hW', trodAll_mk1 (shut_bool Try.underlying4 _), (trodAll_cons_mk (shut_float Try.underlying23 w0) (trodAll_cons_mk (shut_int Try.underlying3 w1) trodAll_mk0)), rfl, hb.frame _, fun h => by cases h⟩

theorem c1_fnExactHalveSingle : Try.pinned.checked.prog.funcNamed Rows.fnExactHalveSingleRow.func = some 13 := by kernel_rfl
theorem c2_fnExactHalveSingle : joinedFacts Try.pinned.checked.prog 13 Try.f13 Rows.fnExactHalveSingleSpec Rows.fnExactHalveSingleRow = true :=
  facts_of _ _ _ _ rfl rfl rfl (by kernel_rfl) (by kernel_rfl) (by kernel_rfl)
theorem c3_fnExactHalveSingle : Func.isInstance Try.pinned.checked.prog Try.f13 Rows.fnExactHalveSingleRow.origin Rows.fnExactHalveSingleRow.targs := of_decide_eq_true (by kernel_rfl)
theorem c4_fnExactHalveSingle : Func.isWrapper Try.pinned.checked.prog Try.f13 Rows.fnExactHalveSingleRow.wrapper Rows.fnExactHalveSingleRow.mainSum := by
  unfold Func.isWrapper; first | (rw [if_pos (by decide +kernel)]; kernel_rfl) | (rw [if_neg (by decide +kernel)]; exact ⟨rfl, rfl⟩)

theorem holds_fnExactHalveSingle : Rows.FnExactHalveSingleSaid :=
  OpenClaim.holds_of_wide 13 Try.f13 rfl rfl rfl rfl rfl rfl rfl ⟨rfl, rfl, rfl, rfl, rfl⟩ rfl rfl rfl rfl rfl c1_fnExactHalveSingle Try.func13 c2_fnExactHalveSingle c3_fnExactHalveSingle c4_fnExactHalveSingle
    (fun os started H enc _ => lifted_fnExactHalveSingle os started H enc)
end Go.Proofs.Ytgbmlkfdojiaoaa

