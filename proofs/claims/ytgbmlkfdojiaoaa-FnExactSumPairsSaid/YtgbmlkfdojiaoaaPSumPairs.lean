/- For every input the law FnExactSumPairs answers true and leaves its arguments as they were. No condition. -/
import Derived.Test.YtgbmlkfdojiaoaaS6
import Derived.Test.YtgbmlkfdojiaoaaK
import Derived.Test.YtgbmlkfdojiaoaaOpen
import Derived.ProofKit
import Derived.OpenShut
namespace Go.Proofs.Ytgbmlkfdojiaoaa
open Go.ChangeShapes Go.WideShapes Go.ChangeAt Go.RowKit

set_option maxRecDepth 100000 in
theorem lifted_fnExactSumPairs (os : Os) (started : os.Started) (H : Type) (enc : TypeId × Value → H) :
    ReturnsInHanded {} Try.checked os 17 .any (Rows.fnExactSumPairsSpec.pre6 enc Try.prog Try.f17 Rows.fnExactSumPairsRow.domain false) (Rows.fnExactSumPairsSpec.post enc Try.prog Try.f17 false true false false) := by
  refine returnsInHanded_of_change (C := Try.checked) own_all started (by kernel_rfl) Try.func17
    (ChangeSpec.witness6 (enc := enc) (C := Try.checked) false ⟨#[], #[.slice none 0 0], []⟩ 8 (by kernel_rfl) (by kernel_rfl) (by kernel_rfl) (by kernel_rfl)) ?_
  intro W base args ds gs before hval0 hW hcnd _
  have hval : ∀ (j : Nat) t v, Try.f17.params[j]? = some t → args[j]? = some v → Value.okWide Try.prog W .any base t v := hval0
  have hW' := hW
  obtain ⟨p, q, hA0, hV, rfl, hfz, hnd⟩ := hW
  have hA : DataW.TrodAll enc Try.prog W 0 (fun _ => true) true Try.f17.params.toList args.toList ds p := hA0
  rw [Try.params17] at hA hval
  obtain ⟨v0, vs0, d0, ds0, p0, q0, hargs, rfl, rfl, h0, r0⟩ := trodAll_cons hA
  obtain ⟨rfl, rfl, rfl⟩ := trodAll_nil r0
  obtain rfl : args = #[v0] := by cases args; simp_all
  obtain ⟨rfl, rfl⟩ := trodVars_none hV
  obtain ⟨a0, w0⟩ := open_f32s Try.underlying30 Try.underlying23 cells_f32 (hval 0 30 v0 rfl rfl) h0
  clear hA0 hval0
  simp only [List.append_nil] at hW'
  refine (law_sumPairs a0 v0 W w0).mono fun e W' ⟨he, hb⟩ => ?_
  subst he
  exact ⟨_, rfl, _, _, _, [], _, [], hW', trodAll_mk1 (shut_bool Try.underlying4 _), (trodAll_cons_mk (Below.trod k_laid (by kernel_rfl) (of_decide_eq_true (by kernel_rfl)) h0 hb (fun x hx => by simpa using hW'.lt x (by simp [hx]))) trodAll_mk0), rfl, hb.frame _, fun h => by cases h⟩

theorem c1_fnExactSumPairs : Try.pinned.checked.prog.funcNamed Rows.fnExactSumPairsRow.func = some 17 := by kernel_rfl
theorem c2_fnExactSumPairs : joinedFacts Try.pinned.checked.prog 17 Try.f17 Rows.fnExactSumPairsSpec Rows.fnExactSumPairsRow = true :=
  facts_of _ _ _ _ rfl rfl rfl (by kernel_rfl) (by kernel_rfl) (by kernel_rfl)
theorem c3_fnExactSumPairs : Func.isInstance Try.pinned.checked.prog Try.f17 Rows.fnExactSumPairsRow.origin Rows.fnExactSumPairsRow.targs := of_decide_eq_true (by kernel_rfl)
theorem c4_fnExactSumPairs : Func.isWrapper Try.pinned.checked.prog Try.f17 Rows.fnExactSumPairsRow.wrapper Rows.fnExactSumPairsRow.mainSum := by
  unfold Func.isWrapper; first | (rw [if_pos (by decide +kernel)]; kernel_rfl) | (rw [if_neg (by decide +kernel)]; exact ⟨rfl, rfl⟩)

theorem holds_fnExactSumPairs : Rows.FnExactSumPairsSaid :=
  OpenClaim.holds_of_wide 17 Try.f17 rfl rfl rfl rfl rfl rfl rfl ⟨rfl, rfl, rfl, rfl, rfl⟩ rfl rfl rfl rfl rfl c1_fnExactSumPairs Try.func17 c2_fnExactSumPairs c3_fnExactSumPairs c4_fnExactSumPairs
    (fun os started H enc _ => lifted_fnExactSumPairs os started H enc)
end Go.Proofs.Ytgbmlkfdojiaoaa

