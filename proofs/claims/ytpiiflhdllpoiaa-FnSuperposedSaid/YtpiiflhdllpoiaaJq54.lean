/- For every input the law FnSuperposed answers true and leaves its arguments as they were. No condition. -/
import Derived.Test.YtpiiflhdllpoiaaJq52
import Derived.Test.YtpiiflhdllpoiaaJq53
import Derived.ProofKit
import Derived.OpenShut
namespace Go.Proofs.Ytpiiflhdllpoiaa
open Go.ChangeShapes Go.WideShapes Go.ChangeAt Go.RowKit

set_option maxRecDepth 100000 in
theorem lifted_fnSuperposed (os : Os) (started : os.Started) (H : Type) (enc : TypeId × Value → H) :
    ReturnsInHanded {} Try.checked os 5 .any (Rows.fnSuperposedSpec.pre6 enc Try.prog Try.f5 Rows.fnSuperposedRow.domain false) (Rows.fnSuperposedSpec.post enc Try.prog Try.f5 false true false false) := by
  refine returnsInHanded_of_change (C := Try.checked) own_all started (by kernel_rfl) Try.func5
    (ChangeSpec.witness6 (enc := enc) (C := Try.checked) false ⟨#[], #[.slice none 0 0], []⟩ 8 (by kernel_rfl) (by kernel_rfl) (by kernel_rfl) (by kernel_rfl)) ?_
  intro W base args ds gs before hval0 hW hcnd _
  have hval : ∀ (j : Nat) t v, Try.f5.params[j]? = some t → args[j]? = some v → Value.okWide Try.prog W .any base t v := hval0
  have hW' := hW
  obtain ⟨p, q, hA0, hV, rfl, hfz, hnd⟩ := hW
  have hA : DataW.TrodAll enc Try.prog W 0 (fun _ => true) true Try.f5.params.toList args.toList ds p := hA0
  rw [Try.params5] at hA hval
  obtain ⟨v0, vs0, d0, ds0, p0, q0, hargs, rfl, rfl, h0, r0⟩ := trodAll_cons hA
  obtain ⟨rfl, rfl, rfl⟩ := trodAll_nil r0
  obtain rfl : args = #[v0] := by cases args; simp_all
  obtain ⟨rfl, rfl⟩ := trodVars_none hV
  have h0k := h0
  obtain ⟨A0, n0, c0, rfl, w0⟩ := open_bytes Try.underlying22 Try.underlying5 cells_u8 (hval 0 22 v0 rfl rfl) h0
  clear hA0 hval0
  simp only [List.append_nil] at hW'
  refine (law_superposed A0 n0 c0 W w0).mono fun e W' ⟨he, hb⟩ => ?_
  subst he
  exact ⟨_, rfl, _, _, _, [], _, [], hW', trodAll_mk1 (shut_bool Try.underlying4 _), (trodAll_cons_mk (Below.trod k_laid (by kernel_rfl) (of_decide_eq_true (by kernel_rfl)) h0k hb (fun x hx => by simpa using hW'.lt x (by simp [hx]))) trodAll_mk0), rfl, hb.frame _, fun h => by cases h⟩

theorem c1_fnSuperposed : Try.pinned.checked.prog.funcNamed Rows.fnSuperposedRow.func = some 5 := by kernel_rfl
theorem c2_fnSuperposed : joinedFacts Try.pinned.checked.prog 5 Try.f5 Rows.fnSuperposedSpec Rows.fnSuperposedRow = true :=
  facts_of _ _ _ _ rfl rfl rfl (by kernel_rfl) (by kernel_rfl) (by kernel_rfl)
theorem c3_fnSuperposed : Func.isInstance Try.pinned.checked.prog Try.f5 Rows.fnSuperposedRow.origin Rows.fnSuperposedRow.targs := of_decide_eq_true (by kernel_rfl)
theorem c4_fnSuperposed : Func.isWrapper Try.pinned.checked.prog Try.f5 Rows.fnSuperposedRow.wrapper Rows.fnSuperposedRow.mainSum := by
  unfold Func.isWrapper; first | (rw [if_pos (by decide +kernel)]; kernel_rfl) | (rw [if_neg (by decide +kernel)]; exact ⟨rfl, rfl⟩)

theorem holds_fnSuperposed : Rows.FnSuperposedSaid :=
  OpenClaim.holds_of_wide 5 Try.f5 rfl rfl rfl rfl rfl rfl rfl ⟨rfl, rfl, rfl, rfl, rfl⟩ rfl rfl rfl rfl rfl c1_fnSuperposed Try.func5 c2_fnSuperposed c3_fnSuperposed c4_fnSuperposed
    (fun os started H enc _ => lifted_fnSuperposed os started H enc)
end Go.Proofs.Ytpiiflhdllpoiaa
