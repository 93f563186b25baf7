/- For every input the law FnHealed answers true and leaves its arguments as they were. No condition. -/
import Derived.Test.YtkjlodoppmipfaaGreatJg52
import Derived.Test.YtkjlodoppmipfaaGreatJg53
import Derived.ProofKit
import Derived.OpenShut
namespace Go.Proofs.YtkjlodoppmipfaaGreat
open Go.ChangeShapes Go.WideShapes Go.ChangeAt Go.RowKit

set_option maxRecDepth 100000 in
theorem lifted_fnHealed (os : Os) (started : os.Started) (H : Type) (enc : TypeId × Value → H) :
    ReturnsInHanded {} Tryz.checked os 3 .any (Rows.fnHealedSpec.pre6 enc Tryz.prog Tryz.f3 Rows.fnHealedRow.domain false) (Rows.fnHealedSpec.post enc Tryz.prog Tryz.f3 false true false false) := by
  refine returnsInHanded_of_change (C := Tryz.checked) own_all started (by kernel_rfl) Tryz.func3
    (ChangeSpec.witness6 (enc := enc) (C := Tryz.checked) false ⟨#[], #[.slice none 0 0], []⟩ 8 (by kernel_rfl) (by kernel_rfl) (by kernel_rfl) (by kernel_rfl)) ?_
  intro W base args ds gs before hval0 hW hcnd _
  have hval : ∀ (j : Nat) t v, Tryz.f3.params[j]? = some t → args[j]? = some v → Value.okWide Tryz.prog W .any base t v := hval0
  have hW' := hW
  obtain ⟨p, q, hA0, hV, rfl, hfz, hnd⟩ := hW
  have hA : DataW.TrodAll enc Tryz.prog W 0 (fun _ => true) true Tryz.f3.params.toList args.toList ds p := hA0
  rw [Tryz.params3] at hA hval
  obtain ⟨v0, vs0, d0, ds0, p0, q0, hargs, rfl, rfl, h0, r0⟩ := trodAll_cons hA
  obtain ⟨rfl, rfl, rfl⟩ := trodAll_nil r0
  obtain rfl : args = #[v0] := by cases args; simp_all
  obtain ⟨rfl, rfl⟩ := trodVars_none hV
  have h0k := h0
  obtain ⟨A0, n0, c0, rfl, w0⟩ := open_bytes Tryz.underlying22 Tryz.underlying5 cells_u8 (hval 0 22 v0 rfl rfl) h0
  clear hA0 hval0
  simp only [List.append_nil] at hW'
  refine (law_healed A0 n0 c0 W w0).mono fun e W' ⟨he, hb⟩ => ?_
  subst he
  exact ⟨_, rfl, _, _, _, [], _, [], hW', trodAll_mk1 (shut_bool Tryz.underlying4 _), (trodAll_cons_mk (Below.trod k_laid (by kernel_rfl) (of_decide_eq_true (by kernel_rfl)) h0k hb (fun x hx => by simpa using hW'.lt x (by simp [hx]))) trodAll_mk0), rfl, hb.frame _, fun h => by cases h⟩

theorem c1_fnHealed : Tryz.pinned.checked.prog.funcNamed Rows.fnHealedRow.func = some 3 := by kernel_rfl
theorem c2_fnHealed : joinedFacts Tryz.pinned.checked.prog 3 Tryz.f3 Rows.fnHealedSpec Rows.fnHealedRow = true :=
  facts_of _ _ _ _ rfl rfl rfl (by kernel_rfl) (by kernel_rfl) (by kernel_rfl)
theorem c3_fnHealed : Func.isInstance Tryz.pinned.checked.prog Tryz.f3 Rows.fnHealedRow.origin Rows.fnHealedRow.targs := of_decide_eq_true (by kernel_rfl)
theorem c4_fnHealed : Func.isWrapper Tryz.pinned.checked.prog Tryz.f3 Rows.fnHealedRow.wrapper Rows.fnHealedRow.mainSum := by
  unfold Func.isWrapper; first | (rw [if_pos (by decide +kernel)]; kernel_rfl) | (rw [if_neg (by decide +kernel)]; exact ⟨rfl, rfl⟩)

theorem holds_fnHealed : Rows.FnHealedSaid :=
  OpenClaim.holds_of_wide 3 Tryz.f3 rfl rfl rfl rfl rfl rfl rfl ⟨rfl, rfl, rfl, rfl, rfl⟩ rfl rfl rfl rfl rfl c1_fnHealed Tryz.func3 c2_fnHealed c3_fnHealed c4_fnHealed
    (fun os started H enc _ => lifted_fnHealed os started H enc)
end Go.Proofs.YtkjlodoppmipfaaGreat
