/- For every float32 the law FnExactFormatSingle answers true and leaves its argument as it was. The library's tables start as the program's text lays them: the card ties them. -/
import Derived.Test.YthcccliiokckjaaDoorT4
import Derived.Test.YthcccliiokckjaaDoorK
import Derived.Test.YthcccliiokckjaaDoorOpen
import Derived.Test.YthcccliiokckjaaDoorCards
import Derived.Test.YthcccliiokckjaaDoorTie
import Derived.ProofKit
import Derived.OpenShut
import Derived.Deep.DeepHandedRow
import Derived.Lib.LaidTab
import Derived.Stop.LaidErr
namespace Go.Proofs.YthcccliiokckjaaDoor
open Go.ChangeShapes Go.WideShapes Go.ChangeAt Go.RowKit

theorem g64 : Tryd.prog.globalNamed "math/bits.deBruijn64tab" = some 2 := by kernel_rfl
theorem g64t : (Tryd.prog.globals[2]?).map (·.type) = some 94 := by kernel_rfl
theorem gp10t : (Tryd.prog.globals[6]?).map (·.type) = some 109 := by kernel_rfl
theorem c64cells : Tryd.prog.cellsOf 94 = 64 := by kernel_rfl
theorem c20cells : Tryd.prog.cellsOf 109 = 20 := by kernel_rfl
theorem cu8 : Tryd.prog.cellsOf 5 = 1 := by kernel_rfl
theorem cu64 : Tryd.prog.cellsOf 72 = 1 := by kernel_rfl

/-- What a row's list of tables gives. -/
theorem tabs_of {W : World} {r : List (String × DataW Unit)} (h : laidMet Tryd.prog (("math/bits.deBruijn32tab", Rows.laid_math_bits_deBruijn32tab) :: ("math/bits.deBruijn64tab", Rows.laid_math_bits_deBruijn64tab) :: ("internal/strconv.uint64pow10", Rows.laid_internal_strconv_uint64pow10) :: r) W) : Tabs W := by
  have t1 : Lib.TabIs Tryd.prog W "math/bits.deBruijn64tab" .u8 (Lib.deBruijn64tab.map Int.ofNat) := Lib.tabIs_of_head g64 g64t Tryd.underlying94 Tryd.underlying5 cu8 c64cells h.tail
  have t2 : Lib.TabIs Tryd.prog W "internal/strconv.uint64pow10" .u64 Lib.pow10Tab := Lib.tabIs_of_head pow10_global gp10t Tryd.underlying109 Tryd.underlying72 cu64 c20cells h.tail.tail
  have c6 := t2.cell pow10_global 0 (by decide)
  refine ⟨fun j hj => ?_, t2, World.block_lt_of_cell? W _ c6⟩
  have := t1.cell g64 j (by rw [List.length_map]; exact hj)
  rw [this]
  congr 2
  have hl : j < 64 := hj
  rw [List.getD_eq_getElem?_getD, List.getD_eq_getElem?_getD, List.getElem?_map]
  cases hh : Lib.deBruijn64tab[j]? with
  | none => rfl
  | some a => rfl

set_option maxRecDepth 100000 in
/-- What the walk gives, for every argument and every world that holds the tables. -/
theorem contract_fnExactFormatSingle (H : Type) (enc : TypeId × Value → H) (W : World) (base : Nat) (args : Array Value) (ds gs : List (DataW H)) (before : List MemPlace)
    (hval : ∀ (j : Nat) t v, Tryd.f4.params[j]? = some t → args[j]? = some v → Value.okWide Tryd.prog W .any base t v)
    (hW : DataW.Whole enc Tryd.prog Tryd.f4.params.toList Rows.fnExactFormatSingleSpec.vars false W args.toList ds gs before) (hT : Tabs W) :
    Calls Tryd.prog 4 args W fun e W' => ∃ v, e = .returned v ∧ Rows.fnExactFormatSingleSpec.post enc Tryd.prog Tryd.f4 false true false false W args v W' := by
  have hW' := hW
  obtain ⟨p, q, hA0, hV, rfl, hfz, hnd⟩ := hW
  have hA : DataW.TrodAll enc Tryd.prog W 0 (fun _ => true) true Tryd.f4.params.toList args.toList ds p := hA0
  rw [Tryd.params4] at hA hval
  obtain ⟨v0, vs0, d0, ds0, p0, q0, hargs, rfl, rfl, h0, r0⟩ := trodAll_cons hA
  obtain ⟨rfl, rfl, rfl⟩ := trodAll_nil r0
  obtain rfl : args = #[v0] := by cases args; simp_all
  obtain ⟨rfl, rfl⟩ := trodVars_none hV
  obtain ⟨a0, rfl, rfl, rfl, w0⟩ := open_float Tryd.underlying23 (hval 0 23 v0 rfl rfl) h0
  clear hA0
  simp only [List.append_nil] at hW'
  refine (law_formatSingle a0 (f32_lt w0) W hT).mono fun e W' ⟨he, hb⟩ => ?_
  subst he
  exact ⟨_, rfl, _, _, _, [], _, [], hW', trodAll_mk1 (shut_bool Tryd.underlying4 _), (trodAll_cons_mk (shut_float Tryd.underlying23 w0) trodAll_mk0), rfl, hb.frame _, fun h => by cases h⟩

def tabCells (k : IntKind) (zs : List Int) : Array Value := (zs.map fun z => Value.int k z).toArray
def cellsSet (cs : Array Value) : Obj → Obj
  | .cells _ t frozen => .cells cs t frozen
  | o => o
/-- A world for the witness: the settled one, the tables holding what their initialisers lay. -/
noncomputable def laidWorld3 (os : Os) : World :=
  { World.holding Tryd.prog os ⟨#[], #[], []⟩ with heap := (((World.holding Tryd.prog os ⟨#[], #[], []⟩).heap.modify 1 (cellsSet (tabCells .u8 (Lib.deBruijn32tab.map Int.ofNat)))).modify 2 (cellsSet (tabCells .u8 (Lib.deBruijn64tab.map Int.ofNat)))).modify 6 (cellsSet (tabCells .u64 Lib.pow10Tab)) }
theorem laid_met3 (os : Os) (args : Array Value) : laidMet Tryd.prog Rows.fnExactFormatSingleRow.laid ((laidWorld3 os).forCall (fun _ _ => 0) ⟨#[], args, []⟩).memory :=
  laidMet_of_run' 8 (by kernel_rfl) (by kernel_rfl)
theorem reads_fnExactFormatSingle (os : Os) {H : Type} (enc : TypeId × Value → H) : ∃ places, DataW.whole enc Tryd.prog ((laidWorld3 os).forCall (fun _ _ => 0) ⟨#[], #[.float .f32 0], []⟩).memory Tryd.f4.params.toList Rows.fnExactFormatSingleSpec.vars false #[Value.float .f32 0].toList 8 = some ([.lit (.float .f32 0)], [], places) :=
  ⟨[], by kernel_rfl⟩

set_option maxRecDepth 100000 in
theorem lifted_fnExactFormatSingle (os : Os) (started : os.Started) (H : Type) (enc : TypeId × Value → H) (F : Stop.Interp) :
    ReturnsInHanded {} Tryd.checked os 4 .any ((OpenSpec.ofChange Rows.fnExactFormatSingleSpec).preRow enc Tryd.prog Tryd.f4 Rows.fnExactFormatSingleRow.domain false Rows.fnExactFormatSingleRow.laid) (((OpenSpec.ofChange Rows.fnExactFormatSingleSpec).at F).post enc Tryd.prog Tryd.f4 false true false false) := by
  obtain ⟨places, hx⟩ := reads_fnExactFormatSingle os enc
  refine returnsInHanded_of_row (C := Tryd.checked) (s := OpenSpec.ofChange Rows.fnExactFormatSingleSpec) own_all started (by kernel_rfl) Tryd.func4
    (witness_row_at (enc := enc) (C := Tryd.checked) false (laidWorld3 os) #[.float .f32 0] rfl (by kernel_rfl) (by kernel_rfl) (by kernel_rfl)
      (OpenSpec.preRow_of_cond 8 hx (by kernel_rfl) (fun k hk => by cases hk) (by kernel_rfl) (laid_met3 os _))) ?_
  intro W base args ds gs before hval hW _ _ _ hL _ _
  exact contract_fnExactFormatSingle H enc W base args ds gs before hval hW (tabs_of hL)

theorem c2_fnExactFormatSingle : joinedFacts Tryd.pinned.checked.prog 4 Tryd.f4 Rows.fnExactFormatSingleSpec Rows.fnExactFormatSingleRow = true :=
  facts_of _ _ _ _ rfl rfl rfl (by kernel_rfl) (by kernel_rfl) (by kernel_rfl)

theorem said_fnExactFormatSingle : Rows.FnExactFormatSingleSaid :=
  OpenClaim.holds_of_cond 4 Tryd.f4 rfl rfl rfl rfl rfl rfl rfl ⟨rfl, rfl, rfl, rfl, rfl⟩ rfl rfl rfl rfl rfl (by kernel_rfl) Tryd.func4 c2_fnExactFormatSingle
    (of_decide_eq_true (by kernel_rfl)) (by unfold Func.isWrapper; first | (rw [if_pos (by decide +kernel)]; kernel_rfl) | (rw [if_neg (by decide +kernel)]; exact ⟨rfl, rfl⟩))
    (fun os started H enc _ F => by rw [OpenClaim.pre_eq_preRow]; exact lifted_fnExactFormatSingle os started H enc F)

theorem plain_fnExactFormatSingle (f : FuncId) (fn : Func) (hf : Tryd.pinned.checked.prog.funcNamed "loop.example/g03223/laws.FnExactFormatSingle" = some f) (hfn : Tryd.pinned.checked.prog.funcs[f]? = some fn) :
    true = Tryd.pinned.checked.prog.looks [] ∧ ∀ (j : Nat) t, fn.params[j]? = some t → Tryd.pinned.checked.prog.wantsStandIn t = false := by
  obtain rfl : f = 4 := Option.some.inj ((show Tryd.prog.funcNamed "loop.example/g03223/laws.FnExactFormatSingle" = some 4 by kernel_rfl).symm.trans hf) |>.symm
  obtain rfl : fn = Tryd.f4 := (Option.some.inj (Tryd.func4.symm.trans hfn)).symm
  refine ⟨by kernel_rfl, fun j t ht => ?_⟩
  rw [Tryd.params4] at ht
  obtain rfl : t = 23 := by simpa using Array.mem_of_getElem? ht
  exact (show Tryd.prog.wantsStandIn 23 = false by kernel_rfl)

theorem holds_fnExactFormatSingle : Rows.FnExactFormatSingleCardSaid :=
  Claim7.holds_tied_plain_at .later [] _ _ _ _ said_fnExactFormatSingle (fun _ h => by cases h) (by kernel_rfl) (fun _ h => by cases h) fnExactFormatSingle_row_tie rfl ⟨rfl, rfl⟩ (by kernel_rfl) rfl plain_fnExactFormatSingle (by kernel_rfl)
end Go.Proofs.YthcccliiokckjaaDoor
