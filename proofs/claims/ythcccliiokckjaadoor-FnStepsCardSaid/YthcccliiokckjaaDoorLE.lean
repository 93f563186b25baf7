/- The library's variables, as a row lists them. -/
import Derived.Test.YthcccliiokckjaaDoorT7
import Derived.Test.YthcccliiokckjaaDoorK
import Derived.Test.YthcccliiokckjaaDoorOpen
import Derived.Test.YthcccliiokckjaaDoorCards
import Derived.Test.YthcccliiokckjaaDoorTie
import Derived.ProofKit
import Derived.OpenShut
import Derived.Deep.DeepHandedRow
import Derived.Lib.LaidTab
import Derived.Stop.LaidErr
namespace Go.Proofs.YthcccliiokckjaaDoor
open Go.ChangeShapes Go.WideShapes Go.ChangeAt Go.RowKit

theorem g64 : Tryd.prog.globalNamed "math/bits.deBruijn64tab" = some 2 := by kernel_rfl
theorem g64t : (Tryd.prog.globals[2]?).map (·.type) = some 94 := by kernel_rfl
theorem gp10t : (Tryd.prog.globals[6]?).map (·.type) = some 109 := by kernel_rfl
theorem c64cells : Tryd.prog.cellsOf 94 = 64 := by kernel_rfl
theorem c20cells : Tryd.prog.cellsOf 109 = 20 := by kernel_rfl
theorem cu8 : Tryd.prog.cellsOf 5 = 1 := by kernel_rfl
theorem cu64 : Tryd.prog.cellsOf 72 = 1 := by kernel_rfl

/-- What a row's list of tables gives. -/
theorem tabs_of {W : World} {r : List (String × DataW Unit)} (h : laidMet Tryd.prog (("math/bits.deBruijn32tab", Rows.laid_math_bits_deBruijn32tab) :: ("math/bits.deBruijn64tab", Rows.laid_math_bits_deBruijn64tab) :: ("internal/strconv.uint64pow10", Rows.laid_internal_strconv_uint64pow10) :: r) W) : Tabs W := by
  have t1 : Lib.TabIs Tryd.prog W "math/bits.deBruijn64tab" .u8 (Lib.deBruijn64tab.map Int.ofNat) := Lib.tabIs_of_head g64 g64t Tryd.underlying94 Tryd.underlying5 cu8 c64cells h.tail
  have t2 : Lib.TabIs Tryd.prog W "internal/strconv.uint64pow10" .u64 Lib.pow10Tab := Lib.tabIs_of_head pow10_global gp10t Tryd.underlying109 Tryd.underlying72 cu64 c20cells h.tail.tail
  have c6 := t2.cell pow10_global 0 (by decide)
  refine ⟨fun j hj => ?_, t2, World.block_lt_of_cell? W _ c6⟩
  have := t1.cell g64 j (by rw [List.length_map]; exact hj)
  rw [this]
  congr 2
  have hl : j < 64 := hj
  rw [List.getD_eq_getElem?_getD, List.getD_eq_getElem?_getD, List.getElem?_map]
  cases hh : Lib.deBruijn64tab[j]? with
  | none => rfl
  | some a => rfl

theorem gSynT : (Tryd.prog.globals[4]?).map (·.type) = some 66 := by kernel_rfl
theorem gRanT : (Tryd.prog.globals[5]?).map (·.type) = some 66 := by kernel_rfl
theorem cErrS : Tryd.prog.cellsOf 118 = 1 := by kernel_rfl
theorem cStr : Tryd.prog.cellsOf 9 = 1 := by kernel_rfl
theorem starErr : "*" ++ "errors.errorString" = "*errors.errorString" := by decide
theorem rowErr (u : TypeId) (h : Tryd.prog.typeName? 3 u = some "*errors.errorString") : u = 116 :=
  typeName_ptr_named (nm := "errors.errorString") (by rw [starErr]; kernel_rfl) (by kernel_rfl) (by decide) u (by rw [starErr]; exact h)

theorem env_of {W : World} (h : laidMet Tryd.prog [("math/bits.deBruijn32tab", Rows.laid_math_bits_deBruijn32tab), ("math/bits.deBruijn64tab", Rows.laid_math_bits_deBruijn64tab), ("internal/strconv.uint64pow10", Rows.laid_internal_strconv_uint64pow10), ("strconv.ErrRange", Rows.laid_strconv_ErrRange), ("strconv.ErrSyntax", Rows.laid_strconv_ErrSyntax)] W) (hs : W.ShapedOpen Tryd.prog) : Env W := by
  obtain ⟨a0, s0, hv0, -, -, -⟩ := laid_sentinel h.tail.tail.tail errRange_global gRanT Tryd.underlying66 rowErr Tryd.underlying116 Tryd.underlying118 rfl rfl Tryd.underlying9 cErrS cStr
  obtain ⟨a1, s1, hv1, -, -, -⟩ := laid_sentinel h.tail.tail.tail.tail errSyntax_global gSynT Tryd.underlying66 rowErr Tryd.underlying116 Tryd.underlying118 rfl rfl Tryd.underlying9 cErrS cStr
  exact ⟨tabs_of h, Go.Proofs.cell_of_shapedOpen_int (zero := #[.int .i64 0]) (t := 3) hs (of_decide_eq_true (by kernel_rfl)) (by kernel_rfl) rfl (by kernel_rfl) (by kernel_rfl) Tryd.underlying3, ⟨_, _, hv1⟩, ⟨_, _, hv0⟩⟩

def tabCells (k : IntKind) (zs : List Int) : Array Value := (zs.map fun z => Value.int k z).toArray
def cellsSet (cs : Array Value) : Obj → Obj
  | .cells _ t frozen => .cells cs t frozen
  | o => o
noncomputable def lowBlock : Nat := (World.holding Tryd.prog default ⟨#[], #[], []⟩).heap.size
/-- A world for the witness: the settled one, the variables holding what their initialisers lay. -/
noncomputable def laidWorld5 (os : Os) : World :=
  let w0 := World.holding Tryd.prog os ⟨#[.cells #[.string ⟨#[118, 97, 108, 117, 101, 32, 111, 117, 116, 32, 111, 102, 32, 114, 97, 110, 103, 101]⟩] 118, .cells #[.string ⟨#[105, 110, 118, 97, 108, 105, 100, 32, 115, 121, 110, 116, 97, 120]⟩] 118], #[], []⟩
  { w0 with heap := ((((w0.heap.modify 1 (cellsSet (tabCells .u8 (Lib.deBruijn32tab.map Int.ofNat)))).modify 2 (cellsSet (tabCells .u8 (Lib.deBruijn64tab.map Int.ofNat)))).modify 6 (cellsSet (tabCells .u64 Lib.pow10Tab))).modify 5 (cellsSet #[.iface 116 (.pointer (some ⟨lowBlock, 0, none⟩))])).modify 4 (cellsSet #[.iface 116 (.pointer (some ⟨lowBlock + 1, 0, none⟩))]) }
end Go.Proofs.YthcccliiokckjaaDoor
