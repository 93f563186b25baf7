/-
  No cell of these rows narrows 'for every input' (looked for: loops, veiled, ifaces, maps, wideKeys, modest, calm, conditions, laid).
  DERIVED. THE GIVEN ROWS OF THIS SEAT. 6 by the template 'for every input the law returns true; each argument reads behind the call as it read before'; 0 by the template 'total and deterministic' (their statements: YtmdmfkdmgmcbpaaTotals.lean).
  GIVEN WITH THE SEED: the statements are not yours to turn. If you find one false, say at which input.
  Laid BY PROGRAM, IN A SANDBOX (cutbox-rows.mjs): the forced cells as the released guide's own fill.sh prints them over the translation a3ef70c7116fe92b… (all of the seat's roots in one cut). By AI agents, Wed Nov 11 2026. No macro, syntax, notation, axiom, sorry.
-/
import Derived.Test.YtmdmfkdmgmcbpaaChecked
import GoSem.Claim
import GoSem.ClaimJoined
import GoSem.ClaimMapViews
import Derived.JoinedTies
import Derived.KernelRfl
namespace Go.Proofs.Ytmdmfkdmgmcbpaa
/- THE CELL 'sum', in the pinned program and in every row, IS THE sha256 OF THE DUMP (.gsa) THAT YtmdmfkdmgmcbpaaProg.lean LOADS. Nothing in Lean hashes anything: it is a label: what it is worth is what the hold of that sum in a sandbox is worth. -/
noncomputable def Try.pinned : Pinned := { name := "ytmdmfkdmgmcbpaa", sum := "a3ef70c7116fe92b06684d94f877e52db77f9dbf1f681bcc8f9e5ad1e11b7be7", checked := Try.checked }
namespace Rows
def none {H : Type} : Left H := { results := [], args := [] }

/-- 'laws.FnSums': WHATEVER THE INPUT: true; the input reads as it did. -/
def fnSumsSpec : ChangeSpec := { name := "fnSums", fn := fun _ => fun
  | [d] => { results := [.lit (.bool true)], args := [d] }
  | _ => none }
def fnSumsRow : OpenClaim := { program := "ytmdmfkdmgmcbpaa", sum := "a3ef70c7116fe92b06684d94f877e52db77f9dbf1f681bcc8f9e5ad1e11b7be7", func := "loop.example/g03223/laws.FnSums", spec := "fnSums", recurses := true, apart := false }
def FnSumsSaid : Prop := fnSumsRow.holds Try.pinned (OpenSpec.ofChange fnSumsSpec)

/-- ITS FALSE NEIGHBOUR: 'it returns false'. Refute it at one input. -/
def fnSumsWrong : ChangeSpec := { name := "fnSums", fn := fun _ => fun
  | [d] => { results := [.lit (.bool false)], args := [d] }
  | _ => none }
def FnSumsWrongFalsely : Prop := fnSumsRow.holds Try.pinned (OpenSpec.ofChange fnSumsWrong)

/-- 'laws.FnSummed': WHATEVER THE INPUT: true; the input reads as it did. -/
def fnSummedSpec : ChangeSpec := { name := "fnSummed", fn := fun _ => fun
  | [d] => { results := [.lit (.bool true)], args := [d] }
  | _ => none }
def fnSummedRow : OpenClaim := { program := "ytmdmfkdmgmcbpaa", sum := "a3ef70c7116fe92b06684d94f877e52db77f9dbf1f681bcc8f9e5ad1e11b7be7", func := "loop.example/g03223/laws.FnSummed", spec := "fnSummed", recurses := true, apart := false }
def FnSummedSaid : Prop := fnSummedRow.holds Try.pinned (OpenSpec.ofChange fnSummedSpec)

/-- ITS FALSE NEIGHBOUR: 'it returns false'. Refute it at one input. -/
def fnSummedWrong : ChangeSpec := { name := "fnSummed", fn := fun _ => fun
  | [d] => { results := [.lit (.bool false)], args := [d] }
  | _ => none }
def FnSummedWrongFalsely : Prop := fnSummedRow.holds Try.pinned (OpenSpec.ofChange fnSummedWrong)

/-- 'laws.FnExactGridTable': WHATEVER THE INPUT: true; the input reads as it did. -/
def fnExactGridTableSpec : ChangeSpec := { name := "fnExactGridTable", fn := fun _ => fun
  | [d] => { results := [.lit (.bool true)], args := [d] }
  | _ => none }
def fnExactGridTableRow : OpenClaim := { program := "ytmdmfkdmgmcbpaa", sum := "a3ef70c7116fe92b06684d94f877e52db77f9dbf1f681bcc8f9e5ad1e11b7be7", func := "loop.example/g03223/laws.FnExactGridTable", spec := "fnExactGridTable", apart := false }
def FnExactGridTableSaid : Prop := fnExactGridTableRow.holds Try.pinned (OpenSpec.ofChange fnExactGridTableSpec)

/-- ITS FALSE NEIGHBOUR: 'it returns false'. Refute it at one input. -/
def fnExactGridTableWrong : ChangeSpec := { name := "fnExactGridTable", fn := fun _ => fun
  | [d] => { results := [.lit (.bool false)], args := [d] }
  | _ => none }
def FnExactGridTableWrongFalsely : Prop := fnExactGridTableRow.holds Try.pinned (OpenSpec.ofChange fnExactGridTableWrong)

/-- 'laws.FnTables': WHATEVER THE INPUT: true; the input reads as it did. -/
def fnTablesSpec : ChangeSpec := { name := "fnTables", fn := fun _ => fun
  | [d] => { results := [.lit (.bool true)], args := [d] }
  | _ => none }
def fnTablesRow : OpenClaim := { program := "ytmdmfkdmgmcbpaa", sum := "a3ef70c7116fe92b06684d94f877e52db77f9dbf1f681bcc8f9e5ad1e11b7be7", func := "loop.example/g03223/laws.FnTables", spec := "fnTables", inPlace := ["math.Float32bits"], apart := false }
def FnTablesSaid : Prop := fnTablesRow.holds Try.pinned (OpenSpec.ofChange fnTablesSpec)

/-- ITS FALSE NEIGHBOUR: 'it returns false'. Refute it at one input. -/
def fnTablesWrong : ChangeSpec := { name := "fnTables", fn := fun _ => fun
  | [d] => { results := [.lit (.bool false)], args := [d] }
  | _ => none }
def FnTablesWrongFalsely : Prop := fnTablesRow.holds Try.pinned (OpenSpec.ofChange fnTablesWrong)

/-- 'laws.FnDecided': WHATEVER THE INPUT: true; the input reads as it did. -/
def fnDecidedSpec : ChangeSpec := { name := "fnDecided", fn := fun _ => fun
  | [d] => { results := [.lit (.bool true)], args := [d] }
  | _ => none }
def fnDecidedRow : OpenClaim := { program := "ytmdmfkdmgmcbpaa", sum := "a3ef70c7116fe92b06684d94f877e52db77f9dbf1f681bcc8f9e5ad1e11b7be7", func := "loop.example/g03223/laws.FnDecided", spec := "fnDecided", inPlace := ["math.Float32bits"], apart := false }
def FnDecidedSaid : Prop := fnDecidedRow.holds Try.pinned (OpenSpec.ofChange fnDecidedSpec)

/-- ITS FALSE NEIGHBOUR: 'it returns false'. Refute it at one input. -/
def fnDecidedWrong : ChangeSpec := { name := "fnDecided", fn := fun _ => fun
  | [d] => { results := [.lit (.bool false)], args := [d] }
  | _ => none }
def FnDecidedWrongFalsely : Prop := fnDecidedRow.holds Try.pinned (OpenSpec.ofChange fnDecidedWrong)

/-- 'laws.FnMerged': WHATEVER THE INPUT: true; the input reads as it did. -/
def fnMergedSpec : ChangeSpec := { name := "fnMerged", fn := fun _ => fun
  | [d] => { results := [.lit (.bool true)], args := [d] }
  | _ => none }
def fnMergedRow : OpenClaim := { program := "ytmdmfkdmgmcbpaa", sum := "a3ef70c7116fe92b06684d94f877e52db77f9dbf1f681bcc8f9e5ad1e11b7be7", func := "loop.example/g03223/laws.FnMerged", spec := "fnMerged", inPlace := ["math.Float32bits"], apart := false }
def FnMergedSaid : Prop := fnMergedRow.holds Try.pinned (OpenSpec.ofChange fnMergedSpec)

/-- ITS FALSE NEIGHBOUR: 'it returns false'. Refute it at one input. -/
def fnMergedWrong : ChangeSpec := { name := "fnMerged", fn := fun _ => fun
  | [d] => { results := [.lit (.bool false)], args := [d] }
  | _ => none }
def FnMergedWrongFalsely : Prop := fnMergedRow.holds Try.pinned (OpenSpec.ofChange fnMergedWrong)

/- THE SECOND FORM. 'bulk': how many values and letters a reading holds, each counted each time it is reached (what is shared counts as often as it is met; a slice's spare places count too). A statement '..UptoSaid' is the law's where the arguments, and the package variables that the reading takes, are together of bulk at most 1048576: NARROWER than '..Said'. Prove '..Said' where nothing that the law and all that it calls make is longer than what came in: it says more and counts as full. Else prove '..UptoSaid'. A law counts once. -/
mutual
def uptoBulk {H : Type} : DataW H → Nat
  | .lit (.string bytes) => bytes.length + 1
  | .lit _ => 1
  | .nil => 1
  | .ptr d => uptoBulk d + 1
  | .slice elems spare => uptoBulkAll elems + uptoBulkAll spare + 1
  | .agg parts => uptoBulkAll parts + 1
  | .iface _ d => uptoBulk d + 1
  | .map entries => uptoBulkEntries entries + 1
  | .held _ => 1
def uptoBulkAll {H : Type} : List (DataW H) → Nat
  | [] => 0
  | d :: r => uptoBulk d + uptoBulkAll r
def uptoBulkEntries {H : Type} : List (Lit × DataW H) → Nat
  | [] => 0
  | x :: r => uptoBulkEntry x + uptoBulkEntries r
def uptoBulkEntry {H : Type} : Lit × DataW H → Nat
  | (.string bytes, d) => bytes.length + uptoBulk d + 1
  | (_, d) => uptoBulk d + 1
 end
def uptoSmall : (H : Type) → List (DataW H) → Bool := fun _ ds => decide (uptoBulkAll ds ≤ 1048576)
def OpenSpec.upto (s : _root_.Go.ChangeSpec) : _root_.Go.OpenSpec := { _root_.Go.OpenSpec.ofChange s with cond := some uptoSmall }

/-- 'laws.FnSums', WHERE WHAT IT READS IS OF BULK AT MOST 1048576: true; the input reads as it did. -/
def fnSumsUptoRow : OpenClaim := { program := "ytmdmfkdmgmcbpaa", sum := "a3ef70c7116fe92b06684d94f877e52db77f9dbf1f681bcc8f9e5ad1e11b7be7", func := "loop.example/g03223/laws.FnSums", spec := "fnSums", recurses := true, apart := false, narrowed := true }
def FnSumsUptoSaid : Prop := fnSumsUptoRow.holds Try.pinned (OpenSpec.upto fnSumsSpec)

/-- 'laws.FnSummed', WHERE WHAT IT READS IS OF BULK AT MOST 1048576: true; the input reads as it did. -/
def fnSummedUptoRow : OpenClaim := { program := "ytmdmfkdmgmcbpaa", sum := "a3ef70c7116fe92b06684d94f877e52db77f9dbf1f681bcc8f9e5ad1e11b7be7", func := "loop.example/g03223/laws.FnSummed", spec := "fnSummed", recurses := true, apart := false, narrowed := true }
def FnSummedUptoSaid : Prop := fnSummedUptoRow.holds Try.pinned (OpenSpec.upto fnSummedSpec)

/-- 'laws.FnExactGridTable', WHERE WHAT IT READS IS OF BULK AT MOST 1048576: true; the input reads as it did. -/
def fnExactGridTableUptoRow : OpenClaim := { program := "ytmdmfkdmgmcbpaa", sum := "a3ef70c7116fe92b06684d94f877e52db77f9dbf1f681bcc8f9e5ad1e11b7be7", func := "loop.example/g03223/laws.FnExactGridTable", spec := "fnExactGridTable", apart := false, narrowed := true }
def FnExactGridTableUptoSaid : Prop := fnExactGridTableUptoRow.holds Try.pinned (OpenSpec.upto fnExactGridTableSpec)

/-- 'laws.FnTables', WHERE WHAT IT READS IS OF BULK AT MOST 1048576: true; the input reads as it did. -/
def fnTablesUptoRow : OpenClaim := { program := "ytmdmfkdmgmcbpaa", sum := "a3ef70c7116fe92b06684d94f877e52db77f9dbf1f681bcc8f9e5ad1e11b7be7", func := "loop.example/g03223/laws.FnTables", spec := "fnTables", inPlace := ["math.Float32bits"], apart := false, narrowed := true }
def FnTablesUptoSaid : Prop := fnTablesUptoRow.holds Try.pinned (OpenSpec.upto fnTablesSpec)

/-- 'laws.FnDecided', WHERE WHAT IT READS IS OF BULK AT MOST 1048576: true; the input reads as it did. -/
def fnDecidedUptoRow : OpenClaim := { program := "ytmdmfkdmgmcbpaa", sum := "a3ef70c7116fe92b06684d94f877e52db77f9dbf1f681bcc8f9e5ad1e11b7be7", func := "loop.example/g03223/laws.FnDecided", spec := "fnDecided", inPlace := ["math.Float32bits"], apart := false, narrowed := true }
def FnDecidedUptoSaid : Prop := fnDecidedUptoRow.holds Try.pinned (OpenSpec.upto fnDecidedSpec)

/-- 'laws.FnMerged', WHERE WHAT IT READS IS OF BULK AT MOST 1048576: true; the input reads as it did. -/
def fnMergedUptoRow : OpenClaim := { program := "ytmdmfkdmgmcbpaa", sum := "a3ef70c7116fe92b06684d94f877e52db77f9dbf1f681bcc8f9e5ad1e11b7be7", func := "loop.example/g03223/laws.FnMerged", spec := "fnMerged", inPlace := ["math.Float32bits"], apart := false, narrowed := true }
def FnMergedUptoSaid : Prop := fnMergedUptoRow.holds Try.pinned (OpenSpec.upto fnMergedSpec)

end Rows
end Go.Proofs.Ytmdmfkdmgmcbpaa
