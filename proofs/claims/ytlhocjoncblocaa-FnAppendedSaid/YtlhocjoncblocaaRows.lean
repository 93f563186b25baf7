/-
  No cell of these rows narrows 'for every input' (looked for: loops, veiled, ifaces, maps, wideKeys, modest, calm, conditions, laid).
  DERIVED. THE GIVEN ROWS OF THIS SEAT. 6 by the template 'for every input the law returns true; each argument reads behind the call as it read before'; 0 by the template 'total and deterministic' (their statements: YtlhocjoncblocaaTotals.lean).
  GIVEN WITH THE SEED: the statements are not yours to turn. If you find one false, say at which input.
  Laid BY PROGRAM, IN A SANDBOX (cutbox-rows.mjs): the forced cells as the released guide's own fill.sh prints them over the translation 1f97f98f186ec232… (all of the seat's roots in one cut). By AI agents, Wed Nov 11 2026. No macro, syntax, notation, axiom, sorry.
-/
import Derived.Test.YtlhocjoncblocaaChecked
import GoSem.Claim
import GoSem.ClaimJoined
import GoSem.ClaimMapViews
import Derived.JoinedTies
import Derived.KernelRfl
namespace Go.Proofs.Ytlhocjoncblocaa
/- THE CELL 'sum', in the pinned program and in every row, IS THE sha256 OF THE DUMP (.gsa) THAT YtlhocjoncblocaaProg.lean LOADS. Nothing in Lean hashes anything: it is a label: what it is worth is what the hold of that sum in a sandbox is worth. -/
noncomputable def Try.pinned : Pinned := { name := "ytlhocjoncblocaa", sum := "1f97f98f186ec232b182a2417d8b393b0f6c6da17ca220769308e9c91ad3b1f8", checked := Try.checked }
namespace Rows
def none {H : Type} : Left H := { results := [], args := [] }

/-- 'laws.FnPool': WHATEVER THE INPUT: true; the input reads as it did. -/
def fnPoolSpec : ChangeSpec := { name := "fnPool", fn := fun _ => fun
  | [d] => { results := [.lit (.bool true)], args := [d] }
  | _ => none }
def fnPoolRow : OpenClaim := { program := "ytlhocjoncblocaa", sum := "1f97f98f186ec232b182a2417d8b393b0f6c6da17ca220769308e9c91ad3b1f8", func := "loop.example/g03223/laws.FnPool", spec := "fnPool", unfollowed := true, recurses := true, plainKeys := false, apart := false }
def FnPoolSaid : Prop := fnPoolRow.holds Try.pinned (OpenSpec.ofChange fnPoolSpec)

/-- ITS FALSE NEIGHBOUR: 'it returns false'. Refute it at one input. -/
def fnPoolWrong : ChangeSpec := { name := "fnPool", fn := fun _ => fun
  | [d] => { results := [.lit (.bool false)], args := [d] }
  | _ => none }
def FnPoolWrongFalsely : Prop := fnPoolRow.holds Try.pinned (OpenSpec.ofChange fnPoolWrong)

/-- 'laws.FnLent': WHATEVER THE INPUT: true; the input reads as it did. -/
def fnLentSpec : ChangeSpec := { name := "fnLent", fn := fun _ => fun
  | [d] => { results := [.lit (.bool true)], args := [d] }
  | _ => none }
def fnLentRow : OpenClaim := { program := "ytlhocjoncblocaa", sum := "1f97f98f186ec232b182a2417d8b393b0f6c6da17ca220769308e9c91ad3b1f8", func := "loop.example/g03223/laws.FnLent", spec := "fnLent", unfollowed := true, recurses := true, plainKeys := false, apart := false }
def FnLentSaid : Prop := fnLentRow.holds Try.pinned (OpenSpec.ofChange fnLentSpec)

/-- ITS FALSE NEIGHBOUR: 'it returns false'. Refute it at one input. -/
def fnLentWrong : ChangeSpec := { name := "fnLent", fn := fun _ => fun
  | [d] => { results := [.lit (.bool false)], args := [d] }
  | _ => none }
def FnLentWrongFalsely : Prop := fnLentRow.holds Try.pinned (OpenSpec.ofChange fnLentWrong)

/-- 'laws.FnExhausted': WHATEVER THE INPUT: true; the input reads as it did. -/
def fnExhaustedSpec : ChangeSpec := { name := "fnExhausted", fn := fun _ => fun
  | [d] => { results := [.lit (.bool true)], args := [d] }
  | _ => none }
def fnExhaustedRow : OpenClaim := { program := "ytlhocjoncblocaa", sum := "1f97f98f186ec232b182a2417d8b393b0f6c6da17ca220769308e9c91ad3b1f8", func := "loop.example/g03223/laws.FnExhausted", spec := "fnExhausted", unfollowed := true, recurses := true, plainKeys := false, apart := false }
def FnExhaustedSaid : Prop := fnExhaustedRow.holds Try.pinned (OpenSpec.ofChange fnExhaustedSpec)

/-- ITS FALSE NEIGHBOUR: 'it returns false'. Refute it at one input. -/
def fnExhaustedWrong : ChangeSpec := { name := "fnExhausted", fn := fun _ => fun
  | [d] => { results := [.lit (.bool false)], args := [d] }
  | _ => none }
def FnExhaustedWrongFalsely : Prop := fnExhaustedRow.holds Try.pinned (OpenSpec.ofChange fnExhaustedWrong)

/-- 'laws.FnAppended': WHATEVER THE INPUT: true; the input reads as it did. -/
def fnAppendedSpec : ChangeSpec := { name := "fnAppended", fn := fun _ => fun
  | [d] => { results := [.lit (.bool true)], args := [d] }
  | _ => none }
def fnAppendedRow : OpenClaim := { program := "ytlhocjoncblocaa", sum := "1f97f98f186ec232b182a2417d8b393b0f6c6da17ca220769308e9c91ad3b1f8", func := "loop.example/g03223/laws.FnAppended", spec := "fnAppended", unfollowed := true, recurses := true, plainKeys := false, apart := false }
def FnAppendedSaid : Prop := fnAppendedRow.holds Try.pinned (OpenSpec.ofChange fnAppendedSpec)

/-- ITS FALSE NEIGHBOUR: 'it returns false'. Refute it at one input. -/
def fnAppendedWrong : ChangeSpec := { name := "fnAppended", fn := fun _ => fun
  | [d] => { results := [.lit (.bool false)], args := [d] }
  | _ => none }
def FnAppendedWrongFalsely : Prop := fnAppendedRow.holds Try.pinned (OpenSpec.ofChange fnAppendedWrong)

/-- 'laws.FnFrames': WHATEVER THE INPUT: true; the input reads as it did. -/
def fnFramesSpec : ChangeSpec := { name := "fnFrames", fn := fun _ => fun
  | [d] => { results := [.lit (.bool true)], args := [d] }
  | _ => none }
def fnFramesRow : OpenClaim := { program := "ytlhocjoncblocaa", sum := "1f97f98f186ec232b182a2417d8b393b0f6c6da17ca220769308e9c91ad3b1f8", func := "loop.example/g03223/laws.FnFrames", spec := "fnFrames", plainKeys := false, apart := false }
def FnFramesSaid : Prop := fnFramesRow.holds Try.pinned (OpenSpec.ofChange fnFramesSpec)

/-- ITS FALSE NEIGHBOUR: 'it returns false'. Refute it at one input. -/
def fnFramesWrong : ChangeSpec := { name := "fnFrames", fn := fun _ => fun
  | [d] => { results := [.lit (.bool false)], args := [d] }
  | _ => none }
def FnFramesWrongFalsely : Prop := fnFramesRow.holds Try.pinned (OpenSpec.ofChange fnFramesWrong)

/-- 'laws.FnApart': WHATEVER THE INPUT: true; the input reads as it did. -/
def fnApartSpec : ChangeSpec := { name := "fnApart", fn := fun _ => fun
  | [d] => { results := [.lit (.bool true)], args := [d] }
  | _ => none }
def fnApartRow : OpenClaim := { program := "ytlhocjoncblocaa", sum := "1f97f98f186ec232b182a2417d8b393b0f6c6da17ca220769308e9c91ad3b1f8", func := "loop.example/g03223/laws.FnApart", spec := "fnApart", inPlace := ["math.Float32bits"], unfollowed := true, recurses := true, plainKeys := false, apart := false }
def FnApartSaid : Prop := fnApartRow.holds Try.pinned (OpenSpec.ofChange fnApartSpec)

/-- ITS FALSE NEIGHBOUR: 'it returns false'. Refute it at one input. -/
def fnApartWrong : ChangeSpec := { name := "fnApart", fn := fun _ => fun
  | [d] => { results := [.lit (.bool false)], args := [d] }
  | _ => none }
def FnApartWrongFalsely : Prop := fnApartRow.holds Try.pinned (OpenSpec.ofChange fnApartWrong)

/- THE SECOND FORM. 'bulk': how many values and letters a reading holds, each counted each time it is reached (what is shared counts as often as it is met; a slice's spare places count too). A statement '..UptoSaid' is the law's where the arguments, and the package variables that the reading takes, are together of bulk at most 1048576: NARROWER than '..Said'. Prove '..Said' where nothing that the law and all that it calls make is longer than what came in: it says more and counts as full. Else prove '..UptoSaid'. A law counts once. -/
mutual
def uptoBulk {H : Type} : DataW H → Nat
  | .lit (.string bytes) => bytes.length + 1
  | .lit _ => 1
  | .nil => 1
  | .ptr d => uptoBulk d + 1
  | .slice elems spare => uptoBulkAll elems + uptoBulkAll spare + 1
  | .agg parts => uptoBulkAll parts + 1
  | .iface _ d => uptoBulk d + 1
  | .map entries => uptoBulkEntries entries + 1
  | .held _ => 1
def uptoBulkAll {H : Type} : List (DataW H) → Nat
  | [] => 0
  | d :: r => uptoBulk d + uptoBulkAll r
def uptoBulkEntries {H : Type} : List (Lit × DataW H) → Nat
  | [] => 0
  | x :: r => uptoBulkEntry x + uptoBulkEntries r
def uptoBulkEntry {H : Type} : Lit × DataW H → Nat
  | (.string bytes, d) => bytes.length + uptoBulk d + 1
  | (_, d) => uptoBulk d + 1
 end
def uptoSmall : (H : Type) → List (DataW H) → Bool := fun _ ds => decide (uptoBulkAll ds ≤ 1048576)
def OpenSpec.upto (s : _root_.Go.ChangeSpec) : _root_.Go.OpenSpec := { _root_.Go.OpenSpec.ofChange s with cond := some uptoSmall }

/-- 'laws.FnPool', WHERE WHAT IT READS IS OF BULK AT MOST 1048576: true; the input reads as it did. -/
def fnPoolUptoRow : OpenClaim := { program := "ytlhocjoncblocaa", sum := "1f97f98f186ec232b182a2417d8b393b0f6c6da17ca220769308e9c91ad3b1f8", func := "loop.example/g03223/laws.FnPool", spec := "fnPool", unfollowed := true, recurses := true, plainKeys := false, apart := false, narrowed := true }
def FnPoolUptoSaid : Prop := fnPoolUptoRow.holds Try.pinned (OpenSpec.upto fnPoolSpec)

/-- 'laws.FnLent', WHERE WHAT IT READS IS OF BULK AT MOST 1048576: true; the input reads as it did. -/
def fnLentUptoRow : OpenClaim := { program := "ytlhocjoncblocaa", sum := "1f97f98f186ec232b182a2417d8b393b0f6c6da17ca220769308e9c91ad3b1f8", func := "loop.example/g03223/laws.FnLent", spec := "fnLent", unfollowed := true, recurses := true, plainKeys := false, apart := false, narrowed := true }
def FnLentUptoSaid : Prop := fnLentUptoRow.holds Try.pinned (OpenSpec.upto fnLentSpec)

/-- 'laws.FnExhausted', WHERE WHAT IT READS IS OF BULK AT MOST 1048576: true; the input reads as it did. -/
def fnExhaustedUptoRow : OpenClaim := { program := "ytlhocjoncblocaa", sum := "1f97f98f186ec232b182a2417d8b393b0f6c6da17ca220769308e9c91ad3b1f8", func := "loop.example/g03223/laws.FnExhausted", spec := "fnExhausted", unfollowed := true, recurses := true, plainKeys := false, apart := false, narrowed := true }
def FnExhaustedUptoSaid : Prop := fnExhaustedUptoRow.holds Try.pinned (OpenSpec.upto fnExhaustedSpec)

/-- 'laws.FnAppended', WHERE WHAT IT READS IS OF BULK AT MOST 1048576: true; the input reads as it did. -/
def fnAppendedUptoRow : OpenClaim := { program := "ytlhocjoncblocaa", sum := "1f97f98f186ec232b182a2417d8b393b0f6c6da17ca220769308e9c91ad3b1f8", func := "loop.example/g03223/laws.FnAppended", spec := "fnAppended", unfollowed := true, recurses := true, plainKeys := false, apart := false, narrowed := true }
def FnAppendedUptoSaid : Prop := fnAppendedUptoRow.holds Try.pinned (OpenSpec.upto fnAppendedSpec)

/-- 'laws.FnFrames', WHERE WHAT IT READS IS OF BULK AT MOST 1048576: true; the input reads as it did. -/
def fnFramesUptoRow : OpenClaim := { program := "ytlhocjoncblocaa", sum := "1f97f98f186ec232b182a2417d8b393b0f6c6da17ca220769308e9c91ad3b1f8", func := "loop.example/g03223/laws.FnFrames", spec := "fnFrames", plainKeys := false, apart := false, narrowed := true }
def FnFramesUptoSaid : Prop := fnFramesUptoRow.holds Try.pinned (OpenSpec.upto fnFramesSpec)

/-- 'laws.FnApart', WHERE WHAT IT READS IS OF BULK AT MOST 1048576: true; the input reads as it did. -/
def fnApartUptoRow : OpenClaim := { program := "ytlhocjoncblocaa", sum := "1f97f98f186ec232b182a2417d8b393b0f6c6da17ca220769308e9c91ad3b1f8", func := "loop.example/g03223/laws.FnApart", spec := "fnApart", inPlace := ["math.Float32bits"], unfollowed := true, recurses := true, plainKeys := false, apart := false, narrowed := true }
def FnApartUptoSaid : Prop := fnApartUptoRow.holds Try.pinned (OpenSpec.upto fnApartSpec)

end Rows
end Go.Proofs.Ytlhocjoncblocaa
