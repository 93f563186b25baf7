/-
  No cell of these rows narrows 'for every input' (looked for: loops, veiled, ifaces, maps, wideKeys, modest, calm, conditions, laid).
  DERIVED. THE GIVEN ROWS OF THIS SEAT. 17 by the template 'for every input the law returns true; each argument reads behind the call as it read before'; 0 by the template 'total and deterministic' (their statements: YtgbmlkfdojiaoaaTotals.lean).
  GIVEN WITH THE SEED: the statements are not yours to turn. If you find one false, say at which input.
  Laid BY PROGRAM, IN A SANDBOX (cutbox-rows.mjs): the forced cells as the released guide's own fill.sh prints them over the translation 5f77b5d44b7d0499… (all of the seat's roots in one cut). By AI agents, Wed Nov 11 2026. No macro, syntax, notation, axiom, sorry.
-/
import Derived.Test.YtgbmlkfdojiaoaaChecked
import GoSem.Claim
import GoSem.ClaimJoined
import GoSem.ClaimMapViews
import Derived.JoinedTies
import Derived.KernelRfl
namespace Go.Proofs.Ytgbmlkfdojiaoaa
/- THE CELL 'sum', in the pinned program and in every row, IS THE sha256 OF THE DUMP (.gsa) THAT YtgbmlkfdojiaoaaProg.lean LOADS. Nothing in Lean hashes anything: it is a label: what it is worth is what the hold of that sum in a sandbox is worth. -/
noncomputable def Try.pinned : Pinned := { name := "ytgbmlkfdojiaoaa", sum := "5f77b5d44b7d049944c634f0ea3fbd325ac7535ac0020f7dab66e111f04d0f54", checked := Try.checked }
namespace Rows
def none {H : Type} : Left H := { results := [], args := [] }

/-- 'laws.FnSmall': WHATEVER THE INPUT: true; the input reads as it did. -/
def fnSmallSpec : ChangeSpec := { name := "fnSmall", fn := fun _ => fun
  | [d] => { results := [.lit (.bool true)], args := [d] }
  | _ => none }
def fnSmallRow : OpenClaim := { program := "ytgbmlkfdojiaoaa", sum := "5f77b5d44b7d049944c634f0ea3fbd325ac7535ac0020f7dab66e111f04d0f54", func := "loop.example/g03223/laws.FnSmall", spec := "fnSmall", inPlace := ["math.Float32bits", "math.Float32frombits"], apart := false }
def FnSmallSaid : Prop := fnSmallRow.holds Try.pinned (OpenSpec.ofChange fnSmallSpec)

/-- ITS FALSE NEIGHBOUR: 'it returns false'. Refute it at one input. -/
def fnSmallWrong : ChangeSpec := { name := "fnSmall", fn := fun _ => fun
  | [d] => { results := [.lit (.bool false)], args := [d] }
  | _ => none }
def FnSmallWrongFalsely : Prop := fnSmallRow.holds Try.pinned (OpenSpec.ofChange fnSmallWrong)

/-- 'laws.FnSums': WHATEVER THE INPUT: true; the input reads as it did. -/
def fnSumsSpec : ChangeSpec := { name := "fnSums", fn := fun _ => fun
  | [d] => { results := [.lit (.bool true)], args := [d] }
  | _ => none }
def fnSumsRow : OpenClaim := { program := "ytgbmlkfdojiaoaa", sum := "5f77b5d44b7d049944c634f0ea3fbd325ac7535ac0020f7dab66e111f04d0f54", func := "loop.example/g03223/laws.FnSums", spec := "fnSums", recurses := true, apart := false }
def FnSumsSaid : Prop := fnSumsRow.holds Try.pinned (OpenSpec.ofChange fnSumsSpec)

/-- ITS FALSE NEIGHBOUR: 'it returns false'. Refute it at one input. -/
def fnSumsWrong : ChangeSpec := { name := "fnSums", fn := fun _ => fun
  | [d] => { results := [.lit (.bool false)], args := [d] }
  | _ => none }
def FnSumsWrongFalsely : Prop := fnSumsRow.holds Try.pinned (OpenSpec.ofChange fnSumsWrong)

/-- 'laws.FnSummed': WHATEVER THE INPUT: true; the input reads as it did. -/
def fnSummedSpec : ChangeSpec := { name := "fnSummed", fn := fun _ => fun
  | [d] => { results := [.lit (.bool true)], args := [d] }
  | _ => none }
def fnSummedRow : OpenClaim := { program := "ytgbmlkfdojiaoaa", sum := "5f77b5d44b7d049944c634f0ea3fbd325ac7535ac0020f7dab66e111f04d0f54", func := "loop.example/g03223/laws.FnSummed", spec := "fnSummed", recurses := true, apart := false }
def FnSummedSaid : Prop := fnSummedRow.holds Try.pinned (OpenSpec.ofChange fnSummedSpec)

/-- ITS FALSE NEIGHBOUR: 'it returns false'. Refute it at one input. -/
def fnSummedWrong : ChangeSpec := { name := "fnSummed", fn := fun _ => fun
  | [d] => { results := [.lit (.bool false)], args := [d] }
  | _ => none }
def FnSummedWrongFalsely : Prop := fnSummedRow.holds Try.pinned (OpenSpec.ofChange fnSummedWrong)

/-- 'laws.FnExactStepsOf': WHATEVER THE INPUT: true; the input reads as it did. -/
def fnExactStepsOfSpec : ChangeSpec := { name := "fnExactStepsOf", fn := fun _ => fun
  | [d] => { results := [.lit (.bool true)], args := [d] }
  | _ => none }
def fnExactStepsOfRow : OpenClaim := { program := "ytgbmlkfdojiaoaa", sum := "5f77b5d44b7d049944c634f0ea3fbd325ac7535ac0020f7dab66e111f04d0f54", func := "loop.example/g03223/laws.FnExactStepsOf", spec := "fnExactStepsOf", inPlace := ["math.Float32bits"], apart := false }
def FnExactStepsOfSaid : Prop := fnExactStepsOfRow.holds Try.pinned (OpenSpec.ofChange fnExactStepsOfSpec)

/-- ITS FALSE NEIGHBOUR: 'it returns false'. Refute it at one input. -/
def fnExactStepsOfWrong : ChangeSpec := { name := "fnExactStepsOf", fn := fun _ => fun
  | [d] => { results := [.lit (.bool false)], args := [d] }
  | _ => none }
def FnExactStepsOfWrongFalsely : Prop := fnExactStepsOfRow.holds Try.pinned (OpenSpec.ofChange fnExactStepsOfWrong)

/-- 'laws.FnExactFromSteps': WHATEVER THE INPUT: true; the input reads as it did. -/
def fnExactFromStepsSpec : ChangeSpec := { name := "fnExactFromSteps", fn := fun _ => fun
  | [d] => { results := [.lit (.bool true)], args := [d] }
  | _ => none }
def fnExactFromStepsRow : OpenClaim := { program := "ytgbmlkfdojiaoaa", sum := "5f77b5d44b7d049944c634f0ea3fbd325ac7535ac0020f7dab66e111f04d0f54", func := "loop.example/g03223/laws.FnExactFromSteps", spec := "fnExactFromSteps", inPlace := ["math.Float32frombits"], apart := false }
def FnExactFromStepsSaid : Prop := fnExactFromStepsRow.holds Try.pinned (OpenSpec.ofChange fnExactFromStepsSpec)

/-- ITS FALSE NEIGHBOUR: 'it returns false'. Refute it at one input. -/
def fnExactFromStepsWrong : ChangeSpec := { name := "fnExactFromSteps", fn := fun _ => fun
  | [d] => { results := [.lit (.bool false)], args := [d] }
  | _ => none }
def FnExactFromStepsWrongFalsely : Prop := fnExactFromStepsRow.holds Try.pinned (OpenSpec.ofChange fnExactFromStepsWrong)

/-- 'laws.FnExactNextUp': WHATEVER THE INPUT: true; the input reads as it did. -/
def fnExactNextUpSpec : ChangeSpec := { name := "fnExactNextUp", fn := fun _ => fun
  | [d] => { results := [.lit (.bool true)], args := [d] }
  | _ => none }
def fnExactNextUpRow : OpenClaim := { program := "ytgbmlkfdojiaoaa", sum := "5f77b5d44b7d049944c634f0ea3fbd325ac7535ac0020f7dab66e111f04d0f54", func := "loop.example/g03223/laws.FnExactNextUp", spec := "fnExactNextUp", inPlace := ["math.Float32bits", "math.Float32frombits"], apart := false }
def FnExactNextUpSaid : Prop := fnExactNextUpRow.holds Try.pinned (OpenSpec.ofChange fnExactNextUpSpec)

/-- ITS FALSE NEIGHBOUR: 'it returns false'. Refute it at one input. -/
def fnExactNextUpWrong : ChangeSpec := { name := "fnExactNextUp", fn := fun _ => fun
  | [d] => { results := [.lit (.bool false)], args := [d] }
  | _ => none }
def FnExactNextUpWrongFalsely : Prop := fnExactNextUpRow.holds Try.pinned (OpenSpec.ofChange fnExactNextUpWrong)

/-- 'laws.FnExactNextDown': WHATEVER THE INPUT: true; the input reads as it did. -/
def fnExactNextDownSpec : ChangeSpec := { name := "fnExactNextDown", fn := fun _ => fun
  | [d] => { results := [.lit (.bool true)], args := [d] }
  | _ => none }
def fnExactNextDownRow : OpenClaim := { program := "ytgbmlkfdojiaoaa", sum := "5f77b5d44b7d049944c634f0ea3fbd325ac7535ac0020f7dab66e111f04d0f54", func := "loop.example/g03223/laws.FnExactNextDown", spec := "fnExactNextDown", inPlace := ["math.Float32bits", "math.Float32frombits"], apart := false }
def FnExactNextDownSaid : Prop := fnExactNextDownRow.holds Try.pinned (OpenSpec.ofChange fnExactNextDownSpec)

/-- ITS FALSE NEIGHBOUR: 'it returns false'. Refute it at one input. -/
def fnExactNextDownWrong : ChangeSpec := { name := "fnExactNextDown", fn := fun _ => fun
  | [d] => { results := [.lit (.bool false)], args := [d] }
  | _ => none }
def FnExactNextDownWrongFalsely : Prop := fnExactNextDownRow.holds Try.pinned (OpenSpec.ofChange fnExactNextDownWrong)

/-- 'laws.FnExactStepsBetween': WHATEVER THE INPUT: true; the input reads as it did. -/
def fnExactStepsBetweenSpec : ChangeSpec := { name := "fnExactStepsBetween", fn := fun _ => fun
  | [d1, d2] => { results := [.lit (.bool true)], args := [d1, d2] }
  | _ => none }
def fnExactStepsBetweenRow : OpenClaim := { program := "ytgbmlkfdojiaoaa", sum := "5f77b5d44b7d049944c634f0ea3fbd325ac7535ac0020f7dab66e111f04d0f54", func := "loop.example/g03223/laws.FnExactStepsBetween", spec := "fnExactStepsBetween", inPlace := ["math.Float32bits"], apart := false }
def FnExactStepsBetweenSaid : Prop := fnExactStepsBetweenRow.holds Try.pinned (OpenSpec.ofChange fnExactStepsBetweenSpec)

/-- ITS FALSE NEIGHBOUR: 'it returns false'. Refute it at one input. -/
def fnExactStepsBetweenWrong : ChangeSpec := { name := "fnExactStepsBetween", fn := fun _ => fun
  | [d1, d2] => { results := [.lit (.bool false)], args := [d1, d2] }
  | _ => none }
def FnExactStepsBetweenWrongFalsely : Prop := fnExactStepsBetweenRow.holds Try.pinned (OpenSpec.ofChange fnExactStepsBetweenWrong)

/-- 'laws.FnExactIsSubnormal': WHATEVER THE INPUT: true; the input reads as it did. -/
def fnExactIsSubnormalSpec : ChangeSpec := { name := "fnExactIsSubnormal", fn := fun _ => fun
  | [d] => { results := [.lit (.bool true)], args := [d] }
  | _ => none }
def fnExactIsSubnormalRow : OpenClaim := { program := "ytgbmlkfdojiaoaa", sum := "5f77b5d44b7d049944c634f0ea3fbd325ac7535ac0020f7dab66e111f04d0f54", func := "loop.example/g03223/laws.FnExactIsSubnormal", spec := "fnExactIsSubnormal", apart := false }
def FnExactIsSubnormalSaid : Prop := fnExactIsSubnormalRow.holds Try.pinned (OpenSpec.ofChange fnExactIsSubnormalSpec)

/-- ITS FALSE NEIGHBOUR: 'it returns false'. Refute it at one input. -/
def fnExactIsSubnormalWrong : ChangeSpec := { name := "fnExactIsSubnormal", fn := fun _ => fun
  | [d] => { results := [.lit (.bool false)], args := [d] }
  | _ => none }
def FnExactIsSubnormalWrongFalsely : Prop := fnExactIsSubnormalRow.holds Try.pinned (OpenSpec.ofChange fnExactIsSubnormalWrong)

/-- 'laws.FnExactFlushSmall': WHATEVER THE INPUT: true; the input reads as it did. -/
def fnExactFlushSmallSpec : ChangeSpec := { name := "fnExactFlushSmall", fn := fun _ => fun
  | [d] => { results := [.lit (.bool true)], args := [d] }
  | _ => none }
def fnExactFlushSmallRow : OpenClaim := { program := "ytgbmlkfdojiaoaa", sum := "5f77b5d44b7d049944c634f0ea3fbd325ac7535ac0020f7dab66e111f04d0f54", func := "loop.example/g03223/laws.FnExactFlushSmall", spec := "fnExactFlushSmall", inPlace := ["math.Float32bits", "math.Float32frombits"], apart := false }
def FnExactFlushSmallSaid : Prop := fnExactFlushSmallRow.holds Try.pinned (OpenSpec.ofChange fnExactFlushSmallSpec)

/-- ITS FALSE NEIGHBOUR: 'it returns false'. Refute it at one input. -/
def fnExactFlushSmallWrong : ChangeSpec := { name := "fnExactFlushSmall", fn := fun _ => fun
  | [d] => { results := [.lit (.bool false)], args := [d] }
  | _ => none }
def FnExactFlushSmallWrongFalsely : Prop := fnExactFlushSmallRow.holds Try.pinned (OpenSpec.ofChange fnExactFlushSmallWrong)

/-- 'laws.FnExactHalveSingle': WHATEVER THE INPUT: true; the input reads as it did. -/
def fnExactHalveSingleSpec : ChangeSpec := { name := "fnExactHalveSingle", fn := fun _ => fun
  | [d1, d2] => { results := [.lit (.bool true)], args := [d1, d2] }
  | _ => none }
def fnExactHalveSingleRow : OpenClaim := { program := "ytgbmlkfdojiaoaa", sum := "5f77b5d44b7d049944c634f0ea3fbd325ac7535ac0020f7dab66e111f04d0f54", func := "loop.example/g03223/laws.FnExactHalveSingle", spec := "fnExactHalveSingle", apart := false }
def FnExactHalveSingleSaid : Prop := fnExactHalveSingleRow.holds Try.pinned (OpenSpec.ofChange fnExactHalveSingleSpec)

/-- ITS FALSE NEIGHBOUR: 'it returns false'. Refute it at one input. -/
def fnExactHalveSingleWrong : ChangeSpec := { name := "fnExactHalveSingle", fn := fun _ => fun
  | [d1, d2] => { results := [.lit (.bool false)], args := [d1, d2] }
  | _ => none }
def FnExactHalveSingleWrongFalsely : Prop := fnExactHalveSingleRow.holds Try.pinned (OpenSpec.ofChange fnExactHalveSingleWrong)

/-- 'laws.FnExactLosesHalf': WHATEVER THE INPUT: true; the input reads as it did. -/
def fnExactLosesHalfSpec : ChangeSpec := { name := "fnExactLosesHalf", fn := fun _ => fun
  | [d] => { results := [.lit (.bool true)], args := [d] }
  | _ => none }
def fnExactLosesHalfRow : OpenClaim := { program := "ytgbmlkfdojiaoaa", sum := "5f77b5d44b7d049944c634f0ea3fbd325ac7535ac0020f7dab66e111f04d0f54", func := "loop.example/g03223/laws.FnExactLosesHalf", spec := "fnExactLosesHalf", apart := false }
def FnExactLosesHalfSaid : Prop := fnExactLosesHalfRow.holds Try.pinned (OpenSpec.ofChange fnExactLosesHalfSpec)

/-- ITS FALSE NEIGHBOUR: 'it returns false'. Refute it at one input. -/
def fnExactLosesHalfWrong : ChangeSpec := { name := "fnExactLosesHalf", fn := fun _ => fun
  | [d] => { results := [.lit (.bool false)], args := [d] }
  | _ => none }
def FnExactLosesHalfWrongFalsely : Prop := fnExactLosesHalfRow.holds Try.pinned (OpenSpec.ofChange fnExactLosesHalfWrong)

/-- 'laws.FnExactTwoSum': WHATEVER THE INPUT: true; the input reads as it did. -/
def fnExactTwoSumSpec : ChangeSpec := { name := "fnExactTwoSum", fn := fun _ => fun
  | [d1, d2] => { results := [.lit (.bool true)], args := [d1, d2] }
  | _ => none }
def fnExactTwoSumRow : OpenClaim := { program := "ytgbmlkfdojiaoaa", sum := "5f77b5d44b7d049944c634f0ea3fbd325ac7535ac0020f7dab66e111f04d0f54", func := "loop.example/g03223/laws.FnExactTwoSum", spec := "fnExactTwoSum", apart := false }
def FnExactTwoSumSaid : Prop := fnExactTwoSumRow.holds Try.pinned (OpenSpec.ofChange fnExactTwoSumSpec)

/-- ITS FALSE NEIGHBOUR: 'it returns false'. Refute it at one input. -/
def fnExactTwoSumWrong : ChangeSpec := { name := "fnExactTwoSum", fn := fun _ => fun
  | [d1, d2] => { results := [.lit (.bool false)], args := [d1, d2] }
  | _ => none }
def FnExactTwoSumWrongFalsely : Prop := fnExactTwoSumRow.holds Try.pinned (OpenSpec.ofChange fnExactTwoSumWrong)

/-- 'laws.FnExactSumForward': WHATEVER THE INPUT: true; the input reads as it did. -/
def fnExactSumForwardSpec : ChangeSpec := { name := "fnExactSumForward", fn := fun _ => fun
  | [d] => { results := [.lit (.bool true)], args := [d] }
  | _ => none }
def fnExactSumForwardRow : OpenClaim := { program := "ytgbmlkfdojiaoaa", sum := "5f77b5d44b7d049944c634f0ea3fbd325ac7535ac0020f7dab66e111f04d0f54", func := "loop.example/g03223/laws.FnExactSumForward", spec := "fnExactSumForward", apart := false }
def FnExactSumForwardSaid : Prop := fnExactSumForwardRow.holds Try.pinned (OpenSpec.ofChange fnExactSumForwardSpec)

/-- ITS FALSE NEIGHBOUR: 'it returns false'. Refute it at one input. -/
def fnExactSumForwardWrong : ChangeSpec := { name := "fnExactSumForward", fn := fun _ => fun
  | [d] => { results := [.lit (.bool false)], args := [d] }
  | _ => none }
def FnExactSumForwardWrongFalsely : Prop := fnExactSumForwardRow.holds Try.pinned (OpenSpec.ofChange fnExactSumForwardWrong)

/-- 'laws.FnExactSumPairs': WHATEVER THE INPUT: true; the input reads as it did. -/
def fnExactSumPairsSpec : ChangeSpec := { name := "fnExactSumPairs", fn := fun _ => fun
  | [d] => { results := [.lit (.bool true)], args := [d] }
  | _ => none }
def fnExactSumPairsRow : OpenClaim := { program := "ytgbmlkfdojiaoaa", sum := "5f77b5d44b7d049944c634f0ea3fbd325ac7535ac0020f7dab66e111f04d0f54", func := "loop.example/g03223/laws.FnExactSumPairs", spec := "fnExactSumPairs", recurses := true, apart := false }
def FnExactSumPairsSaid : Prop := fnExactSumPairsRow.holds Try.pinned (OpenSpec.ofChange fnExactSumPairsSpec)

/-- ITS FALSE NEIGHBOUR: 'it returns false'. Refute it at one input. -/
def fnExactSumPairsWrong : ChangeSpec := { name := "fnExactSumPairs", fn := fun _ => fun
  | [d] => { results := [.lit (.bool false)], args := [d] }
  | _ => none }
def FnExactSumPairsWrongFalsely : Prop := fnExactSumPairsRow.holds Try.pinned (OpenSpec.ofChange fnExactSumPairsWrong)

/-- 'laws.FnExactSumSteady': WHATEVER THE INPUT: true; the input reads as it did. -/
def fnExactSumSteadySpec : ChangeSpec := { name := "fnExactSumSteady", fn := fun _ => fun
  | [d] => { results := [.lit (.bool true)], args := [d] }
  | _ => none }
def fnExactSumSteadyRow : OpenClaim := { program := "ytgbmlkfdojiaoaa", sum := "5f77b5d44b7d049944c634f0ea3fbd325ac7535ac0020f7dab66e111f04d0f54", func := "loop.example/g03223/laws.FnExactSumSteady", spec := "fnExactSumSteady", apart := false }
def FnExactSumSteadySaid : Prop := fnExactSumSteadyRow.holds Try.pinned (OpenSpec.ofChange fnExactSumSteadySpec)

/-- ITS FALSE NEIGHBOUR: 'it returns false'. Refute it at one input. -/
def fnExactSumSteadyWrong : ChangeSpec := { name := "fnExactSumSteady", fn := fun _ => fun
  | [d] => { results := [.lit (.bool false)], args := [d] }
  | _ => none }
def FnExactSumSteadyWrongFalsely : Prop := fnExactSumSteadyRow.holds Try.pinned (OpenSpec.ofChange fnExactSumSteadyWrong)

/-- 'laws.FnExactSumDouble': WHATEVER THE INPUT: true; the input reads as it did. -/
def fnExactSumDoubleSpec : ChangeSpec := { name := "fnExactSumDouble", fn := fun _ => fun
  | [d] => { results := [.lit (.bool true)], args := [d] }
  | _ => none }
def fnExactSumDoubleRow : OpenClaim := { program := "ytgbmlkfdojiaoaa", sum := "5f77b5d44b7d049944c634f0ea3fbd325ac7535ac0020f7dab66e111f04d0f54", func := "loop.example/g03223/laws.FnExactSumDouble", spec := "fnExactSumDouble", apart := false }
def FnExactSumDoubleSaid : Prop := fnExactSumDoubleRow.holds Try.pinned (OpenSpec.ofChange fnExactSumDoubleSpec)

/-- ITS FALSE NEIGHBOUR: 'it returns false'. Refute it at one input. -/
def fnExactSumDoubleWrong : ChangeSpec := { name := "fnExactSumDouble", fn := fun _ => fun
  | [d] => { results := [.lit (.bool false)], args := [d] }
  | _ => none }
def FnExactSumDoubleWrongFalsely : Prop := fnExactSumDoubleRow.holds Try.pinned (OpenSpec.ofChange fnExactSumDoubleWrong)

/- THE SECOND FORM. 'bulk': how many values and letters a reading holds, each counted each time it is reached (what is shared counts as often as it is met; a slice's spare places count too). A statement '..UptoSaid' is the law's where the arguments, and the package variables that the reading takes, are together of bulk at most 1048576: NARROWER than '..Said'. Prove '..Said' where nothing that the law and all that it calls make is longer than what came in: it says more and counts as full. Else prove '..UptoSaid'. A law counts once. -/
mutual
def uptoBulk {H : Type} : DataW H → Nat
  | .lit (.string bytes) => bytes.length + 1
  | .lit _ => 1
  | .nil => 1
  | .ptr d => uptoBulk d + 1
  | .slice elems spare => uptoBulkAll elems + uptoBulkAll spare + 1
  | .agg parts => uptoBulkAll parts + 1
  | .iface _ d => uptoBulk d + 1
  | .map entries => uptoBulkEntries entries + 1
  | .held _ => 1
def uptoBulkAll {H : Type} : List (DataW H) → Nat
  | [] => 0
  | d :: r => uptoBulk d + uptoBulkAll r
def uptoBulkEntries {H : Type} : List (Lit × DataW H) → Nat
  | [] => 0
  | x :: r => uptoBulkEntry x + uptoBulkEntries r
def uptoBulkEntry {H : Type} : Lit × DataW H → Nat
  | (.string bytes, d) => bytes.length + uptoBulk d + 1
  | (_, d) => uptoBulk d + 1
 end
def uptoSmall : (H : Type) → List (DataW H) → Bool := fun _ ds => decide (uptoBulkAll ds ≤ 1048576)
def OpenSpec.upto (s : _root_.Go.ChangeSpec) : _root_.Go.OpenSpec := { _root_.Go.OpenSpec.ofChange s with cond := some uptoSmall }

/-- 'laws.FnSmall', WHERE WHAT IT READS IS OF BULK AT MOST 1048576: true; the input reads as it did. -/
def fnSmallUptoRow : OpenClaim := { program := "ytgbmlkfdojiaoaa", sum := "5f77b5d44b7d049944c634f0ea3fbd325ac7535ac0020f7dab66e111f04d0f54", func := "loop.example/g03223/laws.FnSmall", spec := "fnSmall", inPlace := ["math.Float32bits", "math.Float32frombits"], apart := false, narrowed := true }
def FnSmallUptoSaid : Prop := fnSmallUptoRow.holds Try.pinned (OpenSpec.upto fnSmallSpec)

/-- 'laws.FnSums', WHERE WHAT IT READS IS OF BULK AT MOST 1048576: true; the input reads as it did. -/
def fnSumsUptoRow : OpenClaim := { program := "ytgbmlkfdojiaoaa", sum := "5f77b5d44b7d049944c634f0ea3fbd325ac7535ac0020f7dab66e111f04d0f54", func := "loop.example/g03223/laws.FnSums", spec := "fnSums", recurses := true, apart := false, narrowed := true }
def FnSumsUptoSaid : Prop := fnSumsUptoRow.holds Try.pinned (OpenSpec.upto fnSumsSpec)

/-- 'laws.FnSummed', WHERE WHAT IT READS IS OF BULK AT MOST 1048576: true; the input reads as it did. -/
def fnSummedUptoRow : OpenClaim := { program := "ytgbmlkfdojiaoaa", sum := "5f77b5d44b7d049944c634f0ea3fbd325ac7535ac0020f7dab66e111f04d0f54", func := "loop.example/g03223/laws.FnSummed", spec := "fnSummed", recurses := true, apart := false, narrowed := true }
def FnSummedUptoSaid : Prop := fnSummedUptoRow.holds Try.pinned (OpenSpec.upto fnSummedSpec)

/-- 'laws.FnExactStepsOf', WHERE WHAT IT READS IS OF BULK AT MOST 1048576: true; the input reads as it did. -/
def fnExactStepsOfUptoRow : OpenClaim := { program := "ytgbmlkfdojiaoaa", sum := "5f77b5d44b7d049944c634f0ea3fbd325ac7535ac0020f7dab66e111f04d0f54", func := "loop.example/g03223/laws.FnExactStepsOf", spec := "fnExactStepsOf", inPlace := ["math.Float32bits"], apart := false, narrowed := true }
def FnExactStepsOfUptoSaid : Prop := fnExactStepsOfUptoRow.holds Try.pinned (OpenSpec.upto fnExactStepsOfSpec)

/-- 'laws.FnExactFromSteps', WHERE WHAT IT READS IS OF BULK AT MOST 1048576: true; the input reads as it did. -/
def fnExactFromStepsUptoRow : OpenClaim := { program := "ytgbmlkfdojiaoaa", sum := "5f77b5d44b7d049944c634f0ea3fbd325ac7535ac0020f7dab66e111f04d0f54", func := "loop.example/g03223/laws.FnExactFromSteps", spec := "fnExactFromSteps", inPlace := ["math.Float32frombits"], apart := false, narrowed := true }
def FnExactFromStepsUptoSaid : Prop := fnExactFromStepsUptoRow.holds Try.pinned (OpenSpec.upto fnExactFromStepsSpec)

/-- 'laws.FnExactNextUp', WHERE WHAT IT READS IS OF BULK AT MOST 1048576: true; the input reads as it did. -/
def fnExactNextUpUptoRow : OpenClaim := { program := "ytgbmlkfdojiaoaa", sum := "5f77b5d44b7d049944c634f0ea3fbd325ac7535ac0020f7dab66e111f04d0f54", func := "loop.example/g03223/laws.FnExactNextUp", spec := "fnExactNextUp", inPlace := ["math.Float32bits", "math.Float32frombits"], apart := false, narrowed := true }
def FnExactNextUpUptoSaid : Prop := fnExactNextUpUptoRow.holds Try.pinned (OpenSpec.upto fnExactNextUpSpec)

/-- 'laws.FnExactNextDown', WHERE WHAT IT READS IS OF BULK AT MOST 1048576: true; the input reads as it did. -/
def fnExactNextDownUptoRow : OpenClaim := { program := "ytgbmlkfdojiaoaa", sum := "5f77b5d44b7d049944c634f0ea3fbd325ac7535ac0020f7dab66e111f04d0f54", func := "loop.example/g03223/laws.FnExactNextDown", spec := "fnExactNextDown", inPlace := ["math.Float32bits", "math.Float32frombits"], apart := false, narrowed := true }
def FnExactNextDownUptoSaid : Prop := fnExactNextDownUptoRow.holds Try.pinned (OpenSpec.upto fnExactNextDownSpec)

/-- 'laws.FnExactStepsBetween', WHERE WHAT IT READS IS OF BULK AT MOST 1048576: true; the input reads as it did. -/
def fnExactStepsBetweenUptoRow : OpenClaim := { program := "ytgbmlkfdojiaoaa", sum := "5f77b5d44b7d049944c634f0ea3fbd325ac7535ac0020f7dab66e111f04d0f54", func := "loop.example/g03223/laws.FnExactStepsBetween", spec := "fnExactStepsBetween", inPlace := ["math.Float32bits"], apart := false, narrowed := true }
def FnExactStepsBetweenUptoSaid : Prop := fnExactStepsBetweenUptoRow.holds Try.pinned (OpenSpec.upto fnExactStepsBetweenSpec)

/-- 'laws.FnExactIsSubnormal', WHERE WHAT IT READS IS OF BULK AT MOST 1048576: true; the input reads as it did. -/
def fnExactIsSubnormalUptoRow : OpenClaim := { program := "ytgbmlkfdojiaoaa", sum := "5f77b5d44b7d049944c634f0ea3fbd325ac7535ac0020f7dab66e111f04d0f54", func := "loop.example/g03223/laws.FnExactIsSubnormal", spec := "fnExactIsSubnormal", apart := false, narrowed := true }
def FnExactIsSubnormalUptoSaid : Prop := fnExactIsSubnormalUptoRow.holds Try.pinned (OpenSpec.upto fnExactIsSubnormalSpec)

/-- 'laws.FnExactFlushSmall', WHERE WHAT IT READS IS OF BULK AT MOST 1048576: true; the input reads as it did. -/
def fnExactFlushSmallUptoRow : OpenClaim := { program := "ytgbmlkfdojiaoaa", sum := "5f77b5d44b7d049944c634f0ea3fbd325ac7535ac0020f7dab66e111f04d0f54", func := "loop.example/g03223/laws.FnExactFlushSmall", spec := "fnExactFlushSmall", inPlace := ["math.Float32bits", "math.Float32frombits"], apart := false, narrowed := true }
def FnExactFlushSmallUptoSaid : Prop := fnExactFlushSmallUptoRow.holds Try.pinned (OpenSpec.upto fnExactFlushSmallSpec)

/-- 'laws.FnExactHalveSingle', WHERE WHAT IT READS IS OF BULK AT MOST 1048576: true; the input reads as it did. -/
def fnExactHalveSingleUptoRow : OpenClaim := { program := "ytgbmlkfdojiaoaa", sum := "5f77b5d44b7d049944c634f0ea3fbd325ac7535ac0020f7dab66e111f04d0f54", func := "loop.example/g03223/laws.FnExactHalveSingle", spec := "fnExactHalveSingle", apart := false, narrowed := true }
def FnExactHalveSingleUptoSaid : Prop := fnExactHalveSingleUptoRow.holds Try.pinned (OpenSpec.upto fnExactHalveSingleSpec)

/-- 'laws.FnExactLosesHalf', WHERE WHAT IT READS IS OF BULK AT MOST 1048576: true; the input reads as it did. -/
def fnExactLosesHalfUptoRow : OpenClaim := { program := "ytgbmlkfdojiaoaa", sum := "5f77b5d44b7d049944c634f0ea3fbd325ac7535ac0020f7dab66e111f04d0f54", func := "loop.example/g03223/laws.FnExactLosesHalf", spec := "fnExactLosesHalf", apart := false, narrowed := true }
def FnExactLosesHalfUptoSaid : Prop := fnExactLosesHalfUptoRow.holds Try.pinned (OpenSpec.upto fnExactLosesHalfSpec)

/-- 'laws.FnExactTwoSum', WHERE WHAT IT READS IS OF BULK AT MOST 1048576: true; the input reads as it did. -/
def fnExactTwoSumUptoRow : OpenClaim := { program := "ytgbmlkfdojiaoaa", sum := "5f77b5d44b7d049944c634f0ea3fbd325ac7535ac0020f7dab66e111f04d0f54", func := "loop.example/g03223/laws.FnExactTwoSum", spec := "fnExactTwoSum", apart := false, narrowed := true }
def FnExactTwoSumUptoSaid : Prop := fnExactTwoSumUptoRow.holds Try.pinned (OpenSpec.upto fnExactTwoSumSpec)

/-- 'laws.FnExactSumForward', WHERE WHAT IT READS IS OF BULK AT MOST 1048576: true; the input reads as it did. -/
def fnExactSumForwardUptoRow : OpenClaim := { program := "ytgbmlkfdojiaoaa", sum := "5f77b5d44b7d049944c634f0ea3fbd325ac7535ac0020f7dab66e111f04d0f54", func := "loop.example/g03223/laws.FnExactSumForward", spec := "fnExactSumForward", apart := false, narrowed := true }
def FnExactSumForwardUptoSaid : Prop := fnExactSumForwardUptoRow.holds Try.pinned (OpenSpec.upto fnExactSumForwardSpec)

/-- 'laws.FnExactSumPairs', WHERE WHAT IT READS IS OF BULK AT MOST 1048576: true; the input reads as it did. -/
def fnExactSumPairsUptoRow : OpenClaim := { program := "ytgbmlkfdojiaoaa", sum := "5f77b5d44b7d049944c634f0ea3fbd325ac7535ac0020f7dab66e111f04d0f54", func := "loop.example/g03223/laws.FnExactSumPairs", spec := "fnExactSumPairs", recurses := true, apart := false, narrowed := true }
def FnExactSumPairsUptoSaid : Prop := fnExactSumPairsUptoRow.holds Try.pinned (OpenSpec.upto fnExactSumPairsSpec)

/-- 'laws.FnExactSumSteady', WHERE WHAT IT READS IS OF BULK AT MOST 1048576: true; the input reads as it did. -/
def fnExactSumSteadyUptoRow : OpenClaim := { program := "ytgbmlkfdojiaoaa", sum := "5f77b5d44b7d049944c634f0ea3fbd325ac7535ac0020f7dab66e111f04d0f54", func := "loop.example/g03223/laws.FnExactSumSteady", spec := "fnExactSumSteady", apart := false, narrowed := true }
def FnExactSumSteadyUptoSaid : Prop := fnExactSumSteadyUptoRow.holds Try.pinned (OpenSpec.upto fnExactSumSteadySpec)

/-- 'laws.FnExactSumDouble', WHERE WHAT IT READS IS OF BULK AT MOST 1048576: true; the input reads as it did. -/
def fnExactSumDoubleUptoRow : OpenClaim := { program := "ytgbmlkfdojiaoaa", sum := "5f77b5d44b7d049944c634f0ea3fbd325ac7535ac0020f7dab66e111f04d0f54", func := "loop.example/g03223/laws.FnExactSumDouble", spec := "fnExactSumDouble", apart := false, narrowed := true }
def FnExactSumDoubleUptoSaid : Prop := fnExactSumDoubleUptoRow.holds Try.pinned (OpenSpec.upto fnExactSumDoubleSpec)

end Rows
end Go.Proofs.Ytgbmlkfdojiaoaa
