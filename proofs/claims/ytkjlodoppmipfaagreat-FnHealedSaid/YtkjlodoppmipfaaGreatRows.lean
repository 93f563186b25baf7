/-
  No cell of these rows narrows 'for every input' (looked for: loops, veiled, ifaces, maps, wideKeys, modest, calm, conditions, laid).
  DERIVED. THE GIVEN ROWS OF THIS SEAT. 3 by the template 'for every input the law returns true; each argument reads behind the call as it read before'; 0 by the template 'total and deterministic' (their statements: YtkjlodoppmipfaaGreatTotals.lean).
  GIVEN WITH THE SEED: the statements are not yours to turn. If you find one false, say at which input.
  Laid BY PROGRAM, IN A SANDBOX (cutbox-rows.mjs): the forced cells as the released guide's own fill.sh prints them over the translation 66658dfa3990e9f3… (all of the seat's roots in one cut). By AI agents, Wed Nov 11 2026. No macro, syntax, notation, axiom, sorry.
-/
import Derived.Test.YtkjlodoppmipfaaGreatChecked
import GoSem.Claim
import GoSem.ClaimJoined
import GoSem.ClaimMapViews
import Derived.JoinedTies
import Derived.KernelRfl
namespace Go.Proofs.YtkjlodoppmipfaaGreat
/- THE CELL 'sum', in the pinned program and in every row, IS THE sha256 OF THE DUMP (.gsa) THAT YtkjlodoppmipfaaGreatProg.lean LOADS. Nothing in Lean hashes anything: it is a label: what it is worth is what the hold of that sum in a sandbox is worth. -/
noncomputable def Tryz.pinned : Pinned := { name := "ytkjlodoppmipfaagreat", sum := "66658dfa3990e9f3107579a9632ed85418ebdb5db6f7362f36a6ac0823511d2e", checked := Tryz.checked }
namespace Rows
def none {H : Type} : Left H := { results := [], args := [] }

/-- 'laws.FnHealed': WHATEVER THE INPUT: true; the input reads as it did. -/
def fnHealedSpec : ChangeSpec := { name := "fnHealed", fn := fun _ => fun
  | [d] => { results := [.lit (.bool true)], args := [d] }
  | _ => none }
def fnHealedRow : OpenClaim := { program := "ytkjlodoppmipfaagreat", sum := "66658dfa3990e9f3107579a9632ed85418ebdb5db6f7362f36a6ac0823511d2e", func := "loop.example/g03223/laws.FnHealed", spec := "fnHealed", inPlace := ["math.Float32bits", "math.Float32frombits"], unfollowed := true, recurses := true, apart := false }
def FnHealedSaid : Prop := fnHealedRow.holds Tryz.pinned (OpenSpec.ofChange fnHealedSpec)

/-- ITS FALSE NEIGHBOUR: 'it returns false'. Refute it at one input. -/
def fnHealedWrong : ChangeSpec := { name := "fnHealed", fn := fun _ => fun
  | [d] => { results := [.lit (.bool false)], args := [d] }
  | _ => none }
def FnHealedWrongFalsely : Prop := fnHealedRow.holds Tryz.pinned (OpenSpec.ofChange fnHealedWrong)

/-- 'laws.FnHeld': WHATEVER THE INPUT: true; the input reads as it did. -/
def fnHeldSpec : ChangeSpec := { name := "fnHeld", fn := fun _ => fun
  | [d] => { results := [.lit (.bool true)], args := [d] }
  | _ => none }
def fnHeldRow : OpenClaim := { program := "ytkjlodoppmipfaagreat", sum := "66658dfa3990e9f3107579a9632ed85418ebdb5db6f7362f36a6ac0823511d2e", func := "loop.example/g03223/laws.FnHeld", spec := "fnHeld", inPlace := ["math.Float32bits"], unfollowed := true, recurses := true, apart := false }
def FnHeldSaid : Prop := fnHeldRow.holds Tryz.pinned (OpenSpec.ofChange fnHeldSpec)

/-- ITS FALSE NEIGHBOUR: 'it returns false'. Refute it at one input. -/
def fnHeldWrong : ChangeSpec := { name := "fnHeld", fn := fun _ => fun
  | [d] => { results := [.lit (.bool false)], args := [d] }
  | _ => none }
def FnHeldWrongFalsely : Prop := fnHeldRow.holds Tryz.pinned (OpenSpec.ofChange fnHeldWrong)

/-- 'laws.FnMuted': WHATEVER THE INPUT: true; the input reads as it did. -/
def fnMutedSpec : ChangeSpec := { name := "fnMuted", fn := fun _ => fun
  | [d] => { results := [.lit (.bool true)], args := [d] }
  | _ => none }
def fnMutedRow : OpenClaim := { program := "ytkjlodoppmipfaagreat", sum := "66658dfa3990e9f3107579a9632ed85418ebdb5db6f7362f36a6ac0823511d2e", func := "loop.example/g03223/laws.FnMuted", spec := "fnMuted", inPlace := ["math.Float32bits", "math.Float32frombits"], unfollowed := true, recurses := true, apart := false }
def FnMutedSaid : Prop := fnMutedRow.holds Tryz.pinned (OpenSpec.ofChange fnMutedSpec)

/-- ITS FALSE NEIGHBOUR: 'it returns false'. Refute it at one input. -/
def fnMutedWrong : ChangeSpec := { name := "fnMuted", fn := fun _ => fun
  | [d] => { results := [.lit (.bool false)], args := [d] }
  | _ => none }
def FnMutedWrongFalsely : Prop := fnMutedRow.holds Tryz.pinned (OpenSpec.ofChange fnMutedWrong)

/- THE SECOND FORM. 'bulk': how many values and letters a reading holds, each counted each time it is reached (what is shared counts as often as it is met; a slice's spare places count too). A statement '..UptoSaid' is the law's where the arguments, and the package variables that the reading takes, are together of bulk at most 1048576: NARROWER than '..Said'. Prove '..Said' where nothing that the law and all that it calls make is longer than what came in: it says more and counts as full. Else prove '..UptoSaid'. A law counts once. -/
mutual
def uptoBulk {H : Type} : DataW H → Nat
  | .lit (.string bytes) => bytes.length + 1
  | .lit _ => 1
  | .nil => 1
  | .ptr d => uptoBulk d + 1
  | .slice elems spare => uptoBulkAll elems + uptoBulkAll spare + 1
  | .agg parts => uptoBulkAll parts + 1
  | .iface _ d => uptoBulk d + 1
  | .map entries => uptoBulkEntries entries + 1
  | .held _ => 1
def uptoBulkAll {H : Type} : List (DataW H) → Nat
  | [] => 0
  | d :: r => uptoBulk d + uptoBulkAll r
def uptoBulkEntries {H : Type} : List (Lit × DataW H) → Nat
  | [] => 0
  | x :: r => uptoBulkEntry x + uptoBulkEntries r
def uptoBulkEntry {H : Type} : Lit × DataW H → Nat
  | (.string bytes, d) => bytes.length + uptoBulk d + 1
  | (_, d) => uptoBulk d + 1
 end
def uptoSmall : (H : Type) → List (DataW H) → Bool := fun _ ds => decide (uptoBulkAll ds ≤ 1048576)
def OpenSpec.upto (s : _root_.Go.ChangeSpec) : _root_.Go.OpenSpec := { _root_.Go.OpenSpec.ofChange s with cond := some uptoSmall }

/-- 'laws.FnHealed', WHERE WHAT IT READS IS OF BULK AT MOST 1048576: true; the input reads as it did. -/
def fnHealedUptoRow : OpenClaim := { program := "ytkjlodoppmipfaagreat", sum := "66658dfa3990e9f3107579a9632ed85418ebdb5db6f7362f36a6ac0823511d2e", func := "loop.example/g03223/laws.FnHealed", spec := "fnHealed", inPlace := ["math.Float32bits", "math.Float32frombits"], unfollowed := true, recurses := true, apart := false, narrowed := true }
def FnHealedUptoSaid : Prop := fnHealedUptoRow.holds Tryz.pinned (OpenSpec.upto fnHealedSpec)

/-- 'laws.FnHeld', WHERE WHAT IT READS IS OF BULK AT MOST 1048576: true; the input reads as it did. -/
def fnHeldUptoRow : OpenClaim := { program := "ytkjlodoppmipfaagreat", sum := "66658dfa3990e9f3107579a9632ed85418ebdb5db6f7362f36a6ac0823511d2e", func := "loop.example/g03223/laws.FnHeld", spec := "fnHeld", inPlace := ["math.Float32bits"], unfollowed := true, recurses := true, apart := false, narrowed := true }
def FnHeldUptoSaid : Prop := fnHeldUptoRow.holds Tryz.pinned (OpenSpec.upto fnHeldSpec)

/-- 'laws.FnMuted', WHERE WHAT IT READS IS OF BULK AT MOST 1048576: true; the input reads as it did. -/
def fnMutedUptoRow : OpenClaim := { program := "ytkjlodoppmipfaagreat", sum := "66658dfa3990e9f3107579a9632ed85418ebdb5db6f7362f36a6ac0823511d2e", func := "loop.example/g03223/laws.FnMuted", spec := "fnMuted", inPlace := ["math.Float32bits", "math.Float32frombits"], unfollowed := true, recurses := true, apart := false, narrowed := true }
def FnMutedUptoSaid : Prop := fnMutedUptoRow.holds Tryz.pinned (OpenSpec.upto fnMutedSpec)

end Rows
end Go.Proofs.YtkjlodoppmipfaaGreat
