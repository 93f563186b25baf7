/- Encoding, and places in lists. -/
import Derived.Test.YtealnolpcoalgaaN4
namespace Go.Proofs.Ytealnolpcoalgaa
open Go.RowKit

/-- How each label is encoded. -/
def Encoded (t : Tab) (ns : List Int) (zs : List Cx) : Prop :=
  zs.length = ns.length ∧ ∀ (j : Nat) (n : Int), ns[j]? = some n → ∃ (i : Nat) (z : Cx), t.2[i]? = some n ∧ (∀ k, k < i → t.2[k]? ≠ some n) ∧ t.1[i]? = some z ∧ zs[j]? = some z

end Go.Proofs.Ytealnolpcoalgaa
