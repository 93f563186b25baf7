/- Nothing of the library's contracts is met here. -/
import Derived.Test.YtealnolpcoalgaaProg
import Derived.Shelf.SlicesE.Delete
namespace Go.Proofs
end Go.Proofs
