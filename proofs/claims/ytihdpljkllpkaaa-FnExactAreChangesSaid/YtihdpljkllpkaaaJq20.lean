/- Any number that is drawn. -/
import Derived.Test.YtihdpljkllpkaaaJq19
namespace Go.Proofs.Ytihdpljkllpkaaa
open Go.RowKit

/-- A number of single precision comes back; old memory is as it was. -/
def MakesFloat (w : World) (e : Ending) (w' : World) : Prop := ∃ r, e = .returned (.float .f32 r) ∧ r < 4294967296 ∧ Below w.heap.size w w'
end Go.Proofs.Ytihdpljkllpkaaa
