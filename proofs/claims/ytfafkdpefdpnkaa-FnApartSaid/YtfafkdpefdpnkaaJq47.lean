/- The program's pools: a lease is put in the first free place. -/
import Derived.Test.YtfafkdpefdpnkaaJq46
import Derived.Test.YtfafkdpefdpnkaaJq44
namespace Go.Proofs.Ytfafkdpefdpnkaa
open Go.RowKit
end Go.Proofs.Ytfafkdpefdpnkaa
