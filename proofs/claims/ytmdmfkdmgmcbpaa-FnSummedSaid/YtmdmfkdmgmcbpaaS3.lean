import Derived.Test.YtmdmfkdmgmcbpaaS2
import Derived.Deep.RegionWith
namespace Go.Proofs.Ytmdmfkdmgmcbpaa
open Go.RowKit

end Go.Proofs.Ytmdmfkdmgmcbpaa
