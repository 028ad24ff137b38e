/- The contract of the program's own list of the elements of a set. -/
import Derived.Test.YtaacofbmbpkeoaaDoorEachL
import Derived.Test.YtaacofbmbpkeoaaDoorLST
namespace Go.Proofs.YtaacofbmbpkeoaaDoor
open Go.RowKit Go.Shelf
attribute [local go_sem] Oper.semAt_some
set_option maxRecDepth 1000000
end Go.Proofs.YtaacofbmbpkeoaaDoor
