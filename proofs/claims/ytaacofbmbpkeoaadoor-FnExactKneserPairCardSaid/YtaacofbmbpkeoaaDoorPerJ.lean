/- The contracts of the program's own StabilizerOf, IsPeriodic, PeriodsOf. -/
import Derived.Test.YtaacofbmbpkeoaaDoorPerI
import Derived.Test.YtaacofbmbpkeoaaDoorLst
import Derived.Test.YtaacofbmbpkeoaaDoorWoI
import Derived.Test.YtaacofbmbpkeoaaDoorSetIn
namespace Go.Proofs.YtaacofbmbpkeoaaDoor
open Go.RowKit Go.Shelf
attribute [local go_sem] Oper.semAt_some
set_option maxRecDepth 1000000
end Go.Proofs.YtaacofbmbpkeoaaDoor
