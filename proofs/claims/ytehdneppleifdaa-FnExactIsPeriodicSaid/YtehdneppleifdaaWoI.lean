/- The contract of the program's own set without an element. -/
import Derived.Test.YtehdneppleifdaaShiftN
import Derived.Test.YtehdneppleifdaaSumMath
namespace Go.Proofs.Ytehdneppleifdaa
open Go.RowKit
attribute [local go_sem] Oper.semAt_some
set_option maxRecDepth 1000000
end Go.Proofs.Ytehdneppleifdaa
