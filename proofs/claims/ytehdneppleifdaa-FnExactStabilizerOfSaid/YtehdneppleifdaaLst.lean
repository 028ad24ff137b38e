/- The contract of the program's own list of the elements of a set. -/
import Derived.Test.YtehdneppleifdaaEachL
import Derived.Test.YtehdneppleifdaaLstN
namespace Go.Proofs.Ytehdneppleifdaa
open Go.RowKit Go.Shelf
attribute [local go_sem] Oper.semAt_some
set_option maxRecDepth 1000000
end Go.Proofs.Ytehdneppleifdaa
