/- The contract of the program's own ListOf. -/
import Derived.Test.YtehdneppleifdabDoorLst
import Derived.Test.YtehdneppleifdabDoorLstSpec
namespace Go.Proofs.YtehdneppleifdabDoor
open Go.RowKit
set_option maxRecDepth 1000000
end Go.Proofs.YtehdneppleifdabDoor
