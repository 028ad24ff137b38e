/- The contracts of the program's own functions on groups: IsGroup, OrderOf, the places of an element. -/
import Derived.Test.YthlpjiibjlaebaaDoorGrpTri
namespace Go.Proofs.YthlpjiibjlaebaaDoor
open Go.RowKit
set_option maxRecDepth 1000000
theorem keepH {B k : Nat} {w w' : World} {o : Obj} (hb : Below B w w') (hk : k < B) (h : w.heap[k]? = some o) : w'.heap[k]? = some o := (hb.block k hk).trans h
end Go.Proofs.YthlpjiibjlaebaaDoor
