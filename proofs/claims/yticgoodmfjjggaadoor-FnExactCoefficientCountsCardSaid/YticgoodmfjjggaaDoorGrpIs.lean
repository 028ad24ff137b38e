/- The contract of the program's own IsGroup. -/
import Derived.Test.YticgoodmfjjggaaDoorGrpImpl
namespace Go.Proofs.YticgoodmfjjggaaDoor
open Go.RowKit
set_option maxRecDepth 1000000
theorem keepD {w w' : World} {p : Addr} {v : Value} (hb : Below w.heap.size w w') (h : w.cell? p = some v) : w'.cell? p = some v := keepC hb (World.block_lt_of_cell? w _ h) h
end Go.Proofs.YticgoodmfjjggaaDoor
