/- Merged: DGrp DGrp2. -/
import Derived.Test.YtehdneppleifdaaDoorMGAF
import Derived.Deep.RegionHeld3
namespace Go.Proofs.YtehdneppleifdaaDoor
open Go.RowKit
set_option maxRecDepth 1000000
/-- A drawn group, in the results. -/
def DGrp (w : World) (u : Value) (l : List Int) (w' : World) : Prop := w'.ownsRow w.heap.size 3 1 u l.length (l.map (Value.int .i64)) ∧ l.length ≤ 4 ∧ Below w.heap.size w w'
def DrawnGI (w : World) (e : Ending) (w' : World) : Prop := ∃ (u : Value) (l : List Int) (x : Int), e = .returned (.tuple #[.agg #[u], .int .i64 x]) ∧ -9223372036854775808 ≤ x ∧ x ≤ 9223372036854775807 ∧ DGrp w u l w'
end Go.Proofs.YtehdneppleifdaaDoor

namespace Go.Proofs.YtehdneppleifdaaDoor
open Go.RowKit
set_option maxRecDepth 1000000
/-- A result's variable, the drawn group in another one. -/
theorem hand_on {w w1 : World} {u : Value} {l : List Int} (hb : Below w.heap.size w w1) (h : w1.ownsRow (w.heap.size + 1) 3 1 u l.length (l.map (Value.int .i64))) :
    (w1.setCell ⟨w.heap.size, 0, none⟩ u).ownsRow w.heap.size 3 1 u l.length (l.map (Value.int .i64)) ∧ Below w.heap.size w (w1.setCell ⟨w.heap.size, 0, none⟩ u) :=
  ⟨ownsRow_lower (ownsRow_setCell_below (a := ⟨w.heap.size, 0, none⟩) h (by show w.heap.size < _; omega) _) (by omega), below_newset hb (Nat.le_refl _) _⟩
end Go.Proofs.YtehdneppleifdaaDoor
