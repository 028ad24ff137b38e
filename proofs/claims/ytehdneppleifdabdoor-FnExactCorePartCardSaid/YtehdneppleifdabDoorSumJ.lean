/- The program's own sums of sets: both arguments read, SumOfSets, DifferenceOfSets, MultipleSum. -/
import Derived.Test.YtehdneppleifdabDoorSumI
import Derived.Test.YtehdneppleifdabDoorSetDil
namespace Go.Proofs.YtehdneppleifdabDoor
open Go.RowKit
set_option maxRecDepth 1000000
/-- What setsIn answers. -/
def SetsInPost (l : List Int) (s t : Int) (w : World) (e : Ending) (w' : World) : Prop :=
  ∃ p q r u v, e = .returned (.tuple #[tV p q r, .int .u64 u, .int .u64 v, .bool (two l s t)]) ∧ (two l s t = true → p = l.getD 0 1 ∧ q = l.getD 1 1 ∧ r = l.getD 2 1 ∧ u = s ∧ v = t) ∧ Below w.heap.size w w'
end Go.Proofs.YtehdneppleifdabDoor
