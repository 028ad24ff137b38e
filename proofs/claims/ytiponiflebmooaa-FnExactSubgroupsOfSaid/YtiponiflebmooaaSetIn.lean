/- The contracts of the program's own functions on sets: setIn, IsSet, FullSet, CountSet. -/
import Derived.Test.YtiponiflebmooaaSetBits
import Derived.Test.YtiponiflebmooaaSetSpec
import Derived.Test.YtiponiflebmooaaGrpIn
namespace Go.Proofs.Ytiponiflebmooaa
open Go.RowKit
set_option maxRecDepth 1000000
theorem below_set3a {B b : Nat} {w0 w : World} {x y z : Value} (h : Below B w0 w) (hb : B ≤ b) : Below B w0 (((w.setCell ⟨b, 0, none⟩ x).setCell ⟨b, 1, none⟩ y).setCell ⟨b, 2, none⟩ z) := below_set3 h hb
/-- What setIn answers. -/
def SetInPost (l : List Int) (s : Int) (w : World) (e : Ending) (w' : World) : Prop :=
  ∃ p q r v, e = .returned (.tuple #[tV p q r, .int .u64 v, .bool (isS l s)]) ∧ (isS l s = true → p = l.getD 0 1 ∧ q = l.getD 1 1 ∧ r = l.getD 2 1 ∧ v = s) ∧ Below w.heap.size w w'
/-- The number of the full set; 0 of what is no group. -/
def fullE (l : List Int) : Int := if grpB l = true then fullN l else 0
end Go.Proofs.Ytiponiflebmooaa
