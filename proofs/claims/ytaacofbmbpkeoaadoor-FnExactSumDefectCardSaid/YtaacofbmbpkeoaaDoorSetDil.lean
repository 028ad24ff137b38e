/- The contracts of the program's own ShiftSet, NegateSet, DilateSet. -/
import Derived.Test.YtaacofbmbpkeoaaDoorDil
import Derived.Test.YtaacofbmbpkeoaaDoorShiftSet
import Derived.Test.YtaacofbmbpkeoaaDoorDilSpec
namespace Go.Proofs.YtaacofbmbpkeoaaDoor
open Go.RowKit
set_option maxRecDepth 1000000
theorem dl_tri {l : List Int} (h : grpB l = true) (k : Int) (L : List Nat) :
    orF (fun y => mulN l (y : Int) k) L = orF (dilF (l.getD 0 1) (l.getD 1 1) (l.getD 2 1) k) L :=
  orF_congr _ _ L (fun y _ => by
    have := (tri_grp h).p1
    rw [mul_tri (grpB_true h).1 (y : Int) k (by omega)]; rfl)
end Go.Proofs.YtaacofbmbpkeoaaDoor
