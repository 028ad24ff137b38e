/- The contract of the program's own ShiftSet. -/
import Derived.Test.YtaacofbmbpkeoaaDoorShiftN
import Derived.Test.YtaacofbmbpkeoaaDoorDilSpec
namespace Go.Proofs.YtaacofbmbpkeoaaDoor
open Go.RowKit
set_option maxRecDepth 1000000
theorem sh_tri {l : List Int} (h : grpB l = true) (x : Int) (L : List Nat) :
    orF (fun y => addN l (y : Int) x) L = orF (shF (l.getD 0 1) (l.getD 1 1) (l.getD 2 1) (x % l.getD 0 1) (x / l.getD 0 1 % l.getD 1 1) (x / l.getD 0 1 / l.getD 1 1 % l.getD 2 1)) L :=
  orF_congr _ _ L (fun y _ => by
    have := (tri_grp h).p1
    rw [add_tri (grpB_true h).1 (y : Int) x (by omega)]; rfl)
end Go.Proofs.YtaacofbmbpkeoaaDoor
