/- A range over the program's iterator of a set, taken as a method value (the receiver bound): what the caller owes for the statement: an invariant over the elements that have come, and its body in one round. -/
import Derived.Test.YtehdneppleifdaaEach
namespace Go.Proofs.Ytehdneppleifdaa
open Go.RowKit Go.Shelf
set_option maxRecDepth 1000000
/-- How the body of a round ends: it goes on; what is no cells lies as it lay; the invariant holds of one element more. -/
def eachPost (I : List Nat → World → Prop) (xs : List Nat) (W : World) : Exit → Act → World → Prop := fun e _ W' => e = .normal ∧ KeepsOthers W W' ∧ I xs W'
end Go.Proofs.Ytehdneppleifdaa
