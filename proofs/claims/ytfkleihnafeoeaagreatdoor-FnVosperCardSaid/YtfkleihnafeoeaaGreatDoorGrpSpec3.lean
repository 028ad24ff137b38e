/- The contracts of the document's reading of groups (spec): sums, negatives, multiples and orders of elements. -/
import Derived.Test.YtfkleihnafeoeaaGreatDoorGrpMath2
namespace Go.Proofs.YtfkleihnafeoeaaGreatDoor
open Go.RowKit
set_option maxRecDepth 1000000
/-- Whether x is an element. -/
def isE (l : List Int) (x : Int) : Bool := decide (0 ≤ x) && decide (x < ordN l)
theorem isE_true {l : List Int} {x : Int} (h : isE l x = true) : grpB l = true ∧ 0 ≤ x ∧ x < prodI l ∧ x ≤ 23 := by
  simp only [isE, Bool.and_eq_true, decide_eq_true_eq] at h
  cases hg : grpB l with
  | false => rw [ordN_no hg] at h; omega
  | true =>
    rw [ordN_grp hg] at h
    have := (grpB_true hg).2.2
    exact ⟨rfl, h.1, h.2, by omega⟩
/-- The document's sum. -/
def addE (l : List Int) (x y : Int) : Int := if isE l x = true then (if isE l y = true then addN l x y else -1) else -1
end Go.Proofs.YtfkleihnafeoeaaGreatDoor
