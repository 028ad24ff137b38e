/- The contracts of the program's own CosetsOf and CosetNumber. -/
import Derived.Test.YtehdneppleifdaaDoorCosI
namespace Go.Proofs.YtehdneppleifdaaDoor
open Go.RowKit Go.Shelf
attribute [local go_sem] Oper.semAt_some
set_option maxRecDepth 1000000
theorem isE_el {l : List Int} (hg : grpB l = true) {x : Int} (h0 : 0 ≤ x) (h1 : x < prodI l) : isE l x = true := by
  simp only [isE, ordN_grp hg, Bool.and_eq_true, decide_eq_true_eq]
  exact ⟨h0, h1⟩
theorem repE_yes {l : List Int} {s : Nat} (h : sgB l (s : Int) = true) : cosE l (s : Int) = NLi (cosN l s (repsK l s (prodI l).toNat)) := by
  unfold cosE
  rw [if_pos h, Int.toNat_natCast, cosN_ints]
theorem find_congr {p q : Nat → Bool} : ∀ (R : List Nat), (∀ y ∈ R, p y = q y) → R.findIdx? p = R.findIdx? q
  | [], _ => rfl
  | x :: R, h => by
    rw [List.findIdx?_cons, List.findIdx?_cons, h x (by simp), find_congr R (fun y hy => h y (by simp [hy]))]
/-- The number of an element's coset is the place of the subgroup's shift by it. -/
theorem num_idx {l : List Int} (hg : grpB l = true) {s x : Nat} (hs : IsSg l s) (hx : (x : Int) < prodI l) :
    idxN (cosN l s (repsK l s (prodI l).toNat)) (movN l s x) = (match (repsK l s (prodI l).toNat).findIdx? (fun y => (movN l s y).testBit x) with | some i => ((i : Nat) : Int) | none => -1) := by
  have hf : ∀ y ∈ repsK l s (prodI l).toNat, ((fun y => y == movN l s x) ∘ fun y => movN l s y) y = (fun y => (movN l s y).testBit x) y := fun y hy => by
    have hyl := reps_lt l s (prodI l).toNat y hy
    have hyp : (y : Int) < prodI l := by omega
    simp only [Function.comp]
    rw [Bool.eq_iff_iff, beq_iff_eq]
    constructor
    · intro e
      rw [e]; exact coset_holds hg hs hx
    · intro e
      exact coset_same hg hs hyp e
  unfold idxN cosN
  rw [List.findIdx?_map, find_congr _ hf]
  generalize List.findIdx? _ _ = o
  cases o <;> rfl
end Go.Proofs.YtehdneppleifdaaDoor
