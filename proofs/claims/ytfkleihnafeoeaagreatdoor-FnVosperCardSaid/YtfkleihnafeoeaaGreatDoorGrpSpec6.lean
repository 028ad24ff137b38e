/- The contracts of the document's reading of groups (spec): places of an element, the element of places. -/
import Derived.Test.YtfkleihnafeoeaaGreatDoorGrpSpec5
import Derived.Deep.QuietTactic
namespace Go.Proofs.YtfkleihnafeoeaaGreatDoor
open Go.RowKit
set_option maxRecDepth 1000000
theorem below_grown {w w' : World} (h : Below w.heap.size w w') (row : Option Nat) : w.grownBy w' row := ⟨h.os, h.tape, h.output, h.size, fun k hk _ => h.block k hk⟩
theorem owns_below {w w' : World} {B n : Nat} {e : TypeId} {v : Value} {xs : List Value} (h : w.ownsRow B e 1 v n xs) (hb : Below w.heap.size w w') : w'.ownsRow B e 1 v n xs :=
  h.kept (below_grown hb none) (by cases hv : v.ownBlock with
    | none => exact .inl rfl
    | some g => exact .inr (by simp))
/-- The places of an element. -/
def plc (l : List Int) (x : Int) : List Int := if isE l x = true then (List.range l.length).map (dig l x) else []
theorem isE_quo {l : List Int} {x : Int} (h : isE l x = true) {k : Nat} (hk : k ≤ l.length) : isE l (x / PK l k) = true := by
  obtain ⟨hg, h0, h1, h2⟩ := isE_true h
  obtain ⟨p1, p2⟩ := PK_grp hg k hk
  obtain ⟨q1, q2⟩ := quo_bnd h0 p1
  have e := ordN_grp hg
  simp only [isE, Bool.and_eq_true, decide_eq_true_eq]
  omega
/-- Places that are those of an element. -/
def ElemP (l p : List Int) : Prop := grpB l = true ∧ p.length = l.length ∧ ∀ j, j < l.length → 0 ≤ p.getD j 0 ∧ p.getD j 0 < l.getD j 0
instance (l p : List Int) : Decidable (ElemP l p) := by unfold ElemP; infer_instance
def elemV (l p : List Int) : Int := if ElemP l p then valK l (fun j => p.getD j 0) l.length else 0
theorem horner_bnd {x c p M : Int} (hx : 0 ≤ x) (hM : x + 1 ≤ M) (hp : 0 ≤ p) (hpc : p < c) (hc : c ≤ 24) : 0 ≤ x * c ∧ 0 ≤ x * c + p ∧ x * c + p + 1 ≤ M * 24 := by
  have h1 : 0 ≤ x * c := Int.mul_nonneg hx (by omega)
  have h2 : (x + 1) * c ≤ M * 24 := Int.mul_le_mul hM hc (by omega) (by omega)
  rw [Int.add_mul, Int.one_mul] at h2
  omega
end Go.Proofs.YtfkleihnafeoeaaGreatDoor
