/- The document's reading of chapter 5: the cosets of a subgroup, and the number of an element's coset. -/
import Derived.Test.YtfkleihnafeoeaaGreatDoorSubSpec
namespace Go.Proofs.YtfkleihnafeoeaaGreatDoor
open Go.RowKit
set_option maxRecDepth 1000000
/-- The least elements of the cosets below k. -/
def repsK (l : List Int) (h : Nat) : Nat → List Nat
  | 0 => []
  | k + 1 => if (orG (fun y => movN l h y) (repsK l h k)).testBit k = true then repsK l h k else repsK l h k ++ [k]
/-- What their cosets hold. -/
def seenK (l : List Int) (h k : Nat) : Nat := orG (fun y => movN l h y) (repsK l h k)
theorem reps_yes {l : List Int} {h k : Nat} (b : (seenK l h k).testBit k = true) : repsK l h (k + 1) = repsK l h k := if_pos b
theorem reps_no {l : List Int} {h k : Nat} (b : (seenK l h k).testBit k = false) : repsK l h (k + 1) = repsK l h k ++ [k] := if_neg (by rw [show orG (fun y => movN l h y) (repsK l h k) = seenK l h k from rfl, b]; simp)
theorem seen_yes {l : List Int} {h k : Nat} (b : (seenK l h k).testBit k = true) : seenK l h (k + 1) = seenK l h k := by unfold seenK; rw [reps_yes b]
theorem seen_no {l : List Int} {h k : Nat} (b : (seenK l h k).testBit k = false) : seenK l h (k + 1) = seenK l h k ||| movN l h k := by unfold seenK; rw [reps_no b, orG_snoc]
theorem reps_len (l : List Int) (h : Nat) : ∀ k, (repsK l h k).length ≤ k
  | 0 => Nat.le_refl _
  | k + 1 => by
    have := reps_len l h k
    unfold repsK
    split
    · omega
    · simp; omega
theorem reps_lt (l : List Int) (h : Nat) : ∀ k, ∀ x ∈ repsK l h k, x < k
  | 0, x, hx => by cases hx
  | k + 1, x, hx => by
    have ih := reps_lt l h k
    unfold repsK at hx
    split at hx
    · exact Nat.lt_succ_of_lt (ih x hx)
    · rcases List.mem_append.1 hx with h1 | h1
      · exact Nat.lt_succ_of_lt (ih x h1)
      · simp at h1; omega
theorem seen_lt {l : List Int} (hg : grpB l = true) (h k : Nat) : seenK l h k < 2 ^ 24 := grp_pow hg (orG_lt _ _ _ (fun x _ => movN_lt hg h x))
/-- The cosets of a subgroup, by their least elements. -/
def cosL (l : List Int) (h : Nat) (R : List Nat) : List Int := R.map fun y => ((movN l h y : Nat) : Int)
theorem cosL_len (l : List Int) (h : Nat) (R : List Nat) : (cosL l h R).length = R.length := by simp [cosL]
theorem cosL_snoc (l : List Int) (h : Nat) (R : List Nat) (k : Nat) : cosL l h (R ++ [k]) = cosL l h R ++ [((movN l h k : Nat) : Int)] := by simp [cosL]
def cosE (l : List Int) (s : Int) : List Int := if sgB l s = true then cosL l s.toNat (repsK l s.toNat (prodI l).toNat) else []
theorem sgB_set {l : List Int} {s : Int} (h : sgB l s = true) : isS l s = true := by
  unfold sgB at h
  exact (Bool.and_eq_true_iff.1 h).1
/-- The number of an element's coset. -/
def numE (l : List Int) (s x : Int) : Int := if sgB l s = true ∧ isE l x = true then (match (repsK l s.toNat (prodI l).toNat).findIdx? (fun y => (movN l s.toNat y).testBit x.toNat) with | some i => ((i : Nat) : Int) | none => -1) else -1
theorem idx_yes {R : List Nat} {p : Nat → Bool} {k : Nat} (hk : k < R.length) (hp : p (R.getD k 0) = true) (hn : ∀ j, j < k → p (R.getD j 0) = false) : R.findIdx? p = some k := by
  rw [List.findIdx?_eq_some_iff_getElem]
  refine ⟨hk, by simpa [List.getD, hk] using hp, fun j hj => ?_⟩
  have h := hn j hj
  have hj2 : j < R.length := by omega
  simpa [List.getD, hj2] using h
theorem idx_no {R : List Nat} {p : Nat → Bool} (hn : ∀ j, j < R.length → p (R.getD j 0) = false) : R.findIdx? p = none := by
  rw [List.findIdx?_eq_none_iff]
  intro x hx
  obtain ⟨j, hj, rfl⟩ := List.getElem_of_mem hx
  have h := hn j hj
  simpa [List.getD, hj] using h
theorem cosL_at {l : List Int} {h : Nat} {R : List Nat} {k : Nat} (hk : k < R.length) : (cosL l h R).getD k 0 = ((movN l h (R.getD k 0) : Nat) : Int) := by
  simp [cosL, List.getD, hk]
end Go.Proofs.YtfkleihnafeoeaaGreatDoor
