/- The contracts of the document's reading of groups (spec): negatives, multiples and orders of elements. -/
import Derived.Test.YtfkleihnafeoeaaDoorGrpSpec3
namespace Go.Proofs.YtfkleihnafeoeaaDoor
open Go.RowKit
set_option maxRecDepth 1000000
/-- A place of the negative. -/
def ndig (l : List Int) (x : Int) (k : Nat) : Int := -(x / PK l k % l.getD k 0) % l.getD k 0
theorem ndig_bnd {l : List Int} (h : Ords l) (x : Int) {k : Nat} (hk : k < l.length) : 0 ≤ ndig l x k ∧ ndig l x k < l.getD k 0 := by
  have := h.pos k hk
  exact ⟨Int.emod_nonneg _ (by omega), Int.emod_lt_of_pos _ (by omega)⟩
theorem ndig_neg (l : List Int) (x : Int) : valK l (ndig l x) l.length = negN l x := by
  unfold negN mulN
  apply val_congr
  intro j _
  unfold ndig mulF
  rw [← neg_place, Int.sub_eq_add_neg, Int.add_comm, Int.add_emod_right]; rfl
def negE (l : List Int) (x : Int) : Int := if isE l x = true then negN l x else -1
/-- The document's multiple. -/
def mulE (l : List Int) (x k : Int) : Int := if isE l x = true then (if -100 ≤ k ∧ k ≤ 100 then mulN l x k else -1) else -1
end Go.Proofs.YtfkleihnafeoeaaDoor
