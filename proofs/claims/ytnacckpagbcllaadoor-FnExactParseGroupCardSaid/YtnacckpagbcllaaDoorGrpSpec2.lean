/- The contracts of the document's reading of groups (spec): the order, elements, sums and negatives of elements. -/
import Derived.Test.YtnacckpagbcllaaDoorGrpSpec
namespace Go.Proofs.YtnacckpagbcllaaDoor
open Go.RowKit
/-- The places of the sum of two numbers. -/
def sdig (l : List Int) (x y : Int) (k : Nat) : Int := (x / PK l k + y / PK l k) % l.getD k 0
theorem sdig_bnd {l : List Int} (h : grpB l = true) (x y : Int) {k : Nat} (hk : k < l.length) : 0 ≤ sdig l x y k ∧ sdig l x y k < l.getD k 0 := by
  have := ord_at h hk
  exact ⟨Int.emod_nonneg _ (by omega), Int.emod_lt_of_pos _ (by omega)⟩
theorem mul_lt24 {D c N : Int} (h0 : 0 ≤ D) (h1 : D < c) (hc : c ≤ 24) (hN : 1 ≤ N) (hN2 : N ≤ 24) : 0 ≤ D * N ∧ D * N ≤ 552 :=
  ⟨Int.mul_nonneg h0 (by omega), Int.le_trans (Int.mul_le_mul (show D ≤ 23 by omega) hN2 (by omega) (by omega)) (by decide)⟩
/-- The sum of two elements, place by place. -/
def addN (l : List Int) (x y : Int) : Int := valK l (sdig l x y) l.length
end Go.Proofs.YtnacckpagbcllaaDoor
