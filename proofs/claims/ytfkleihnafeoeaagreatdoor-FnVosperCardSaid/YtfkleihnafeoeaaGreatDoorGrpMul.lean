/- The contracts of the program's own functions on groups: multiples and negatives of elements. -/
import Derived.Test.YtfkleihnafeoeaaGreatDoorGrpFun
namespace Go.Proofs.YtfkleihnafeoeaaGreatDoor
open Go.RowKit
set_option maxRecDepth 1000000
theorem prod_bnd {t c k : Int} (h0 : 0 ≤ t) (h1 : t < c) (hc : c ≤ 24) (k1 : -100 ≤ k) (k2 : k ≤ 100) : -2300 ≤ t * k ∧ t * k ≤ 2300 := by
  have a1 : t * k ≤ t * 100 := Int.mul_le_mul_of_nonneg_left k2 h0
  have a2 : t * -100 ≤ t * k := Int.mul_le_mul_of_nonneg_left k1 h0
  omega
theorem tmod_bnd (a : Int) {c : Int} (h : 1 ≤ c) : -c < a.tmod c ∧ a.tmod c < c := by
  have := Int.tmod_lt_of_pos a (show 0 < c by omega)
  have h2 := Int.tmod_lt_of_pos (-a) (show 0 < c by omega)
  rw [Int.neg_tmod] at h2
  omega
theorem tmod_fix (a c : Int) : a.tmod c % c = a % c := by
  have h1 := Int.mul_tdiv_add_tmod a c
  calc a.tmod c % c = (c * a.tdiv c + a.tmod c) % c := by rw [Int.mul_add_emod_self_left]
    _ = a % c := by rw [h1]
end Go.Proofs.YtfkleihnafeoeaaGreatDoor
