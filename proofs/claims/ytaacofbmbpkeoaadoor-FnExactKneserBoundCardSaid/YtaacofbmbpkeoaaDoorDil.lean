/- The program's own dilates of a set. -/
import Derived.Test.YtaacofbmbpkeoaaDoorShift
namespace Go.Proofs.YtaacofbmbpkeoaaDoor
open Go.RowKit Go.Shelf
attribute [local go_sem] Oper.semAt_some
set_option maxRecDepth 1000000
/-- The multiple of an element, by its three places. -/
def dilF (p q r k : Int) (y : Nat) : Int := (y : Int) % p * k % p + p * ((y : Int) / p % q * k % q) + p * q * ((y : Int) / p / q % r * k % r)
theorem dilF_bnd {p q r k : Int} (h : Tri p q r) (y : Nat) : 0 ≤ dilF p q r k y ∧ dilF p q r k y ≤ 23 := by
  have a := emod_b (a := (y : Int) % p * k) h.p1
  have b := emod_b (a := (y : Int) / p % q * k) h.q1
  have c := emod_b (a := (y : Int) / p / q % r * k) h.r1
  have h3 := h.pqr2
  have hp := h.p1
  have hq := h.q1
  have hpq := h.pq1
  unfold dilF
  generalize (y : Int) % p * k % p = A at *
  generalize (y : Int) / p % q * k % q = B at *
  generalize (y : Int) / p / q % r * k % r = C at *
  have m1 : 0 ≤ p * B := Int.mul_nonneg (by omega) b.1
  have m2 : p * B ≤ p * (q - 1) := Int.mul_le_mul_of_nonneg_left (by omega) (by omega)
  have m3 : 0 ≤ p * q * C := Int.mul_nonneg (by omega) c.1
  have m4 : p * q * C ≤ p * q * (r - 1) := Int.mul_le_mul_of_nonneg_left (by omega) (by omega)
  rw [Int.mul_sub, Int.mul_one] at m2 m4
  omega
theorem orF_dil_lt {p q r k : Int} (h : Tri p q r) (L : List Nat) : orF (dilF p q r k) L < 16777216 :=
  orF_lt _ _ 24 (fun x _ => by have := dilF_bnd (k := k) h x; omega)
end Go.Proofs.YtaacofbmbpkeoaaDoor
