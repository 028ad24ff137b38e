/- The program's own sums of sets: ranges over the elements of a set, each with a set moved by it. -/
import Derived.Test.YtehdneppleifdabDoorShift
import Derived.Test.YtehdneppleifdabDoorShiftN
import Derived.Test.YtehdneppleifdabDoorSumSpec
namespace Go.Proofs.YtehdneppleifdabDoor
open Go.RowKit Go.Shelf
attribute [local go_sem] Oper.semAt_some
set_option maxRecDepth 1000000
/-- The set s moved by x, by the three places. -/
def shG (p q r : Int) (s x : Nat) : Nat := orF (shF p q r ((x : Int) % p) ((x : Int) / p % q) ((x : Int) / p / q % r)) (bitsN s)
theorem shG_lt {p q r : Int} (h : Tri p q r) {s x : Nat} (hs : s < 2 ^ (p * q * r).toNat) (hx : (x : Int) < p * q * r) : shG p q r s x < 2 ^ (p * q * r).toNat := by
  have hp : ((p.toNat : Nat) : Int) = p := Int.toNat_of_nonneg (by have := h.p1; omega)
  have hq : ((q.toNat : Nat) : Int) = q := Int.toNat_of_nonneg (by have := h.q1; omega)
  have hr : ((r.toNat : Nat) : Int) = r := Int.toNat_of_nonneg (by have := h.r1; omega)
  obtain ⟨h1, h2, h3, h4, h5, h6, h7, h8, h9, h10⟩ := h
  have e : p.toNat * q.toNat * r.toNat = (p * q * r).toNat := by
    have : ((p.toNat * q.toNat * r.toNat : Nat) : Int) = p * q * r := by rw [Int.natCast_mul, Int.natCast_mul, hp, hq, hr]
    omega
  have g1 := shN_orF (p := p.toNat) (q := q.toNat) (r := r.toNat) (x := x) (s := s) (by omega) (by omega) (by omega) (by omega) (by omega) (by rw [e]; exact hs)
  have g2 := (shN_bit (p := p.toNat) (q := q.toNat) (r := r.toNat) (x := x) (s := s) (by omega) (by omega) (by omega) (by omega) (by omega) (by rw [e]; exact hs)).1
  rw [hp, hq, hr] at g1
  rw [g1, e] at g2
  exact g2
theorem iShG (w : World) (p q r : Int) (s x : Nat) (h : Tri p q r) (hs : s < 2 ^ (p * q * r).toNat) (hx : (x : Int) < p * q * r) :
    Calls Tryd.prog 46 #[tV p q r, .int .u64 s, .int .i64 x] w fun e w' => e = .returned (.int .u64 (shG p q r s x : Nat)) ∧ Below w.heap.size w w' := iShiftN w p q r s x h hs hx
theorem tri_pow {p q r : Int} (h : Tri p q r) {s : Nat} (hs : s < 2 ^ (p * q * r).toNat) : s < 2 ^ 24 :=
  Nat.lt_of_lt_of_le hs (Nat.pow_le_pow_right (by decide) (by have := h.pqr2; omega))
theorem tri_elt {p q r : Int} (h : Tri p q r) {s x : Nat} (hs : s < 2 ^ (p * q * r).toNat) (hx : s.testBit x = true) : (x : Int) < p * q * r := by
  have h1 := h.pqr1
  have : x < (p * q * r).toNat := by
    rcases Nat.lt_or_ge x (p * q * r).toNat with h2 | h2
    · exact h2
    · rw [bit_no hs x h2] at hx; cases hx
  omega
theorem orU (a b : Nat) (ha : a < 16777216) (hb : b < 16777216) : bits .or .u64 (a : Int) (b : Int) = ((a ||| b : Nat) : Int) := bits_or_u64_nat a b (by omega) (by omega)
end Go.Proofs.YtehdneppleifdabDoor
