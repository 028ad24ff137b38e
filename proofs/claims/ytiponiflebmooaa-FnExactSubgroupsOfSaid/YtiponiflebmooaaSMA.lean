/- Merged: SumI Dil ShiftSet SetDil SumJ SumK. -/
import Derived.Test.YtiponiflebmooaaSHA
import Derived.Test.YtiponiflebmooaaSPA
namespace Go.Proofs.Ytiponiflebmooaa
open Go.RowKit Go.Shelf
attribute [local go_sem] Oper.semAt_some
set_option maxRecDepth 1000000
/-- The set s moved by x, by the three places. -/
def shG (p q r : Int) (s x : Nat) : Nat := orF (shF p q r ((x : Int) % p) ((x : Int) / p % q) ((x : Int) / p / q % r)) (bitsN s)
theorem shG_lt {p q r : Int} (h : Tri p q r) {s x : Nat} (hs : s < 2 ^ (p * q * r).toNat) (hx : (x : Int) < p * q * r) : shG p q r s x < 2 ^ (p * q * r).toNat := by
  have hp : ((p.toNat : Nat) : Int) = p := Int.toNat_of_nonneg (by have := h.p1; omega)
  have hq : ((q.toNat : Nat) : Int) = q := Int.toNat_of_nonneg (by have := h.q1; omega)
  have hr : ((r.toNat : Nat) : Int) = r := Int.toNat_of_nonneg (by have := h.r1; omega)
  obtain ⟨h1, h2, h3, h4, h5, h6, h7, h8, h9, h10⟩ := h
  have e : p.toNat * q.toNat * r.toNat = (p * q * r).toNat := by
    have : ((p.toNat * q.toNat * r.toNat : Nat) : Int) = p * q * r := by rw [Int.natCast_mul, Int.natCast_mul, hp, hq, hr]
    omega
  have g1 := shN_orF (p := p.toNat) (q := q.toNat) (r := r.toNat) (x := x) (s := s) (by omega) (by omega) (by omega) (by omega) (by omega) (by rw [e]; exact hs)
  have g2 := (shN_bit (p := p.toNat) (q := q.toNat) (r := r.toNat) (x := x) (s := s) (by omega) (by omega) (by omega) (by omega) (by omega) (by rw [e]; exact hs)).1
  rw [hp, hq, hr] at g1
  rw [g1, e] at g2
  exact g2
theorem iShG (w : World) (p q r : Int) (s x : Nat) (h : Tri p q r) (hs : s < 2 ^ (p * q * r).toNat) (hx : (x : Int) < p * q * r) :
    Calls Try.prog 32 #[tV p q r, .int .u64 s, .int .i64 x] w fun e w' => e = .returned (.int .u64 (shG p q r s x : Nat)) ∧ Below w.heap.size w w' := iShiftN w p q r s x h hs hx
theorem tri_pow {p q r : Int} (h : Tri p q r) {s : Nat} (hs : s < 2 ^ (p * q * r).toNat) : s < 2 ^ 24 :=
  Nat.lt_of_lt_of_le hs (Nat.pow_le_pow_right (by decide) (by have := h.pqr2; omega))
theorem tri_elt {p q r : Int} (h : Tri p q r) {s x : Nat} (hs : s < 2 ^ (p * q * r).toNat) (hx : s.testBit x = true) : (x : Int) < p * q * r := by
  have h1 := h.pqr1
  have : x < (p * q * r).toNat := by
    rcases Nat.lt_or_ge x (p * q * r).toNat with h2 | h2
    · exact h2
    · rw [bit_no hs x h2] at hx; cases hx
  omega
theorem orU (a b : Nat) (ha : a < 16777216) (hb : b < 16777216) : bits .or .u64 (a : Int) (b : Int) = ((a ||| b : Nat) : Int) := bits_or_u64_nat a b (by omega) (by omega)
end Go.Proofs.Ytiponiflebmooaa

namespace Go.Proofs.Ytiponiflebmooaa
open Go.RowKit Go.Shelf
attribute [local go_sem] Oper.semAt_some
set_option maxRecDepth 1000000
/-- The multiple of an element, by its three places. -/
def dilF (p q r k : Int) (y : Nat) : Int := (y : Int) % p * k % p + p * ((y : Int) / p % q * k % q) + p * q * ((y : Int) / p / q % r * k % r)
theorem dilF_bnd {p q r k : Int} (h : Tri p q r) (y : Nat) : 0 ≤ dilF p q r k y ∧ dilF p q r k y ≤ 23 := by
  have a := emod_b (a := (y : Int) % p * k) h.p1
  have b := emod_b (a := (y : Int) / p % q * k) h.q1
  have c := emod_b (a := (y : Int) / p / q % r * k) h.r1
  have h3 := h.pqr2
  have hp := h.p1
  have hq := h.q1
  have hpq := h.pq1
  unfold dilF
  generalize (y : Int) % p * k % p = A at *
  generalize (y : Int) / p % q * k % q = B at *
  generalize (y : Int) / p / q % r * k % r = C at *
  have m1 : 0 ≤ p * B := Int.mul_nonneg (by omega) b.1
  have m2 : p * B ≤ p * (q - 1) := Int.mul_le_mul_of_nonneg_left (by omega) (by omega)
  have m3 : 0 ≤ p * q * C := Int.mul_nonneg (by omega) c.1
  have m4 : p * q * C ≤ p * q * (r - 1) := Int.mul_le_mul_of_nonneg_left (by omega) (by omega)
  rw [Int.mul_sub, Int.mul_one] at m2 m4
  omega
theorem orF_dil_lt {p q r k : Int} (h : Tri p q r) (L : List Nat) : orF (dilF p q r k) L < 16777216 :=
  orF_lt _ _ 24 (fun x _ => by have := dilF_bnd (k := k) h x; omega)
end Go.Proofs.Ytiponiflebmooaa

namespace Go.Proofs.Ytiponiflebmooaa
open Go.RowKit
set_option maxRecDepth 1000000
theorem sh_tri {l : List Int} (h : grpB l = true) (x : Int) (L : List Nat) :
    orF (fun y => addN l (y : Int) x) L = orF (shF (l.getD 0 1) (l.getD 1 1) (l.getD 2 1) (x % l.getD 0 1) (x / l.getD 0 1 % l.getD 1 1) (x / l.getD 0 1 / l.getD 1 1 % l.getD 2 1)) L :=
  orF_congr _ _ L (fun y _ => by
    have := (tri_grp h).p1
    rw [add_tri (grpB_true h).1 (y : Int) x (by omega)]; rfl)
end Go.Proofs.Ytiponiflebmooaa

namespace Go.Proofs.Ytiponiflebmooaa
open Go.RowKit
set_option maxRecDepth 1000000
theorem dl_tri {l : List Int} (h : grpB l = true) (k : Int) (L : List Nat) :
    orF (fun y => mulN l (y : Int) k) L = orF (dilF (l.getD 0 1) (l.getD 1 1) (l.getD 2 1) k) L :=
  orF_congr _ _ L (fun y _ => by
    have := (tri_grp h).p1
    rw [mul_tri (grpB_true h).1 (y : Int) k (by omega)]; rfl)
end Go.Proofs.Ytiponiflebmooaa

namespace Go.Proofs.Ytiponiflebmooaa
open Go.RowKit
set_option maxRecDepth 1000000
/-- What setsIn answers. -/
def SetsInPost (l : List Int) (s t : Int) (w : World) (e : Ending) (w' : World) : Prop :=
  ∃ p q r u v, e = .returned (.tuple #[tV p q r, .int .u64 u, .int .u64 v, .bool (two l s t)]) ∧ (two l s t = true → p = l.getD 0 1 ∧ q = l.getD 1 1 ∧ r = l.getD 2 1 ∧ u = s ∧ v = t) ∧ Below w.heap.size w w'
end Go.Proofs.Ytiponiflebmooaa

namespace Go.Proofs.Ytiponiflebmooaa
open Go.RowKit
set_option maxRecDepth 1000000
/-- Both are sets: what is known of them. -/
theorem two_true {l : List Int} {s t : Int} (h : two l s t = true) : grpB l = true ∧ ∃ a b : Nat, s = (a : Int) ∧ t = (b : Int) ∧ a < 2 ^ (prodI l).toNat ∧ b < 2 ^ (prodI l).toNat := by
  unfold two at h
  rw [Bool.and_eq_true] at h
  obtain ⟨hg, a, h1, h2, _⟩ := isS_true h.1
  obtain ⟨_, b, h3, h4, _⟩ := isS_true h.2
  exact ⟨hg, a, b, h1, h3, h2, h4⟩
theorem shG_mov {l : List Int} (hg : grpB l = true) (t x : Nat) : shG (l.getD 0 1) (l.getD 1 1) (l.getD 2 1) t x = movN l t x := (sh_tri hg (x : Int) (bitsN t)).symm
theorem sum_prog {l : List Int} (hg : grpB l = true) {s t : Nat} (hs : s < 2 ^ (prodI l).toNat) (ht : t < 2 ^ (prodI l).toNat) :
    orG (fun x => shG (l.getD 0 1) (l.getD 1 1) (l.getD 2 1) t x) (bitsN s) = sumN l s t := by
  rw [orG_congr _ (fun x => movN l t x) _ (fun x _ => shG_mov hg t x)]
  exact sumN_comm l (grp_pow hg ht) (grp_pow hg hs)
theorem dif_sum (l : List Int) (s t : Int) : sumE l s (ngE l t) = difE l s t := by
  cases ht : isS l t with
  | false =>
    have e : ngE l t = -1 := by unfold ngE; rw [if_neg (by simp [ht])]
    unfold sumE difE two
    rw [e, isS_neg (l := l) (show (-1 : Int) < 0 by decide), ht, Bool.and_false, if_neg (by simp), if_neg (by simp)]
  | true =>
    obtain ⟨hg, t, rfl, htn, _⟩ := isS_true ht
    have e : ngE l (t : Int) = ((ngN l t : Nat) : Int) := by unfold ngE; rw [if_pos ht]; rfl
    unfold sumE difE two
    rw [e, isS_of hg (ngN_lt hg t), ht]; rfl
theorem pow_prog {l : List Int} (hg : grpB l = true) {s : Nat} (hs : s < 2 ^ (prodI l).toNat) (k : Nat) :
    orG (fun x => shG (l.getD 0 1) (l.getD 1 1) (l.getD 2 1) s x) (bitsN (powS l s k)) = powS l s (k + 1) := sum_prog hg (powS_lt hg s k) hs
end Go.Proofs.Ytiponiflebmooaa
