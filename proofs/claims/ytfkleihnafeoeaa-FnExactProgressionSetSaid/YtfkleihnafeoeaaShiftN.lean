/- The program's own shift of a set, place by place. -/
import Derived.Test.YtfkleihnafeoeaaShMath
import Derived.Test.YtfkleihnafeoeaaGrpMul
import Derived.Test.YtfkleihnafeoeaaSetBits
import Derived.Test.YtfkleihnafeoeaaSetIn
import Derived.Deep.RegionHeld3
import Derived.Deep.DeepCutAuto
namespace Go.Proofs.Ytfkleihnafeoeaa
open Go.RowKit
set_option maxRecDepth 1000000
theorem shF_bnd {p q r u v t : Int} (h : Tri p q r) (y : Nat) : 0 ≤ shF p q r u v t y ∧ shF p q r u v t y ≤ 23 := by
  have a := emod_b (a := (y : Int) % p + u) h.p1
  have b := emod_b (a := (y : Int) / p % q + v) h.q1
  have c := emod_b (a := (y : Int) / p / q % r + t) h.r1
  have h3 := h.pqr2
  have hp := h.p1
  have hq := h.q1
  have hpq := h.pq1
  unfold shF
  generalize ((y : Int) % p + u) % p = A at *
  generalize ((y : Int) / p % q + v) % q = B at *
  generalize ((y : Int) / p / q % r + t) % r = C at *
  have m1 : 0 ≤ p * B := Int.mul_nonneg (by omega) b.1
  have m2 : p * B ≤ p * (q - 1) := Int.mul_le_mul_of_nonneg_left (by omega) (by omega)
  have m3 : 0 ≤ p * q * C := Int.mul_nonneg (by omega) c.1
  have m4 : p * q * C ≤ p * q * (r - 1) := Int.mul_le_mul_of_nonneg_left (by omega) (by omega)
  rw [Int.mul_sub, Int.mul_one] at m2 m4
  omega
theorem orF_snoc_lt {p q r u v t : Int} (h : Tri p q r) (L : List Nat) : orF (shF p q r u v t) L < 16777216 :=
  orF_lt _ _ 24 (fun x _ => by have := shF_bnd (u := u) (v := v) (t := t) h x; omega)
theorem pow_wrap {k : Int} (_ : 0 ≤ k) (h : k ≤ 24) : IntKind.u64.wrap (IntKind.u64.wrap (2 ^ k.toNat) - 1) = ((2 ^ k.toNat - 1 : Nat) : Int) := by
  have hp := pow_le24 (k := k.toNat) (by omega)
  have h0 := Nat.two_pow_pos k.toNat
  rw [pow_nat, IntKind.wrap_u64, IntKind.wrap_u64]
  generalize 2 ^ k.toNat = M at *
  omega
theorem and_not_nat (a b : Nat) (hb : b < 2 ^ 64) (ha : a < 2 ^ 64) : a &&& (2 ^ 64 - 1 - b) = a ^^^ (a &&& b) := by
  apply Nat.eq_of_testBit_eq
  intro i
  rw [Nat.testBit_and, Nat.testBit_xor, Nat.testBit_and, show 2 ^ 64 - 1 - b = 2 ^ 64 - (b + 1) by omega, Nat.testBit_two_pow_sub_succ hb]
  by_cases hi : i < 64
  · simp only [hi, decide_true, Bool.true_and]
    cases a.testBit i <;> cases b.testBit i <;> rfl
  · rw [bit_no ha i (by omega)]; simp
theorem bits_andNot (a b : Nat) (ha : a < 18446744073709551616) (hb : b < 18446744073709551616) : bits .andNot .u64 (a : Int) (b : Int) = ((a ^^^ (a &&& b) : Nat) : Int) := by
  have h1 : (BitVec.ofInt 64 (a : Int)).toNat = a := by
    rw [BitVec.ofInt_natCast, BitVec.toNat_ofNat]; exact Nat.mod_eq_of_lt (by omega)
  have h2 : (BitVec.ofInt 64 (b : Int)).toNat = b := by
    rw [BitVec.ofInt_natCast, BitVec.toNat_ofNat]; exact Nat.mod_eq_of_lt (by omega)
  show IntKind.u64.wrap ((BitVec.ofInt 64 (a : Int) &&& ~~~ BitVec.ofInt 64 (b : Int)).toNat : Int) = _
  rw [BitVec.toNat_and, BitVec.toNat_not, h1, h2, and_not_nat a b hb ha]
  have h3 : a ^^^ (a &&& b) < 2 ^ 64 := Nat.xor_lt_two_pow ha (Nat.lt_of_le_of_lt Nat.and_le_left ha)
  rw [IntKind.wrap_u64]
  generalize a ^^^ (a &&& b) = c at *
  omega
/-- One round's reckonings, in the walk's own spelling. -/
theorem rndF (n : Nat) (b up : Int) (s : Nat) (N : Int) (hN : N = ((2 ^ n : Nat) : Int) - 1) (hn : n ≤ 24) (hn1 : 1 ≤ n) (hb : 1 ≤ b) (hd : n % b.toNat = 0) (h0 : 0 ≤ up) (h1 : up < b) (hs : s < 2 ^ n) :
    ∃ D M Q ST A L C R : Int, ∃ S1 : Nat, (S1 = stepS n b.toNat up.toNat s ∧ S1 < 2 ^ n) ∧ (1 ≤ D ∧ D ≤ 16777215) ∧ IntKind.u64.wrap (IntKind.u64.wrap (2 ^ b.toNat) - 1) = D ∧ IntKind.u64.wrap (IntKind.u64.wrap (2 ^ (b - up).toNat) - 1) = M ∧
      IntKind.u64.wrap (N.tdiv D) = Q ∧ IntKind.u64.wrap (M * Q) = ST ∧ bits .and .u64 (s : Int) ST = A ∧ IntKind.u64.wrap (A * 2 ^ up.toNat) = L ∧ bits .andNot .u64 (s : Int) ST = C ∧ C / 2 ^ (b - up).toNat = R ∧ bits .or .u64 L R = (S1 : Int) := by
  have hbn : b.toNat ≤ n := Nat.le_of_dvd hn1 (Nat.dvd_of_mod_eq_zero hd)
  have hS := stepS_lt (up := up.toNat) hn (by omega) hd hn1 (by omega) hs
  have e1 := pow_wrap (k := b) (by omega) (by omega)
  have e2 := pow_wrap (k := b - up) (by omega) (by omega)
  have hst := stay_lt (n := n) (B := b.toNat) (d := (b - up).toNat) hn (by omega)
  have p2 : 2 ^ 1 ≤ 2 ^ b.toNat := Nat.pow_le_pow_right (by decide) (by omega)
  have p3 := pow_le24 (k := b.toNat) (by omega)
  have pn := pow_le24 (k := n) hn
  have pn0 := Nat.two_pow_pos n
  have hs24 : s < 16777216 := Nat.lt_of_lt_of_le hs pn
  have eb : (b - up).toNat = b.toNat - up.toNat := by omega
  have hq : IntKind.u64.wrap (N.tdiv ((2 ^ b.toNat - 1 : Nat) : Int)) = (((2 ^ n - 1) / (2 ^ b.toNat - 1) : Nat) : Int) := by
    have : N = ((2 ^ n - 1 : Nat) : Int) := by rw [hN]; generalize 2 ^ n = K at *; omega
    rw [this, Int.tdiv_eq_ediv_of_nonneg (by omega), ← Int.natCast_ediv, IntKind.wrap_u64]
    have hle : (2 ^ n - 1) / (2 ^ b.toNat - 1) ≤ 2 ^ n - 1 := Nat.div_le_self _ _
    generalize (2 ^ n - 1) / (2 ^ b.toNat - 1) = K at *
    omega
  have hm : IntKind.u64.wrap (((2 ^ (b - up).toNat - 1 : Nat) : Int) * (((2 ^ n - 1) / (2 ^ b.toNat - 1) : Nat) : Int)) = ((stayM n b.toNat (b - up).toNat : Nat) : Int) := by
    rw [← Int.natCast_mul, IntKind.wrap_u64]
    show ((stayM n b.toNat (b - up).toNat : Nat) : Int) % _ = _
    omega
  have ha := bits_and_u64_nat s (stayM n b.toNat (b - up).toNat) (by omega) (by omega)
  have hc := bits_andNot s (stayM n b.toNat (b - up).toNat) (by omega) (by omega)
  rw [eb] at hm ha hc hst e2
  have hA : s &&& stayM n b.toNat (b.toNat - up.toNat) ≤ s := Nat.and_le_left
  have hC : s ^^^ (s &&& stayM n b.toNat (b.toNat - up.toNat)) < 2 ^ n := Nat.xor_lt_two_pow hs (Nat.lt_of_le_of_lt hA hs)
  have pu := pow_le24 (k := up.toNat) (by omega)
  have hL : IntKind.u64.wrap (((s &&& stayM n b.toNat (b.toNat - up.toNat) : Nat) : Int) * 2 ^ up.toNat) = (((s &&& stayM n b.toNat (b.toNat - up.toNat)) <<< up.toNat : Nat) : Int) := by
    rw [pow_nat, ← Int.natCast_mul, Nat.shiftLeft_eq, IntKind.wrap_u64]
    have := Nat.mul_le_mul (Nat.le_trans hA (Nat.le_of_lt hs24)) pu
    generalize (s &&& stayM n b.toNat (b.toNat - up.toNat)) * 2 ^ up.toNat = K at *
    omega
  have hLb : (s &&& stayM n b.toNat (b.toNat - up.toNat)) <<< up.toNat < 18446744073709551616 := by
    rw [Nat.shiftLeft_eq]
    have := Nat.mul_le_mul (Nat.le_trans hA (Nat.le_of_lt hs24)) pu
    omega
  have hR : ((s ^^^ (s &&& stayM n b.toNat (b.toNat - up.toNat)) : Nat) : Int) / 2 ^ (b - up).toNat = (((s ^^^ (s &&& stayM n b.toNat (b.toNat - up.toNat))) >>> (b.toNat - up.toNat) : Nat) : Int) := by
    rw [eb, pow_nat, ← Int.natCast_ediv, Nat.shiftRight_eq_div_pow]
  have hRb : (s ^^^ (s &&& stayM n b.toNat (b.toNat - up.toNat))) >>> (b.toNat - up.toNat) < 18446744073709551616 := by
    rw [Nat.shiftRight_eq_div_pow]
    exact Nat.lt_of_le_of_lt (Nat.div_le_self _ _) (by omega)
  have hO := bits_or_u64_nat _ _ hLb hRb
  rw [← eb] at e2
  refine ⟨_, _, _, _, _, _, _, _, _, ⟨rfl, hS⟩, ?_, e1, e2, hq, ?_, ha, hL, hc, hR, hO⟩
  · generalize 2 ^ b.toNat = K at *; omega
  · rw [eb]; exact hm
end Go.Proofs.Ytfkleihnafeoeaa
