/- The count of bits as math/bits reckons it, of numbers below 2^24: plain mathematics. -/
import Derived.Test.YtfkleihnafeoeaaGreatDoorSetMath
namespace Go.Proofs.YtfkleihnafeoeaaGreatDoor
def pc8 (a : Nat) : Nat := a % 2 + a / 2 % 2 + a / 4 % 2 + a / 8 % 2 + a / 16 % 2 + a / 32 % 2 + a / 64 % 2 + a / 128 % 2
theorem and256 (u v p q : Nat) (hu : u < 256) (hp : p < 256) : (u + 256 * v) &&& (p + 256 * q) = (u &&& p) + 256 * (v &&& q) := by
  apply Nat.eq_of_testBit_eq
  intro i
  have h1 : u &&& p < 2 ^ 8 := Nat.lt_of_le_of_lt Nat.and_le_left hu
  have e : ∀ x y : Nat, x + 256 * y = 2 ^ 8 * y + x := fun x y => by omega
  rw [Nat.testBit_and, e, e, e, Nat.testBit_two_pow_mul_add _ (by omega : u < 2 ^ 8), Nat.testBit_two_pow_mul_add _ (by omega : p < 2 ^ 8), Nat.testBit_two_pow_mul_add _ h1]
  by_cases h : i < 8
  · simp [h]
  · simp [h]
/-- Three bytes. -/
def by3 (a b c : Nat) : Nat := a + 256 * (b + 256 * c)
theorem and3 (a b c p q : Nat) (ha : a < 256) (hb : b < 256) (hc : c < 256) (hp : p < 256) : by3 a b c &&& (p + 256 * (p + 256 * (p + 256 * q))) = by3 (a &&& p) (b &&& p) (c &&& p) := by
  unfold by3
  have h : c &&& (p + 256 * q) = c &&& p := by
    have := and256 c 0 p q hc hp
    simpa using this
  rw [and256 _ _ _ _ ha hp, and256 _ _ _ _ hb hp, h]
theorem s1_8 : ∀ a, a < 256 → ∀ r, r < 2 → ((a / 2 + 128 * r) &&& 85) = (a / 2 &&& 85) := by decide +kernel
theorem s2_8 : ∀ a, a < 256 → ∀ r, r < 4 → ((a / 4 + 64 * r) &&& 51) = (a / 4 &&& 51) := by decide +kernel
def f1 (a : Nat) : Nat := (a / 2 &&& 85) + (a &&& 85)
def f2 (a : Nat) : Nat := (a / 4 &&& 51) + (a &&& 51)
theorem f_all : ∀ a, a < 256 → f1 a < 256 ∧ f2 (f1 a) < 69 ∧ f2 (f1 a) % 16 ≤ 4 ∧ f2 (f1 a) / 16 ≤ 4 ∧ (f2 (f1 a) / 16 + f2 (f1 a)) % 16 = pc8 a := by decide +kernel
theorem pc8_le : ∀ a, a < 256 → pc8 a ≤ 8 := by decide +kernel
theorem and3' (M a b c p q : Nat) (hM : M = p + 256 * (p + 256 * (p + 256 * q))) (ha : a < 256) (hb : b < 256) (hc : c < 256) (hp : p < 256) : by3 a b c &&& M = by3 (a &&& p) (b &&& p) (c &&& p) := by
  rw [hM, and3 a b c p q ha hb hc hp]
theorem by3_half (a b c : Nat) : by3 a b c / 2 = by3 (a / 2 + 128 * (b % 2)) (b / 2 + 128 * (c % 2)) (c / 2) := by unfold by3; omega
theorem by3_add (a b c d e f : Nat) : by3 a b c + by3 d e f = by3 (a + d) (b + e) (c + f) := by unfold by3; omega
theorem st1 (a b c : Nat) (ha : a < 256) (hb : b < 256) (hc : c < 256) :
    (by3 a b c / 2 &&& 6148914691236517205) + (by3 a b c &&& 6148914691236517205) = by3 (f1 a) (f1 b) (f1 c) := by
  have u := and3' 6148914691236517205 (a / 2 + 128 * (b % 2)) (b / 2 + 128 * (c % 2)) (c / 2) 85 366503875925 (by decide) (by omega) (by omega) (by omega) (by decide)
  have v := and3' 6148914691236517205 a b c 85 366503875925 (by decide) ha hb hc (by decide)
  rw [by3_half, u, v, s1_8 a ha _ (by omega), s1_8 b hb _ (by omega), by3_add]
  rfl
theorem by3_quart (a b c : Nat) : by3 a b c / 4 = by3 (a / 4 + 64 * (b % 4)) (b / 4 + 64 * (c % 4)) (c / 4) := by unfold by3; omega
theorem st2 (a b c : Nat) (ha : a < 256) (hb : b < 256) (hc : c < 256) :
    (by3 a b c / 4 &&& 3689348814741910323) + (by3 a b c &&& 3689348814741910323) = by3 (f2 a) (f2 b) (f2 c) := by
  have u := and3' 3689348814741910323 (a / 4 + 64 * (b % 4)) (b / 4 + 64 * (c % 4)) (c / 4) 51 219902325555 (by decide) (by omega) (by omega) (by omega) (by decide)
  have v := and3' 3689348814741910323 a b c 51 219902325555 (by decide) ha hb hc (by decide)
  rw [by3_quart, u, v, s2_8 a ha _ (by omega), s2_8 b hb _ (by omega), by3_add]
  rfl
theorem by3_six (a b c : Nat) : by3 a b c / 16 + by3 a b c = by3 (a / 16 + a + 16 * (b % 16)) (b / 16 + b + 16 * (c % 16)) (c / 16 + c) := by unfold by3; omega
theorem st3 (a b c : Nat) (ha : a < 69) (hb : b < 69) (_hc : c < 69) (_a4 : a / 16 ≤ 4) (_b4 : b / 16 ≤ 4) (c4 : c / 16 ≤ 4) (a5 : a % 16 ≤ 4) (b5 : b % 16 ≤ 4) (c5 : c % 16 ≤ 4) :
    (by3 a b c / 16 + by3 a b c) &&& 1085102592571150095 = by3 ((a / 16 + a) % 16) ((b / 16 + b) % 16) ((c / 16 + c) % 16) := by
  have u := and3' 1085102592571150095 (a / 16 + a + 16 * (b % 16)) (b / 16 + b + 16 * (c % 16)) (c / 16 + c) 15 64677154575 (by decide) (by omega) (by omega) (by omega) (by decide)
  have h15 : ∀ x : Nat, x &&& 15 = x % 16 := fun x => Nat.and_two_pow_sub_one_eq_mod x 4
  rw [by3_six, u, h15, h15, h15, show (a / 16 + a + 16 * (b % 16)) % 16 = (a / 16 + a) % 16 by omega, show (b / 16 + b + 16 * (c % 16)) % 16 = (b / 16 + b) % 16 by omega]
theorem by3_lt {a b c : Nat} (ha : a < 256) (hb : b < 256) (hc : c < 256) : by3 a b c < 16777216 := by unfold by3; omega
theorem st4 (A B C : Nat) (hA : A ≤ 8) (hB : B ≤ 8) (hC : C ≤ 8) :
    by3 A B C + by3 A B C / 256 < 33554432 ∧ (by3 A B C + by3 A B C / 256) + (by3 A B C + by3 A B C / 256) / 65536 < 33554432 ∧
    ((by3 A B C + by3 A B C / 256) + (by3 A B C + by3 A B C / 256) / 65536) % 128 = A + B + C := by
  have h1 : by3 A B C / 256 = B + 256 * C := by unfold by3; omega
  have h2 : by3 A B C + (B + 256 * C) = (A + B) + 256 * (B + C) + 65536 * C := by unfold by3; omega
  rw [h1, h2]
  have h3 : ((A + B) + 256 * (B + C) + 65536 * C) / 65536 = C := by omega
  rw [h3]
  omega
/-- The library's count of bits of a number below 2^24. -/
theorem ones24 (x y1 y2 y3 y4 y5 y6 : Nat) (hx : x < 16777216) (e1 : y1 = (x / 2 &&& 6148914691236517205) + (x &&& 6148914691236517205)) (e2 : y2 = (y1 / 4 &&& 3689348814741910323) + (y1 &&& 3689348814741910323))
    (e3 : y3 = (y2 / 16 + y2) &&& 1085102592571150095) (e4 : y4 = y3 + y3 / 256) (e5 : y5 = y4 + y4 / 65536) (e6 : y6 = y5 + y5 / 4294967296) :
    y1 < 16777216 ∧ y2 < 16777216 ∧ y3 < 16777216 ∧ y4 < 33554432 ∧ y5 < 33554432 ∧ y6 < 33554432 ∧ y6 &&& 127 = pc8 (x % 256) + pc8 (x / 256 % 256) + pc8 (x / 65536) := by
  have la : x % 256 < 256 := by omega
  have lb : x / 256 % 256 < 256 := by omega
  have lc : x / 65536 < 256 := by omega
  have hX : x = by3 (x % 256) (x / 256 % 256) (x / 65536) := by unfold by3; omega
  generalize x % 256 = a at *
  generalize x / 256 % 256 = b at *
  generalize x / 65536 = c at *
  obtain ⟨a1, a2, a3, a4, a5⟩ := f_all a la
  obtain ⟨b1, b2, b3, b4, b5⟩ := f_all b lb
  obtain ⟨c1, c2, c3, c4, c5⟩ := f_all c lc
  have pa := pc8_le a la
  have pb := pc8_le b lb
  have pc := pc8_le c lc
  rw [hX, st1 a b c la lb lc] at e1
  rw [e1, st2 _ _ _ a1 b1 c1] at e2
  rw [e2, st3 _ _ _ a2 b2 c2 a4 b4 c4 a3 b3 c3, a5, b5, c5] at e3
  have h127 : y6 &&& 127 = y6 % 128 := Nat.and_two_pow_sub_one_eq_mod y6 7
  rw [h127]
  obtain ⟨g1, g2, g3⟩ := st4 _ _ _ pa pb pc
  rw [← e3] at g1 g2 g3
  rw [← e4] at g1 g2 g3
  rw [← e5] at g2 g3
  have h6 : y6 = y5 := by rw [e6, Nat.div_eq_of_lt (Nat.lt_trans g2 (by decide)), Nat.add_zero]
  rw [h6, g3]
  refine ⟨?_, ?_, ?_, g1, g2, g2, rfl⟩
  · rw [e1]; exact by3_lt a1 b1 c1
  · rw [e2]; exact by3_lt (Nat.lt_trans a2 (by decide)) (Nat.lt_trans b2 (by decide)) (Nat.lt_trans c2 (by decide))
  · rw [e3]; exact by3_lt (Nat.lt_of_le_of_lt pa (by decide)) (Nat.lt_of_le_of_lt pb (by decide)) (Nat.lt_of_le_of_lt pc (by decide))
/-- The count by bytes is the number of bits. -/
theorem upK_cnt (a k : Nat) : (upK a (k + 1)).length = (upK a k).length + a / 2 ^ k % 2 := by
  rw [upK_succ]
  by_cases hb : a.testBit k = true
  · rw [if_pos hb, (bit_iff a k).1 hb]; simp
  · rw [if_neg hb]
    have : ¬ a / 2 ^ k % 2 = 1 := fun e => hb ((bit_iff a k).2 e)
    have : a / 2 ^ k % 2 = 0 := by omega
    omega
theorem upK_byte (a k : Nat) : (upK a (k + 8)).length = (upK a k).length + pc8 (a / 2 ^ k % 256) := by
  have e : ∀ i, a / 2 ^ (k + i) = a / 2 ^ k / 2 ^ i := fun i => by rw [Nat.pow_add, Nat.div_div_eq_div_mul]
  rw [show k + 8 = k + 7 + 1 from rfl, upK_cnt, show k + 7 = k + 6 + 1 from rfl, upK_cnt, show k + 6 = k + 5 + 1 from rfl, upK_cnt, show k + 5 = k + 4 + 1 from rfl, upK_cnt,
    show k + 4 = k + 3 + 1 from rfl, upK_cnt, show k + 3 = k + 2 + 1 from rfl, upK_cnt, show k + 2 = k + 1 + 1 from rfl, upK_cnt, upK_cnt]
  rw [show k + 1 + 1 + 1 + 1 + 1 + 1 + 1 = k + 7 from rfl, show k + 1 + 1 + 1 + 1 + 1 + 1 = k + 6 from rfl, show k + 1 + 1 + 1 + 1 + 1 = k + 5 from rfl, show k + 1 + 1 + 1 + 1 = k + 4 from rfl,
    show k + 1 + 1 + 1 = k + 3 from rfl, show k + 1 + 1 = k + 2 from rfl, e 7, e 6, e 5, e 4, e 3, e 2, e 1]
  generalize a / 2 ^ k = b
  generalize (upK a k).length = c
  simp only [Nat.reducePow]
  unfold pc8
  omega
theorem bits_len (a : Nat) (h : a < 16777216) : (bitsN a).length = pc8 (a % 256) + pc8 (a / 256 % 256) + pc8 (a / 65536) := by
  unfold bitsN
  rw [show (24 : Nat) = 0 + 8 + 8 + 8 from rfl, upK_byte, upK_byte, upK_byte, upK_zero]
  have e1 : a / 2 ^ 0 % 256 = a % 256 := by simp
  have e2 : a / 2 ^ (0 + 8) % 256 = a / 256 % 256 := by simp
  have e3 : a / 2 ^ (0 + 8 + 8) % 256 = a / 65536 := by
    rw [show (2 : Nat) ^ (0 + 8 + 8) = 65536 from rfl]; omega
  rw [e1, e2, e3, List.length_nil, Nat.zero_add]
end Go.Proofs.YtfkleihnafeoeaaGreatDoor
