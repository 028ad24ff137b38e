/- Merged: Ones GrpTri SetBits. -/
import Derived.Test.YtehdneppleifdaaDoorMGAE
import Derived.Test.YtehdneppleifdaaDoorMGAD
import Derived.Laws.Bits64b
namespace Go.Proofs.YtehdneppleifdaaDoor
def pc8 (a : Nat) : Nat := a % 2 + a / 2 % 2 + a / 4 % 2 + a / 8 % 2 + a / 16 % 2 + a / 32 % 2 + a / 64 % 2 + a / 128 % 2
theorem and256 (u v p q : Nat) (hu : u < 256) (hp : p < 256) : (u + 256 * v) &&& (p + 256 * q) = (u &&& p) + 256 * (v &&& q) := by
  apply Nat.eq_of_testBit_eq
  intro i
  have h1 : u &&& p < 2 ^ 8 := Nat.lt_of_le_of_lt Nat.and_le_left hu
  have e : ∀ x y : Nat, x + 256 * y = 2 ^ 8 * y + x := fun x y => by omega
  rw [Nat.testBit_and, e, e, e, Nat.testBit_two_pow_mul_add _ (by omega : u < 2 ^ 8), Nat.testBit_two_pow_mul_add _ (by omega : p < 2 ^ 8), Nat.testBit_two_pow_mul_add _ h1]
  by_cases h : i < 8
  · simp [h]
  · simp [h]
/-- Three bytes. -/
def by3 (a b c : Nat) : Nat := a + 256 * (b + 256 * c)
theorem and3 (a b c p q : Nat) (ha : a < 256) (hb : b < 256) (hc : c < 256) (hp : p < 256) : by3 a b c &&& (p + 256 * (p + 256 * (p + 256 * q))) = by3 (a &&& p) (b &&& p) (c &&& p) := by
  unfold by3
  have h : c &&& (p + 256 * q) = c &&& p := by
    have := and256 c 0 p q hc hp
    simpa using this
  rw [and256 _ _ _ _ ha hp, and256 _ _ _ _ hb hp, h]
theorem s1_8 : ∀ a, a < 256 → ∀ r, r < 2 → ((a / 2 + 128 * r) &&& 85) = (a / 2 &&& 85) := by decide +kernel
theorem s2_8 : ∀ a, a < 256 → ∀ r, r < 4 → ((a / 4 + 64 * r) &&& 51) = (a / 4 &&& 51) := by decide +kernel
def f1 (a : Nat) : Nat := (a / 2 &&& 85) + (a &&& 85)
def f2 (a : Nat) : Nat := (a / 4 &&& 51) + (a &&& 51)
theorem f_all : ∀ a, a < 256 → f1 a < 256 ∧ f2 (f1 a) < 69 ∧ f2 (f1 a) % 16 ≤ 4 ∧ f2 (f1 a) / 16 ≤ 4 ∧ (f2 (f1 a) / 16 + f2 (f1 a)) % 16 = pc8 a := by decide +kernel
theorem pc8_le : ∀ a, a < 256 → pc8 a ≤ 8 := by decide +kernel
theorem and3' (M a b c p q : Nat) (hM : M = p + 256 * (p + 256 * (p + 256 * q))) (ha : a < 256) (hb : b < 256) (hc : c < 256) (hp : p < 256) : by3 a b c &&& M = by3 (a &&& p) (b &&& p) (c &&& p) := by
  rw [hM, and3 a b c p q ha hb hc hp]
theorem by3_half (a b c : Nat) : by3 a b c / 2 = by3 (a / 2 + 128 * (b % 2)) (b / 2 + 128 * (c % 2)) (c / 2) := by unfold by3; omega
theorem by3_add (a b c d e f : Nat) : by3 a b c + by3 d e f = by3 (a + d) (b + e) (c + f) := by unfold by3; omega
theorem st1 (a b c : Nat) (ha : a < 256) (hb : b < 256) (hc : c < 256) :
    (by3 a b c / 2 &&& 6148914691236517205) + (by3 a b c &&& 6148914691236517205) = by3 (f1 a) (f1 b) (f1 c) := by
  have u := and3' 6148914691236517205 (a / 2 + 128 * (b % 2)) (b / 2 + 128 * (c % 2)) (c / 2) 85 366503875925 (by decide) (by omega) (by omega) (by omega) (by decide)
  have v := and3' 6148914691236517205 a b c 85 366503875925 (by decide) ha hb hc (by decide)
  rw [by3_half, u, v, s1_8 a ha _ (by omega), s1_8 b hb _ (by omega), by3_add]
  rfl
theorem by3_quart (a b c : Nat) : by3 a b c / 4 = by3 (a / 4 + 64 * (b % 4)) (b / 4 + 64 * (c % 4)) (c / 4) := by unfold by3; omega
theorem st2 (a b c : Nat) (ha : a < 256) (hb : b < 256) (hc : c < 256) :
    (by3 a b c / 4 &&& 3689348814741910323) + (by3 a b c &&& 3689348814741910323) = by3 (f2 a) (f2 b) (f2 c) := by
  have u := and3' 3689348814741910323 (a / 4 + 64 * (b % 4)) (b / 4 + 64 * (c % 4)) (c / 4) 51 219902325555 (by decide) (by omega) (by omega) (by omega) (by decide)
  have v := and3' 3689348814741910323 a b c 51 219902325555 (by decide) ha hb hc (by decide)
  rw [by3_quart, u, v, s2_8 a ha _ (by omega), s2_8 b hb _ (by omega), by3_add]
  rfl
theorem by3_six (a b c : Nat) : by3 a b c / 16 + by3 a b c = by3 (a / 16 + a + 16 * (b % 16)) (b / 16 + b + 16 * (c % 16)) (c / 16 + c) := by unfold by3; omega
theorem st3 (a b c : Nat) (ha : a < 69) (hb : b < 69) (_hc : c < 69) (_a4 : a / 16 ≤ 4) (_b4 : b / 16 ≤ 4) (c4 : c / 16 ≤ 4) (a5 : a % 16 ≤ 4) (b5 : b % 16 ≤ 4) (c5 : c % 16 ≤ 4) :
    (by3 a b c / 16 + by3 a b c) &&& 1085102592571150095 = by3 ((a / 16 + a) % 16) ((b / 16 + b) % 16) ((c / 16 + c) % 16) := by
  have u := and3' 1085102592571150095 (a / 16 + a + 16 * (b % 16)) (b / 16 + b + 16 * (c % 16)) (c / 16 + c) 15 64677154575 (by decide) (by omega) (by omega) (by omega) (by decide)
  have h15 : ∀ x : Nat, x &&& 15 = x % 16 := fun x => Nat.and_two_pow_sub_one_eq_mod x 4
  rw [by3_six, u, h15, h15, h15, show (a / 16 + a + 16 * (b % 16)) % 16 = (a / 16 + a) % 16 by omega, show (b / 16 + b + 16 * (c % 16)) % 16 = (b / 16 + b) % 16 by omega]
theorem by3_lt {a b c : Nat} (ha : a < 256) (hb : b < 256) (hc : c < 256) : by3 a b c < 16777216 := by unfold by3; omega
theorem st4 (A B C : Nat) (hA : A ≤ 8) (hB : B ≤ 8) (hC : C ≤ 8) :
    by3 A B C + by3 A B C / 256 < 33554432 ∧ (by3 A B C + by3 A B C / 256) + (by3 A B C + by3 A B C / 256) / 65536 < 33554432 ∧
    ((by3 A B C + by3 A B C / 256) + (by3 A B C + by3 A B C / 256) / 65536) % 128 = A + B + C := by
  have h1 : by3 A B C / 256 = B + 256 * C := by unfold by3; omega
  have h2 : by3 A B C + (B + 256 * C) = (A + B) + 256 * (B + C) + 65536 * C := by unfold by3; omega
  rw [h1, h2]
  have h3 : ((A + B) + 256 * (B + C) + 65536 * C) / 65536 = C := by omega
  rw [h3]
  omega
/-- The library's count of bits of a number below 2^24. -/
theorem ones24 (x y1 y2 y3 y4 y5 y6 : Nat) (hx : x < 16777216) (e1 : y1 = (x / 2 &&& 6148914691236517205) + (x &&& 6148914691236517205)) (e2 : y2 = (y1 / 4 &&& 3689348814741910323) + (y1 &&& 3689348814741910323))
    (e3 : y3 = (y2 / 16 + y2) &&& 1085102592571150095) (e4 : y4 = y3 + y3 / 256) (e5 : y5 = y4 + y4 / 65536) (e6 : y6 = y5 + y5 / 4294967296) :
    y1 < 16777216 ∧ y2 < 16777216 ∧ y3 < 16777216 ∧ y4 < 33554432 ∧ y5 < 33554432 ∧ y6 < 33554432 ∧ y6 &&& 127 = pc8 (x % 256) + pc8 (x / 256 % 256) + pc8 (x / 65536) := by
  have la : x % 256 < 256 := by omega
  have lb : x / 256 % 256 < 256 := by omega
  have lc : x / 65536 < 256 := by omega
  have hX : x = by3 (x % 256) (x / 256 % 256) (x / 65536) := by unfold by3; omega
  generalize x % 256 = a at *
  generalize x / 256 % 256 = b at *
  generalize x / 65536 = c at *
  obtain ⟨a1, a2, a3, a4, a5⟩ := f_all a la
  obtain ⟨b1, b2, b3, b4, b5⟩ := f_all b lb
  obtain ⟨c1, c2, c3, c4, c5⟩ := f_all c lc
  have pa := pc8_le a la
  have pb := pc8_le b lb
  have pc := pc8_le c lc
  rw [hX, st1 a b c la lb lc] at e1
  rw [e1, st2 _ _ _ a1 b1 c1] at e2
  rw [e2, st3 _ _ _ a2 b2 c2 a4 b4 c4 a3 b3 c3, a5, b5, c5] at e3
  have h127 : y6 &&& 127 = y6 % 128 := Nat.and_two_pow_sub_one_eq_mod y6 7
  rw [h127]
  obtain ⟨g1, g2, g3⟩ := st4 _ _ _ pa pb pc
  rw [← e3] at g1 g2 g3
  rw [← e4] at g1 g2 g3
  rw [← e5] at g2 g3
  have h6 : y6 = y5 := by rw [e6, Nat.div_eq_of_lt (Nat.lt_trans g2 (by decide)), Nat.add_zero]
  rw [h6, g3]
  refine ⟨?_, ?_, ?_, g1, g2, g2, rfl⟩
  · rw [e1]; exact by3_lt a1 b1 c1
  · rw [e2]; exact by3_lt (Nat.lt_trans a2 (by decide)) (Nat.lt_trans b2 (by decide)) (Nat.lt_trans c2 (by decide))
  · rw [e3]; exact by3_lt (Nat.lt_of_le_of_lt pa (by decide)) (Nat.lt_of_le_of_lt pb (by decide)) (Nat.lt_of_le_of_lt pc (by decide))
/-- The count by bytes is the number of bits. -/
theorem upK_cnt (a k : Nat) : (upK a (k + 1)).length = (upK a k).length + a / 2 ^ k % 2 := by
  rw [upK_succ]
  by_cases hb : a.testBit k = true
  · rw [if_pos hb, (bit_iff a k).1 hb]; simp
  · rw [if_neg hb]
    have : ¬ a / 2 ^ k % 2 = 1 := fun e => hb ((bit_iff a k).2 e)
    have : a / 2 ^ k % 2 = 0 := by omega
    omega
theorem upK_byte (a k : Nat) : (upK a (k + 8)).length = (upK a k).length + pc8 (a / 2 ^ k % 256) := by
  have e : ∀ i, a / 2 ^ (k + i) = a / 2 ^ k / 2 ^ i := fun i => by rw [Nat.pow_add, Nat.div_div_eq_div_mul]
  rw [show k + 8 = k + 7 + 1 from rfl, upK_cnt, show k + 7 = k + 6 + 1 from rfl, upK_cnt, show k + 6 = k + 5 + 1 from rfl, upK_cnt, show k + 5 = k + 4 + 1 from rfl, upK_cnt,
    show k + 4 = k + 3 + 1 from rfl, upK_cnt, show k + 3 = k + 2 + 1 from rfl, upK_cnt, show k + 2 = k + 1 + 1 from rfl, upK_cnt, upK_cnt]
  rw [show k + 1 + 1 + 1 + 1 + 1 + 1 + 1 = k + 7 from rfl, show k + 1 + 1 + 1 + 1 + 1 + 1 = k + 6 from rfl, show k + 1 + 1 + 1 + 1 + 1 = k + 5 from rfl, show k + 1 + 1 + 1 + 1 = k + 4 from rfl,
    show k + 1 + 1 + 1 = k + 3 from rfl, show k + 1 + 1 = k + 2 from rfl, e 7, e 6, e 5, e 4, e 3, e 2, e 1]
  generalize a / 2 ^ k = b
  generalize (upK a k).length = c
  simp only [Nat.reducePow]
  unfold pc8
  omega
theorem bits_len (a : Nat) (h : a < 16777216) : (bitsN a).length = pc8 (a % 256) + pc8 (a / 256 % 256) + pc8 (a / 65536) := by
  unfold bitsN
  rw [show (24 : Nat) = 0 + 8 + 8 + 8 from rfl, upK_byte, upK_byte, upK_byte, upK_zero]
  have e1 : a / 2 ^ 0 % 256 = a % 256 := by simp
  have e2 : a / 2 ^ (0 + 8) % 256 = a / 256 % 256 := by simp
  have e3 : a / 2 ^ (0 + 8 + 8) % 256 = a / 65536 := by
    rw [show (2 : Nat) ^ (0 + 8 + 8) = 65536 from rfl]; omega
  rw [e1, e2, e3, List.length_nil, Nat.zero_add]
end Go.Proofs.YtehdneppleifdaaDoor

namespace Go.Proofs.YtehdneppleifdaaDoor
open Go.RowKit
set_option maxRecDepth 1000000
theorem triArr : Tryd.prog.underlying 46 = some (.array 3 3) := by kernel_rfl
theorem ix0 (x y z : Int) (W : World) : (Instr.index 46 (tV x y z) (.int .i64 0)).run Tryd.prog W = .ok (.int .i64 x) W := by
  simp [Instr.index, run_underlying triArr, asIntOf, go_sem]
theorem ix1 (x y z : Int) (W : World) : (Instr.index 46 (tV x y z) (.int .i64 1)).run Tryd.prog W = .ok (.int .i64 y) W := by
  simp [Instr.index, run_underlying triArr, asIntOf, go_sem]
theorem ix2 (x y z : Int) (W : World) : (Instr.index 46 (tV x y z) (.int .i64 2)).run Tryd.prog W = .ok (.int .i64 z) W := by
  simp [Instr.index, run_underlying triArr, asIntOf, go_sem]
/-- Three orders, ones among them: from 1 to 24, with a product of at most 24. -/
structure Tri (p q r : Int) : Prop where
  p1 : 1 ≤ p
  p2 : p ≤ 24
  q1 : 1 ≤ q
  q2 : q ≤ 24
  r1 : 1 ≤ r
  r2 : r ≤ 24
  pq1 : 1 ≤ p * q
  pq2 : p * q ≤ 24
  pqr1 : 1 ≤ p * q * r
  pqr2 : p * q * r ≤ 24
theorem iProduct (w : World) (p q r : Int) (h : Tri p q r) :
    Calls Tryd.prog 68 #[tV p q r] w fun e w' => e = .returned (.int .i64 (p * q * r)) ∧ Below w.heap.size w w' := by
  obtain ⟨h1, h2, h3, h4, h5, h6, h7, h8, h9, h10⟩ := h
  have X0 := ix0 p q r
  have X1 := ix1 p q r
  have X2 := ix2 p q r
  go_enter Tryd.func68, Tryd.ntmps68
  go_wp2
  refine wp_loop_rounds 4 ?_
  rw [rounds_succ]; go_wp2
  rw [rounds_succ]; go_wp2
  rw [rounds_succ]; go_wp2
  rw [rounds_succ]; go_wp2
  go_ret
  exact ⟨rfl, Joins.below_alloc1 _ _⟩
theorem iPlaces (w : World) (p q r x : Int) (h : Tri p q r) (hx0 : 0 ≤ x) (hx : x ≤ 23) :
    Calls Tryd.prog 77 #[tV p q r, .int .i64 x] w fun e w' => e = .returned (tV (x % p) (x / p % q) (x / p / q % r)) ∧ Below w.heap.size w w' := by
  obtain ⟨h1, h2, h3, h4, h5, h6, h7, h8, h9, h10⟩ := h
  have X0 := ix0 p q r
  have X1 := ix1 p q r
  have X2 := ix2 p q r
  obtain ⟨x1, x2⟩ := quo_bnd hx0 h1
  obtain ⟨y1, y2⟩ := quo_bnd x1 h3
  go_enter Tryd.func77, Tryd.ntmps77
  go_wp2
  refine wp_loop_rounds 4 ?_
  rw [rounds_succ]; go_wp2
  rw [rounds_succ]; go_wp2
  rw [rounds_succ]; go_wp2
  rw [rounds_succ]; go_wp2
  refine bodyPost_ret (v := tV (x % p) (x / p % q) (x / p / q % r)) (by simp [results, Tryd.results77, go_sem]) rfl ⟨rfl, Joins.below_alloc3 _ _ _ _⟩
theorem prod_pad {l : List Int} (h : l.length ≤ 3) : prodI l = l.getD 0 1 * l.getD 1 1 * l.getD 2 1 := by
  match l, h with
  | [], _ => rfl
  | [a], _ => simp [prodI]
  | [a, b], _ => simp [prodI]
  | [a, b, c], _ => simp [prodI, Int.mul_assoc]
  | _ :: _ :: _ :: _ :: _, h => simp at h
/-- The orders of a group, with ones behind them. -/
def pad (l : List Int) : List Int := [l.getD 0 1, l.getD 1 1, l.getD 2 1]
theorem tri_grp {l : List Int} (h : grpB l = true) : Tri (l.getD 0 1) (l.getD 1 1) (l.getD 2 1) := by
  obtain ⟨h1, h2, h3⟩ := grpB_true h
  have hp := prod_pad h1
  have hb : ∀ j, 1 ≤ l.getD j 1 ∧ l.getD j 1 ≤ 24 := fun j => by
    by_cases hj : j < l.length
    · have := h2 j hj
      simp only [List.getD, List.getElem?_eq_getElem hj, Option.getD_some] at *
      omega
    · simp only [List.getD, List.getElem?_eq_none (by omega : l.length ≤ j), Option.getD_none]; omega
  obtain ⟨a1, a2⟩ := hb 0
  obtain ⟨b1, b2⟩ := hb 1
  obtain ⟨c1, c2⟩ := hb 2
  rw [hp] at h3
  generalize l.getD 0 1 = p at *
  generalize l.getD 1 1 = q at *
  generalize l.getD 2 1 = r at *
  have m1 := (mul_bnd a1 a2 b1 b2).1
  have m2 := Int.mul_le_mul (Int.le_refl (p * q)) c1 (by omega) (by omega)
  exact ⟨a1, a2, b1, b2, c1, c2, m1, by omega, by omega, h3⟩
end Go.Proofs.YtehdneppleifdaaDoor

namespace Go.Proofs.YtehdneppleifdaaDoor
open Go.RowKit
set_option maxRecDepth 1000000
theorem andU (a b A : Nat) (ha : a < 16777216) (hb : b < 18446744073709551616) (h : a &&& b = A) : bits .and .u64 (a : Int) (b : Int) = (A : Int) := by
  rw [bits_and_u64_nat a b (Nat.lt_trans ha (by decide)) hb, h]
theorem andI (a b : Nat) (ha : a < 9223372036854775808) (hb : b < 9223372036854775808) : bits .and .i64 (a : Int) (b : Int) = ((a &&& b : Nat) : Int) := by
  have h1 : (BitVec.ofInt 64 (a : Int)).toNat = a := by
    rw [BitVec.ofInt_natCast, BitVec.toNat_ofNat]; exact Nat.mod_eq_of_lt (by omega)
  have h2 : (BitVec.ofInt 64 (b : Int)).toNat = b := by
    rw [BitVec.ofInt_natCast, BitVec.toNat_ofNat]; exact Nat.mod_eq_of_lt (by omega)
  show IntKind.i64.wrap ((BitVec.ofInt 64 (a : Int) &&& BitVec.ofInt 64 (b : Int)).toNat : Int) = _
  rw [BitVec.toNat_and, h1, h2]
  have h3 : a &&& b ≤ a := Nat.and_le_left
  generalize a &&& b = c at *
  simp [IntKind.wrap, IntKind.signed, IntKind.bits]
  omega
theorem iOnes64 (w : World) (x : Nat) (hx : x < 16777216) :
    Calls Tryd.prog 84 #[.int .u64 x] w fun e w' => e = .returned (.int .i64 ((bitsN x).length : Nat)) ∧ w = w' := by
  have HL := Lib.hid (bits_len x hx)
  obtain ⟨A1, hA1⟩ : ∃ A, x / 2 &&& 6148914691236517205 = A := ⟨_, rfl⟩
  obtain ⟨B1, hB1⟩ : ∃ A, x &&& 6148914691236517205 = A := ⟨_, rfl⟩
  obtain ⟨y1, e1⟩ : ∃ y, y = A1 + B1 := ⟨_, rfl⟩
  obtain ⟨A2, hA2⟩ : ∃ A, y1 / 4 &&& 3689348814741910323 = A := ⟨_, rfl⟩
  obtain ⟨B2, hB2⟩ : ∃ A, y1 &&& 3689348814741910323 = A := ⟨_, rfl⟩
  obtain ⟨y2, e2⟩ : ∃ y, y = A2 + B2 := ⟨_, rfl⟩
  obtain ⟨y3, e3⟩ : ∃ y, y = (y2 / 16 + y2) &&& 1085102592571150095 := ⟨_, rfl⟩
  obtain ⟨y4, e4⟩ : ∃ y, y = y3 + y3 / 256 := ⟨_, rfl⟩
  obtain ⟨y5, e5⟩ : ∃ y, y = y4 + y4 / 65536 := ⟨_, rfl⟩
  obtain ⟨y6, e6⟩ : ∃ y, y = y5 + y5 / 4294967296 := ⟨_, rfl⟩
  obtain ⟨l1, l2, l3, l4, l5, l6, H⟩ := ones24 x y1 y2 y3 y4 y5 y6 hx (by rw [hA1, hB1]; exact e1) (by rw [hA2, hB2]; exact e2) e3 e4 e5 e6
  rw [← HL.out] at H
  obtain ⟨n, HN⟩ : ∃ n, Hid ((bitsN x).length = n) := ⟨_, Lib.hid rfl⟩
  rw [HN.out] at H
  have HH : bits .and .i64 (y6 : Int) 127 = (n : Int) := by
    rw [← H]
    exact andI y6 127 (Nat.lt_trans l6 (by decide)) (by decide)
  have q1 : bits .and .u64 ((x : Int) / 2) 6148914691236517205 = (A1 : Int) := by
    have h := andU (x / 2) 6148914691236517205 A1 (Nat.lt_of_le_of_lt (Nat.div_le_self _ _) hx) (by decide) hA1
    rw [Int.natCast_ediv] at h; exact h
  have q2 : bits .and .u64 (x : Int) 6148914691236517205 = (B1 : Int) := andU x 6148914691236517205 B1 hx (by decide) hB1
  have q3 : bits .and .u64 ((y1 : Int) / 4) 3689348814741910323 = (A2 : Int) := by
    have h := andU (y1 / 4) 3689348814741910323 A2 (Nat.lt_of_le_of_lt (Nat.div_le_self _ _) l1) (by decide) hA2
    rw [Int.natCast_ediv] at h; exact h
  have q4 : bits .and .u64 (y1 : Int) 3689348814741910323 = (B2 : Int) := andU y1 3689348814741910323 B2 l1 (by decide) hB2
  have q5 : bits .and .u64 ((y2 : Int) / 16 + y2) 1085102592571150095 = (y3 : Int) := by
    rw [e3, show (y2 : Int) / 16 + y2 = ((y2 / 16 + y2 : Nat) : Int) by rw [Int.natCast_add, Int.natCast_ediv]; rfl]
    exact bits_and_u64_nat _ _ (Nat.lt_of_le_of_lt (Nat.add_le_add (Nat.div_le_self _ _) (Nat.le_refl _)) (Nat.lt_trans (Nat.add_lt_add l2 l2) (by decide))) (by decide)
  clear hA1 hB1 hA2 hB2 e3 H
  have s1 : IntKind.u64.wrap ((A1 : Int) + B1) = y1 := by rw [IntKind.wrap_u64]; omega
  have s2 : IntKind.u64.wrap ((A2 : Int) + B2) = y2 := by rw [IntKind.wrap_u64]; omega
  have s3 : IntKind.u64.wrap ((y2 : Int) / 16 + y2) = (y2 : Int) / 16 + y2 := by rw [IntKind.wrap_u64]; omega
  have s4 : IntKind.u64.wrap ((y3 : Int) + y3 / 256) = y4 := by rw [IntKind.wrap_u64]; omega
  have s5 : IntKind.u64.wrap ((y4 : Int) + y4 / 65536) = y5 := by rw [IntKind.wrap_u64]; omega
  have s6 : IntKind.u64.wrap ((y5 : Int) + y5 / 4294967296) = y6 := by rw [IntKind.wrap_u64]; omega
  have s7 : wrap64 (y6 : Int) = y6 := by unfold wrap64; omega
  rw [HN.out]
  clear e1 e2 e4 e5 e6 HL
  have Q := Lib.hid (And.intro q1 (And.intro q2 (And.intro s1 (And.intro q3 (And.intro q4 (And.intro s2 (And.intro s3 (And.intro q5 (And.intro s4 (And.intro s5 (And.intro s6 (And.intro s7 HH))))))))))))
  clear q1 q2 s1 q3 q4 s2 s3 q5 s4 s5 s6 s7 HH
  go_enter Tryd.func84, Tryd.ntmps84
  go_wp2
  go_ret
  obtain ⟨q1, q2, s1, q3, q4, s2, s3, q5, s4, s5, s6, s7, HH⟩ := Q.out
  refine ⟨?_, rfl⟩
  simp only [q1, q2, s1, q3, q4, s2, s3, q5, s4, s5, s6, s7, HH]
  rfl
theorem iOnes (w : World) (x : Nat) (hx : x < 16777216) :
    Calls Tryd.prog 70 #[.int .u64 x] w fun e w' => e = .returned (.int .i64 ((bitsN x).length : Nat)) ∧ w = w' := by
  have HX := Lib.hid hx
  go_enter Tryd.func70, Tryd.ntmps70
  go_wp2_with (go_at_call 84; refine (iOnes64 _ x HX.out).mono ?_; rintro e w1 ⟨rfl, rfl⟩)
  go_ret
  exact ⟨rfl, rfl⟩
theorem iCnt (w : World) (x : Nat) (hx : x < 16777216) :
    Calls Tryd.prog 46 #[.int .u64 x] w fun e w' => e = .returned (.int .i64 ((bitsN x).length : Nat)) ∧ w = w' := by
  have HX := Lib.hid hx
  go_enter Tryd.func46, Tryd.ntmps46
  go_wp2_with (go_at_call 70; refine (iOnes _ x HX.out).mono ?_; rintro e w1 ⟨rfl, rfl⟩)
  go_ret
  exact ⟨rfl, rfl⟩
theorem iHas (w : World) (s x : Nat) (hs : s < 16777216) (hx : x ≤ 23) :
    Calls Tryd.prog 69 #[.int .u64 s, .int .i64 x] w fun e w' => e = .returned (.bool (s.testBit x)) ∧ w = w' := by
  have hb : bits .and .u64 ((s : Int) / 2 ^ x) 1 = (if s.testBit x = true then 1 else 0) := by
    have h1 := bits_and_u64_nat (s / 2 ^ x) 1 (Nat.lt_of_le_of_lt (Nat.div_le_self _ _) (Nat.lt_trans hs (by decide))) (by decide)
    rw [Nat.and_one_is_mod] at h1
    simp only [Int.natCast_ediv, Int.natCast_pow] at h1
    rw [show ((1 : Nat) : Int) = 1 by rfl, show ((2 : Nat) : Int) = 2 by rfl] at h1
    rw [h1]
    by_cases hb : s.testBit x = true
    · rw [if_pos hb, (bit_iff s x).1 hb]; rfl
    · rw [if_neg hb]
      have : ¬ s / 2 ^ x % 2 = 1 := fun e => hb ((bit_iff s x).2 e)
      have : s / 2 ^ x % 2 = 0 := by omega
      rw [this]; rfl
  cases hbt : s.testBit x with
  | true =>
    rw [hbt, if_pos rfl] at hb
    clear hbt
    go_enter Tryd.func69, Tryd.ntmps69
    go_wp2
    go_ret
    exact ⟨rfl, rfl⟩
  | false =>
    rw [hbt, if_neg (by decide)] at hb
    clear hbt
    go_enter Tryd.func69, Tryd.ntmps69
    go_wp2
    go_ret
    exact ⟨rfl, rfl⟩
theorem iWith (w : World) (s x : Nat) (hs : s < 16777216) (hx : x ≤ 23) :
    Calls Tryd.prog 73 #[.int .u64 s, .int .i64 x] w fun e w' => e = .returned (.int .u64 (s ||| 2 ^ x : Nat)) ∧ w = w' := by
  have hp := pow_le24 (k := x) (by omega)
  have hw : IntKind.u64.wrap (2 ^ x) = ((2 ^ x : Nat) : Int) := by
    rw [pow_nat, IntKind.wrap_u64]
    generalize 2 ^ x = N at *
    omega
  have hb := bits_or_u64_nat s (2 ^ x) (Nat.lt_trans hs (by decide)) (by omega)
  obtain ⟨r, hr⟩ : ∃ r, (s ||| 2 ^ x) = r := ⟨_, rfl⟩
  rw [hr] at hb
  rw [hr]
  rw [← hw] at hb
  clear hr hw hp
  go_enter Tryd.func73, Tryd.ntmps73
  go_wp2
  go_ret
  exact ⟨rfl, rfl⟩
theorem iFull (w : World) (p q r N : Int) (h : Tri p q r) (hN : N = ((2 ^ (p * q * r).toNat : Nat) : Int) - 1) :
    Calls Tryd.prog 56 #[tV p q r] w fun e w' => e = .returned (.int .u64 N) ∧ Below w.heap.size w w' := by
  have HT := Lib.hid h
  obtain ⟨_, _, _, _, _, _, _, _, h1, h2⟩ := h
  have hp := pow_le24 (k := (p * q * r).toNat) (by omega)
  have h0 := Nat.two_pow_pos (p * q * r).toNat
  have hw : IntKind.u64.wrap (IntKind.u64.wrap (2 ^ (p * q * r).toNat) - 1) = N := by
    rw [hN, pow_nat, IntKind.wrap_u64, IntKind.wrap_u64]
    generalize 2 ^ (p * q * r).toNat = M at *
    omega
  clear hp h0 hN
  go_enter Tryd.func56, Tryd.ntmps56
  go_wp2_with (go_at_call 68; refine (iProduct _ _ _ _ HT.out).mono ?_; rintro e w2 ⟨rfl, hb2⟩)
  go_ret
  exact ⟨by rw [← hw]; rfl, (Joins.below_alloc1 w _).trans (hb2.mono (by simp))⟩
end Go.Proofs.YtehdneppleifdaaDoor
