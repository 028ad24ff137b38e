/- Merged: Ones GrpTri SetBits Each. -/
import Derived.Test.YthlpjiibjlaebaaGreatDoorMGAF
import Derived.Test.YthlpjiibjlaebaaGreatDoorMGAE
import Derived.Laws.Bits64b
import Derived.RangeFuncFrom
import Derived.RangeFuncBox
import Derived.RangeFuncNested
import Derived.RangeFuncBound
import Derived.RangeFuncCalls
import Derived.RangeFuncLeaves
import Derived.Shelf.Abstract
import Derived.Shelf.RegionOpen
import Derived.Shelf.Spec.TrailingZeros
import Derived.WalkKit
import Derived.OwnWalkIn
import Derived.TacticsInMore
import Derived.LoopNIn
import Derived.LoopIn
import Derived.Maps.AppendAt
import Derived.Lib.LaidTab
import Derived.Lib.AppendIntMem
namespace Go.Proofs.YthlpjiibjlaebaaGreatDoor
def pc8 (a : Nat) : Nat := a % 2 + a / 2 % 2 + a / 4 % 2 + a / 8 % 2 + a / 16 % 2 + a / 32 % 2 + a / 64 % 2 + a / 128 % 2
theorem and256 (u v p q : Nat) (hu : u < 256) (hp : p < 256) : (u + 256 * v) &&& (p + 256 * q) = (u &&& p) + 256 * (v &&& q) := by
  apply Nat.eq_of_testBit_eq
  intro i
  have h1 : u &&& p < 2 ^ 8 := Nat.lt_of_le_of_lt Nat.and_le_left hu
  have e : ∀ x y : Nat, x + 256 * y = 2 ^ 8 * y + x := fun x y => by omega
  rw [Nat.testBit_and, e, e, e, Nat.testBit_two_pow_mul_add _ (by omega : u < 2 ^ 8), Nat.testBit_two_pow_mul_add _ (by omega : p < 2 ^ 8), Nat.testBit_two_pow_mul_add _ h1]
  by_cases h : i < 8
  · simp [h]
  · simp [h]
/-- Three bytes. -/
def by3 (a b c : Nat) : Nat := a + 256 * (b + 256 * c)
theorem and3 (a b c p q : Nat) (ha : a < 256) (hb : b < 256) (hc : c < 256) (hp : p < 256) : by3 a b c &&& (p + 256 * (p + 256 * (p + 256 * q))) = by3 (a &&& p) (b &&& p) (c &&& p) := by
  unfold by3
  have h : c &&& (p + 256 * q) = c &&& p := by
    have := and256 c 0 p q hc hp
    simpa using this
  rw [and256 _ _ _ _ ha hp, and256 _ _ _ _ hb hp, h]
theorem s1_8 : ∀ a, a < 256 → ∀ r, r < 2 → ((a / 2 + 128 * r) &&& 85) = (a / 2 &&& 85) := by decide +kernel
theorem s2_8 : ∀ a, a < 256 → ∀ r, r < 4 → ((a / 4 + 64 * r) &&& 51) = (a / 4 &&& 51) := by decide +kernel
def f1 (a : Nat) : Nat := (a / 2 &&& 85) + (a &&& 85)
def f2 (a : Nat) : Nat := (a / 4 &&& 51) + (a &&& 51)
theorem f_all : ∀ a, a < 256 → f1 a < 256 ∧ f2 (f1 a) < 69 ∧ f2 (f1 a) % 16 ≤ 4 ∧ f2 (f1 a) / 16 ≤ 4 ∧ (f2 (f1 a) / 16 + f2 (f1 a)) % 16 = pc8 a := by decide +kernel
theorem pc8_le : ∀ a, a < 256 → pc8 a ≤ 8 := by decide +kernel
theorem and3' (M a b c p q : Nat) (hM : M = p + 256 * (p + 256 * (p + 256 * q))) (ha : a < 256) (hb : b < 256) (hc : c < 256) (hp : p < 256) : by3 a b c &&& M = by3 (a &&& p) (b &&& p) (c &&& p) := by
  rw [hM, and3 a b c p q ha hb hc hp]
theorem by3_half (a b c : Nat) : by3 a b c / 2 = by3 (a / 2 + 128 * (b % 2)) (b / 2 + 128 * (c % 2)) (c / 2) := by unfold by3; omega
theorem by3_add (a b c d e f : Nat) : by3 a b c + by3 d e f = by3 (a + d) (b + e) (c + f) := by unfold by3; omega
theorem st1 (a b c : Nat) (ha : a < 256) (hb : b < 256) (hc : c < 256) :
    (by3 a b c / 2 &&& 6148914691236517205) + (by3 a b c &&& 6148914691236517205) = by3 (f1 a) (f1 b) (f1 c) := by
  have u := and3' 6148914691236517205 (a / 2 + 128 * (b % 2)) (b / 2 + 128 * (c % 2)) (c / 2) 85 366503875925 (by decide) (by omega) (by omega) (by omega) (by decide)
  have v := and3' 6148914691236517205 a b c 85 366503875925 (by decide) ha hb hc (by decide)
  rw [by3_half, u, v, s1_8 a ha _ (by omega), s1_8 b hb _ (by omega), by3_add]
  rfl
theorem by3_quart (a b c : Nat) : by3 a b c / 4 = by3 (a / 4 + 64 * (b % 4)) (b / 4 + 64 * (c % 4)) (c / 4) := by unfold by3; omega
theorem st2 (a b c : Nat) (ha : a < 256) (hb : b < 256) (hc : c < 256) :
    (by3 a b c / 4 &&& 3689348814741910323) + (by3 a b c &&& 3689348814741910323) = by3 (f2 a) (f2 b) (f2 c) := by
  have u := and3' 3689348814741910323 (a / 4 + 64 * (b % 4)) (b / 4 + 64 * (c % 4)) (c / 4) 51 219902325555 (by decide) (by omega) (by omega) (by omega) (by decide)
  have v := and3' 3689348814741910323 a b c 51 219902325555 (by decide) ha hb hc (by decide)
  rw [by3_quart, u, v, s2_8 a ha _ (by omega), s2_8 b hb _ (by omega), by3_add]
  rfl
theorem by3_six (a b c : Nat) : by3 a b c / 16 + by3 a b c = by3 (a / 16 + a + 16 * (b % 16)) (b / 16 + b + 16 * (c % 16)) (c / 16 + c) := by unfold by3; omega
theorem st3 (a b c : Nat) (ha : a < 69) (hb : b < 69) (_hc : c < 69) (_a4 : a / 16 ≤ 4) (_b4 : b / 16 ≤ 4) (c4 : c / 16 ≤ 4) (a5 : a % 16 ≤ 4) (b5 : b % 16 ≤ 4) (c5 : c % 16 ≤ 4) :
    (by3 a b c / 16 + by3 a b c) &&& 1085102592571150095 = by3 ((a / 16 + a) % 16) ((b / 16 + b) % 16) ((c / 16 + c) % 16) := by
  have u := and3' 1085102592571150095 (a / 16 + a + 16 * (b % 16)) (b / 16 + b + 16 * (c % 16)) (c / 16 + c) 15 64677154575 (by decide) (by omega) (by omega) (by omega) (by decide)
  have h15 : ∀ x : Nat, x &&& 15 = x % 16 := fun x => Nat.and_two_pow_sub_one_eq_mod x 4
  rw [by3_six, u, h15, h15, h15, show (a / 16 + a + 16 * (b % 16)) % 16 = (a / 16 + a) % 16 by omega, show (b / 16 + b + 16 * (c % 16)) % 16 = (b / 16 + b) % 16 by omega]
theorem by3_lt {a b c : Nat} (ha : a < 256) (hb : b < 256) (hc : c < 256) : by3 a b c < 16777216 := by unfold by3; omega
theorem st4 (A B C : Nat) (hA : A ≤ 8) (hB : B ≤ 8) (hC : C ≤ 8) :
    by3 A B C + by3 A B C / 256 < 33554432 ∧ (by3 A B C + by3 A B C / 256) + (by3 A B C + by3 A B C / 256) / 65536 < 33554432 ∧
    ((by3 A B C + by3 A B C / 256) + (by3 A B C + by3 A B C / 256) / 65536) % 128 = A + B + C := by
  have h1 : by3 A B C / 256 = B + 256 * C := by unfold by3; omega
  have h2 : by3 A B C + (B + 256 * C) = (A + B) + 256 * (B + C) + 65536 * C := by unfold by3; omega
  rw [h1, h2]
  have h3 : ((A + B) + 256 * (B + C) + 65536 * C) / 65536 = C := by omega
  rw [h3]
  omega
/-- The library's count of bits of a number below 2^24. -/
theorem ones24 (x y1 y2 y3 y4 y5 y6 : Nat) (hx : x < 16777216) (e1 : y1 = (x / 2 &&& 6148914691236517205) + (x &&& 6148914691236517205)) (e2 : y2 = (y1 / 4 &&& 3689348814741910323) + (y1 &&& 3689348814741910323))
    (e3 : y3 = (y2 / 16 + y2) &&& 1085102592571150095) (e4 : y4 = y3 + y3 / 256) (e5 : y5 = y4 + y4 / 65536) (e6 : y6 = y5 + y5 / 4294967296) :
    y1 < 16777216 ∧ y2 < 16777216 ∧ y3 < 16777216 ∧ y4 < 33554432 ∧ y5 < 33554432 ∧ y6 < 33554432 ∧ y6 &&& 127 = pc8 (x % 256) + pc8 (x / 256 % 256) + pc8 (x / 65536) := by
  have la : x % 256 < 256 := by omega
  have lb : x / 256 % 256 < 256 := by omega
  have lc : x / 65536 < 256 := by omega
  have hX : x = by3 (x % 256) (x / 256 % 256) (x / 65536) := by unfold by3; omega
  generalize x % 256 = a at *
  generalize x / 256 % 256 = b at *
  generalize x / 65536 = c at *
  obtain ⟨a1, a2, a3, a4, a5⟩ := f_all a la
  obtain ⟨b1, b2, b3, b4, b5⟩ := f_all b lb
  obtain ⟨c1, c2, c3, c4, c5⟩ := f_all c lc
  have pa := pc8_le a la
  have pb := pc8_le b lb
  have pc := pc8_le c lc
  rw [hX, st1 a b c la lb lc] at e1
  rw [e1, st2 _ _ _ a1 b1 c1] at e2
  rw [e2, st3 _ _ _ a2 b2 c2 a4 b4 c4 a3 b3 c3, a5, b5, c5] at e3
  have h127 : y6 &&& 127 = y6 % 128 := Nat.and_two_pow_sub_one_eq_mod y6 7
  rw [h127]
  obtain ⟨g1, g2, g3⟩ := st4 _ _ _ pa pb pc
  rw [← e3] at g1 g2 g3
  rw [← e4] at g1 g2 g3
  rw [← e5] at g2 g3
  have h6 : y6 = y5 := by rw [e6, Nat.div_eq_of_lt (Nat.lt_trans g2 (by decide)), Nat.add_zero]
  rw [h6, g3]
  refine ⟨?_, ?_, ?_, g1, g2, g2, rfl⟩
  · rw [e1]; exact by3_lt a1 b1 c1
  · rw [e2]; exact by3_lt (Nat.lt_trans a2 (by decide)) (Nat.lt_trans b2 (by decide)) (Nat.lt_trans c2 (by decide))
  · rw [e3]; exact by3_lt (Nat.lt_of_le_of_lt pa (by decide)) (Nat.lt_of_le_of_lt pb (by decide)) (Nat.lt_of_le_of_lt pc (by decide))
/-- The count by bytes is the number of bits. -/
theorem upK_cnt (a k : Nat) : (upK a (k + 1)).length = (upK a k).length + a / 2 ^ k % 2 := by
  rw [upK_succ]
  by_cases hb : a.testBit k = true
  · rw [if_pos hb, (bit_iff a k).1 hb]; simp
  · rw [if_neg hb]
    have : ¬ a / 2 ^ k % 2 = 1 := fun e => hb ((bit_iff a k).2 e)
    have : a / 2 ^ k % 2 = 0 := by omega
    omega
theorem upK_byte (a k : Nat) : (upK a (k + 8)).length = (upK a k).length + pc8 (a / 2 ^ k % 256) := by
  have e : ∀ i, a / 2 ^ (k + i) = a / 2 ^ k / 2 ^ i := fun i => by rw [Nat.pow_add, Nat.div_div_eq_div_mul]
  rw [show k + 8 = k + 7 + 1 from rfl, upK_cnt, show k + 7 = k + 6 + 1 from rfl, upK_cnt, show k + 6 = k + 5 + 1 from rfl, upK_cnt, show k + 5 = k + 4 + 1 from rfl, upK_cnt,
    show k + 4 = k + 3 + 1 from rfl, upK_cnt, show k + 3 = k + 2 + 1 from rfl, upK_cnt, show k + 2 = k + 1 + 1 from rfl, upK_cnt, upK_cnt]
  rw [show k + 1 + 1 + 1 + 1 + 1 + 1 + 1 = k + 7 from rfl, show k + 1 + 1 + 1 + 1 + 1 + 1 = k + 6 from rfl, show k + 1 + 1 + 1 + 1 + 1 = k + 5 from rfl, show k + 1 + 1 + 1 + 1 = k + 4 from rfl,
    show k + 1 + 1 + 1 = k + 3 from rfl, show k + 1 + 1 = k + 2 from rfl, e 7, e 6, e 5, e 4, e 3, e 2, e 1]
  generalize a / 2 ^ k = b
  generalize (upK a k).length = c
  simp only [Nat.reducePow]
  unfold pc8
  omega
theorem bits_len (a : Nat) (h : a < 16777216) : (bitsN a).length = pc8 (a % 256) + pc8 (a / 256 % 256) + pc8 (a / 65536) := by
  unfold bitsN
  rw [show (24 : Nat) = 0 + 8 + 8 + 8 from rfl, upK_byte, upK_byte, upK_byte, upK_zero]
  have e1 : a / 2 ^ 0 % 256 = a % 256 := by simp
  have e2 : a / 2 ^ (0 + 8) % 256 = a / 256 % 256 := by simp
  have e3 : a / 2 ^ (0 + 8 + 8) % 256 = a / 65536 := by
    rw [show (2 : Nat) ^ (0 + 8 + 8) = 65536 from rfl]; omega
  rw [e1, e2, e3, List.length_nil, Nat.zero_add]
end Go.Proofs.YthlpjiibjlaebaaGreatDoor

namespace Go.Proofs.YthlpjiibjlaebaaGreatDoor
open Go.RowKit
set_option maxRecDepth 1000000
theorem triArr : Tryz.prog.underlying 46 = some (.array 3 3) := by kernel_rfl
theorem ix0 (x y z : Int) (W : World) : (Instr.index 46 (tV x y z) (.int .i64 0)).run Tryz.prog W = .ok (.int .i64 x) W := by
  simp [Instr.index, run_underlying triArr, asIntOf, go_sem]
theorem ix1 (x y z : Int) (W : World) : (Instr.index 46 (tV x y z) (.int .i64 1)).run Tryz.prog W = .ok (.int .i64 y) W := by
  simp [Instr.index, run_underlying triArr, asIntOf, go_sem]
theorem ix2 (x y z : Int) (W : World) : (Instr.index 46 (tV x y z) (.int .i64 2)).run Tryz.prog W = .ok (.int .i64 z) W := by
  simp [Instr.index, run_underlying triArr, asIntOf, go_sem]
/-- Three orders, ones among them: from 1 to 24, with a product of at most 24. -/
structure Tri (p q r : Int) : Prop where
  p1 : 1 ≤ p
  p2 : p ≤ 24
  q1 : 1 ≤ q
  q2 : q ≤ 24
  r1 : 1 ≤ r
  r2 : r ≤ 24
  pq1 : 1 ≤ p * q
  pq2 : p * q ≤ 24
  pqr1 : 1 ≤ p * q * r
  pqr2 : p * q * r ≤ 24
theorem iProduct (w : World) (p q r : Int) (h : Tri p q r) :
    Calls Tryz.prog 39 #[tV p q r] w fun e w' => e = .returned (.int .i64 (p * q * r)) ∧ Below w.heap.size w w' := by
  obtain ⟨h1, h2, h3, h4, h5, h6, h7, h8, h9, h10⟩ := h
  have X0 := ix0 p q r
  have X1 := ix1 p q r
  have X2 := ix2 p q r
  go_enter Tryz.func39, Tryz.ntmps39
  go_wp2
  refine wp_loop_rounds 4 ?_
  rw [rounds_succ]; go_wp2
  rw [rounds_succ]; go_wp2
  rw [rounds_succ]; go_wp2
  rw [rounds_succ]; go_wp2
  go_ret
  exact ⟨rfl, Joins.below_alloc1 _ _⟩
theorem iPlaces (w : World) (p q r x : Int) (h : Tri p q r) (hx0 : 0 ≤ x) (hx : x ≤ 23) :
    Calls Tryz.prog 88 #[tV p q r, .int .i64 x] w fun e w' => e = .returned (tV (x % p) (x / p % q) (x / p / q % r)) ∧ Below w.heap.size w w' := by
  obtain ⟨h1, h2, h3, h4, h5, h6, h7, h8, h9, h10⟩ := h
  have X0 := ix0 p q r
  have X1 := ix1 p q r
  have X2 := ix2 p q r
  obtain ⟨x1, x2⟩ := quo_bnd hx0 h1
  obtain ⟨y1, y2⟩ := quo_bnd x1 h3
  go_enter Tryz.func88, Tryz.ntmps88
  go_wp2
  refine wp_loop_rounds 4 ?_
  rw [rounds_succ]; go_wp2
  rw [rounds_succ]; go_wp2
  rw [rounds_succ]; go_wp2
  rw [rounds_succ]; go_wp2
  refine bodyPost_ret (v := tV (x % p) (x / p % q) (x / p / q % r)) (by simp [results, Tryz.results88, go_sem]) rfl ⟨rfl, Joins.below_alloc3 _ _ _ _⟩
theorem prod_pad {l : List Int} (h : l.length ≤ 3) : prodI l = l.getD 0 1 * l.getD 1 1 * l.getD 2 1 := by
  match l, h with
  | [], _ => rfl
  | [a], _ => simp [prodI]
  | [a, b], _ => simp [prodI]
  | [a, b, c], _ => simp [prodI, Int.mul_assoc]
  | _ :: _ :: _ :: _ :: _, h => simp at h
/-- The orders of a group, with ones behind them. -/
def pad (l : List Int) : List Int := [l.getD 0 1, l.getD 1 1, l.getD 2 1]
theorem tri_grp {l : List Int} (h : grpB l = true) : Tri (l.getD 0 1) (l.getD 1 1) (l.getD 2 1) := by
  obtain ⟨h1, h2, h3⟩ := grpB_true h
  have hp := prod_pad h1
  have hb : ∀ j, 1 ≤ l.getD j 1 ∧ l.getD j 1 ≤ 24 := fun j => by
    by_cases hj : j < l.length
    · have := h2 j hj
      simp only [List.getD, List.getElem?_eq_getElem hj, Option.getD_some] at *
      omega
    · simp only [List.getD, List.getElem?_eq_none (by omega : l.length ≤ j), Option.getD_none]; omega
  obtain ⟨a1, a2⟩ := hb 0
  obtain ⟨b1, b2⟩ := hb 1
  obtain ⟨c1, c2⟩ := hb 2
  rw [hp] at h3
  generalize l.getD 0 1 = p at *
  generalize l.getD 1 1 = q at *
  generalize l.getD 2 1 = r at *
  have m1 := (mul_bnd a1 a2 b1 b2).1
  have m2 := Int.mul_le_mul (Int.le_refl (p * q)) c1 (by omega) (by omega)
  exact ⟨a1, a2, b1, b2, c1, c2, m1, by omega, by omega, h3⟩
end Go.Proofs.YthlpjiibjlaebaaGreatDoor

namespace Go.Proofs.YthlpjiibjlaebaaGreatDoor
open Go.RowKit
set_option maxRecDepth 1000000
theorem andU (a b A : Nat) (ha : a < 16777216) (hb : b < 18446744073709551616) (h : a &&& b = A) : bits .and .u64 (a : Int) (b : Int) = (A : Int) := by
  rw [bits_and_u64_nat a b (Nat.lt_trans ha (by decide)) hb, h]
theorem andI (a b : Nat) (ha : a < 9223372036854775808) (hb : b < 9223372036854775808) : bits .and .i64 (a : Int) (b : Int) = ((a &&& b : Nat) : Int) := by
  have h1 : (BitVec.ofInt 64 (a : Int)).toNat = a := by
    rw [BitVec.ofInt_natCast, BitVec.toNat_ofNat]; exact Nat.mod_eq_of_lt (by omega)
  have h2 : (BitVec.ofInt 64 (b : Int)).toNat = b := by
    rw [BitVec.ofInt_natCast, BitVec.toNat_ofNat]; exact Nat.mod_eq_of_lt (by omega)
  show IntKind.i64.wrap ((BitVec.ofInt 64 (a : Int) &&& BitVec.ofInt 64 (b : Int)).toNat : Int) = _
  rw [BitVec.toNat_and, h1, h2]
  have h3 : a &&& b ≤ a := Nat.and_le_left
  generalize a &&& b = c at *
  simp [IntKind.wrap, IntKind.signed, IntKind.bits]
  omega
theorem iWith (w : World) (s x : Nat) (hs : s < 16777216) (hx : x ≤ 23) :
    Calls Tryz.prog 92 #[.int .u64 s, .int .i64 x] w fun e w' => e = .returned (.int .u64 (s ||| 2 ^ x : Nat)) ∧ w = w' := by
  have hp := pow_le24 (k := x) (by omega)
  have hw : IntKind.u64.wrap (2 ^ x) = ((2 ^ x : Nat) : Int) := by
    rw [pow_nat, IntKind.wrap_u64]
    generalize 2 ^ x = N at *
    omega
  have hb := bits_or_u64_nat s (2 ^ x) (Nat.lt_trans hs (by decide)) (by omega)
  obtain ⟨r, hr⟩ : ∃ r, (s ||| 2 ^ x) = r := ⟨_, rfl⟩
  rw [hr] at hb
  rw [hr]
  rw [← hw] at hb
  clear hr hw hp
  go_enter Tryz.func92, Tryz.ntmps92
  go_wp2
  go_ret
  exact ⟨rfl, rfl⟩
theorem iFull (w : World) (p q r N : Int) (h : Tri p q r) (hN : N = ((2 ^ (p * q * r).toNat : Nat) : Int) - 1) :
    Calls Tryz.prog 72 #[tV p q r] w fun e w' => e = .returned (.int .u64 N) ∧ Below w.heap.size w w' := by
  have HT := Lib.hid h
  obtain ⟨_, _, _, _, _, _, _, _, h1, h2⟩ := h
  have hp := pow_le24 (k := (p * q * r).toNat) (by omega)
  have h0 := Nat.two_pow_pos (p * q * r).toNat
  have hw : IntKind.u64.wrap (IntKind.u64.wrap (2 ^ (p * q * r).toNat) - 1) = N := by
    rw [hN, pow_nat, IntKind.wrap_u64, IntKind.wrap_u64]
    generalize 2 ^ (p * q * r).toNat = M at *
    omega
  clear hp h0 hN
  go_enter Tryz.func72, Tryz.ntmps72
  go_wp2_with (go_at_call 39; refine (iProduct _ _ _ _ HT.out).mono ?_; rintro e w2 ⟨rfl, hb2⟩)
  go_ret
  exact ⟨by rw [← hw]; rfl, (Joins.below_alloc1 w _).trans (hb2.mono (by simp))⟩
end Go.Proofs.YthlpjiibjlaebaaGreatDoor

namespace Go.Proofs.YthlpjiibjlaebaaGreatDoor
open Go.RowKit Go.Shelf
attribute [local go_sem] Oper.semAt_some
set_option maxRecDepth 1000000
def tabZ : List Int := Lib.deBruijn64tab.map fun (n : Nat) => (n : Int)
/-- The library's table reads as it is laid, whatever is done from block B on. -/
def TabZ (B : Nat) (w : World) : Prop := Lib.TabBelow Tryz.prog B w "math/bits.deBruijn64tab" .u8 tabZ
theorem TabZ.on {B : Nat} {w w1 : World} (h : TabZ B w) (hb : Below B w w1) : TabZ B w1 := Lib.TabBelow.on h hb
theorem TabZ.at {B : Nat} {w : World} (h : TabZ B w) (j : Nat) (hj : j < 64) : w.cell? ⟨1, j, none⟩ = some (.int .u8 ((Lib.deBruijn64tab.getD j 0 : Nat) : Int)) := by
  have h1 := Lib.TabIs.cell (g := 1) (Lib.TabBelow.here h) (by kernel_rfl) j (by unfold tabZ; rw [List.length_map]; exact hj)
  have hl : j < Lib.deBruijn64tab.length := hj
  simpa [tabZ, List.getD, List.getElem?_eq_getElem hl] using h1
theorem iTz64 (w : World) (x : Nat) (hx : x < 16777216) (h0 : x ≠ 0) (B : Nat) (ht : TabZ B w) :
    Calls Tryz.prog 105 #[.int .u64 x] w fun e w' => e = .returned (.int .i64 (Lib.ctz 64 x : Nat)) ∧ w = w' := by
  have hx64 : x < 18446744073709551616 := Nat.lt_trans hx (by decide)
  obtain ⟨hlow, hk⟩ := Lib.lowest_bit 64 x h0 hx64
  obtain ⟨hi, htab⟩ := Lib.deBruijn64_at _ hk
  have hcell := ht.at _ hi
  rw [htab] at hcell
  have key := tz64_key x _ hx64 h0 hlow
  have hx0 : ((x : Int) == 0) = false := by simp; omega
  obtain ⟨k, hkk⟩ : ∃ k, Lib.ctz 64 x = k := ⟨_, rfl⟩
  rw [hkk] at hcell hk
  rw [hkk]
  obtain ⟨idx, hidx⟩ : ∃ i, 2 ^ Lib.ctz 64 x * 285870213051353865 % 18446744073709551616 / 288230376151711744 = i := ⟨_, rfl⟩
  rw [hidx] at key hi
  rw [hkk] at hidx
  rw [hidx] at hcell
  clear htab hlow hkk hidx h0 ht
  go_enter Tryz.func105, Tryz.ntmps105
  go_wp2_with (simp only [key])
  go_ret
  exact ⟨rfl, rfl⟩
theorem iTz (w : World) (x : Nat) (hx : x < 16777216) (h0 : x ≠ 0) (B : Nat) (ht : TabZ B w) :
    Calls Tryz.prog 102 #[.int .u64 x] w fun e w' => e = .returned (.int .i64 (Lib.ctz 64 x : Nat)) ∧ w = w' := by
  have HX := Lib.hid hx
  have H0 := Lib.hid h0
  have HT := Lib.hid ht
  clear ht h0
  go_enter Tryz.func102, Tryz.ntmps102
  go_wp2_with (go_at_call 105; refine (iTz64 _ x HX.out H0.out B HT.out).mono ?_; rintro e w1 ⟨rfl, rfl⟩)
  go_ret
  exact ⟨rfl, rfl⟩
theorem iLeast (w : World) (x : Nat) (hx : x < 16777216) (h0 : x ≠ 0) (B : Nat) (ht : TabZ B w) :
    Calls Tryz.prog 95 #[.int .u64 x] w fun e w' => e = .returned (.int .i64 (Lib.ctz 64 x : Nat)) ∧ w = w' := by
  have HX := Lib.hid hx
  have H0 := Lib.hid h0
  have HT := Lib.hid ht
  clear ht h0
  go_enter Tryz.func95, Tryz.ntmps95
  go_wp2_with (go_at_call 102; refine (iTz _ x HX.out H0.out B HT.out).mono ?_; rintro e w1 ⟨rfl, rfl⟩)
  go_ret
  exact ⟨rfl, rfl⟩
set_option maxHeartbeats 1000000 in
theorem each_in (n : Nat) (s : Nat) (hs : s < 2 ^ 24) (B l : Nat) (J : List Nat → World → Prop) (hT : ∀ pre W, J pre W → TabZ B W)
    (hY : ∀ pre x W, J pre W → x < 24 → s.testBit x = true → pre.length < 24 → YieldAt Fence.wide (n - 1) Tryz.prog l #[.int .i64 (x : Nat)] W fun e W' => e = .returned (.bool true) ∧ J (pre ++ [x]) W')
    (W : World) (h0 : J [] W) :
    CallsIn Fence.wide n Tryz.prog 79 #[.int .u64 s, .func (.yield l) #[] #[]] W fun e W' => (∃ v, e = .returned v) ∧ J (bitsN s) W' := by
  have HS := Lib.hid hs
  have HY := Lib.hid hY
  have HTB := Lib.hid hT
  clear hs hY hT
  refine callsIn_of_wp Tryz.func79 rfl trivial ?_ rfl
  simp only [Tryz.ntmps79, List.size_toArray, List.length_cons, List.length_nil, Nat.reduceAdd, Nat.reduceSub, Array.replicate_succ, Array.replicate_zero, List.push_toArray, List.append_toArray, List.nil_append, List.cons_append]
  gi_wp2
  gi_loopw [4] (fun r wr => ∃ k R : Nat, k ≤ 24 ∧ r = .int .u64 (R : Nat) ∧ Hid (restK s k = R) ∧ J (upK s k) wr) (fun r _ => (intOf r).toNat)
  case atStart => exact ⟨0, s, by omega, rfl, Lib.hid (restK_zero s), h0⟩
  case round =>
    obtain ⟨k, R, hk, rfl, HR, hJ⟩ := hrel
    by_cases hz : R = 0
    · have HE := Lib.hid (restK_end (a := s) (k := k) (by rw [HR.out, hz]) hk)
      subst hz
      have hn0 : ((((0 : Nat) : Int)) == 0) = true := rfl
      gi_wp2
      go_end0
      exact ⟨⟨_, rfl⟩, by rw [← HE.out]; exact hJ⟩
    · obtain ⟨t, ht, hkt, ht24, hu, hand, hlt⟩ := rest_step (a := s) (k := k) HS.out (by rw [HR.out]; exact hz)
      rw [HR.out] at ht hand hlt
      have hRlt : R < 16777216 := by
        rw [← HR.out]; exact Nat.lt_of_le_of_lt (restK_le s k) HS.out
      have H1 := Lib.hid hRlt
      have H2 := Lib.hid hz
      have hne : ((R : Int) == 0) = false := by simp; omega
      obtain ⟨R2, HR2⟩ : ∃ R2, Hid (restK s (t + 1) = R2) := ⟨_, Lib.hid rfl⟩
      rw [HR2.out] at hand hlt
      have HBB : Hid (bits .and .u64 (R : Int) (IntKind.u64.wrap ((R : Int) - 1)) = (R2 : Int)) := Lib.hid (by
        rw [← hand, ← bits_and_u64_nat R (R - 1) (by omega) (by omega), IntKind.wrap_u64]
        congr 1; omega)
      have HTT := Lib.hid ht
      have HU := Lib.hid hu
      have HLT := Lib.hid hlt
      have HT24 := Lib.hid ht24
      have HJ := Lib.hid hJ
      obtain ⟨fn, tmps, assign, body, hy, hR⟩ := HY.out (upK s k) t wr hJ ht24 (upK_mem (k := t + 1) (by rw [hu]; simp)).2 (Nat.lt_of_le_of_lt (upK_len s k) (by omega))
      clear ht hu hlt hand hz hJ
      gi_wp2
      refine ⟨trivial, fun h => (by simp [Fence.wide] at h), ?_⟩
      refine (callsIn_wide.2 (iLeast _ R H1.out H2.out B (HTB.out _ _ HJ.out))).mono ?_
      rw [HTT.out]
      rintro e w3 ⟨rfl, rfl⟩
      gi_wp2
      refine ⟨fun h => (by simp [Fence.wide] at h), hR.mono ?_⟩
      rintro e W3 ⟨rfl, hJ3⟩
      gi_wp2
      go_roundw
      case rel => exact ⟨t + 1, R2, by omega, by rw [HBB.out], HR2, by rw [HU.out]; exact hJ3⟩
      case measure => rw [HBB.out]; have := HLT.out; simp [intOf]; omega
end Go.Proofs.YthlpjiibjlaebaaGreatDoor
