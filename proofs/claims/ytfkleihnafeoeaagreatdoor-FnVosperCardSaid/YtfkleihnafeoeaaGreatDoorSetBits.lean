/- The contracts of the program's own functions on sets: whether an element is in a set, a set with an element more, the count, the full set. -/
import Derived.Test.YtfkleihnafeoeaaGreatDoorOnes
import Derived.Test.YtfkleihnafeoeaaGreatDoorGrpTri
import Derived.Laws.Bits64b
namespace Go.Proofs.YtfkleihnafeoeaaGreatDoor
open Go.RowKit
set_option maxRecDepth 1000000
theorem andU (a b A : Nat) (ha : a < 16777216) (hb : b < 18446744073709551616) (h : a &&& b = A) : bits .and .u64 (a : Int) (b : Int) = (A : Int) := by
  rw [bits_and_u64_nat a b (Nat.lt_trans ha (by decide)) hb, h]
theorem andI (a b : Nat) (ha : a < 9223372036854775808) (hb : b < 9223372036854775808) : bits .and .i64 (a : Int) (b : Int) = ((a &&& b : Nat) : Int) := by
  have h1 : (BitVec.ofInt 64 (a : Int)).toNat = a := by
    rw [BitVec.ofInt_natCast, BitVec.toNat_ofNat]; exact Nat.mod_eq_of_lt (by omega)
  have h2 : (BitVec.ofInt 64 (b : Int)).toNat = b := by
    rw [BitVec.ofInt_natCast, BitVec.toNat_ofNat]; exact Nat.mod_eq_of_lt (by omega)
  show IntKind.i64.wrap ((BitVec.ofInt 64 (a : Int) &&& BitVec.ofInt 64 (b : Int)).toNat : Int) = _
  rw [BitVec.toNat_and, h1, h2]
  have h3 : a &&& b ≤ a := Nat.and_le_left
  generalize a &&& b = c at *
  simp [IntKind.wrap, IntKind.signed, IntKind.bits]
  omega
theorem iOnes64 (w : World) (x : Nat) (hx : x < 16777216) :
    Calls Tryz.prog 85 #[.int .u64 x] w fun e w' => e = .returned (.int .i64 ((bitsN x).length : Nat)) ∧ w = w' := by
  have HL := Lib.hid (bits_len x hx)
  obtain ⟨A1, hA1⟩ : ∃ A, x / 2 &&& 6148914691236517205 = A := ⟨_, rfl⟩
  obtain ⟨B1, hB1⟩ : ∃ A, x &&& 6148914691236517205 = A := ⟨_, rfl⟩
  obtain ⟨y1, e1⟩ : ∃ y, y = A1 + B1 := ⟨_, rfl⟩
  obtain ⟨A2, hA2⟩ : ∃ A, y1 / 4 &&& 3689348814741910323 = A := ⟨_, rfl⟩
  obtain ⟨B2, hB2⟩ : ∃ A, y1 &&& 3689348814741910323 = A := ⟨_, rfl⟩
  obtain ⟨y2, e2⟩ : ∃ y, y = A2 + B2 := ⟨_, rfl⟩
  obtain ⟨y3, e3⟩ : ∃ y, y = (y2 / 16 + y2) &&& 1085102592571150095 := ⟨_, rfl⟩
  obtain ⟨y4, e4⟩ : ∃ y, y = y3 + y3 / 256 := ⟨_, rfl⟩
  obtain ⟨y5, e5⟩ : ∃ y, y = y4 + y4 / 65536 := ⟨_, rfl⟩
  obtain ⟨y6, e6⟩ : ∃ y, y = y5 + y5 / 4294967296 := ⟨_, rfl⟩
  obtain ⟨l1, l2, l3, l4, l5, l6, H⟩ := ones24 x y1 y2 y3 y4 y5 y6 hx (by rw [hA1, hB1]; exact e1) (by rw [hA2, hB2]; exact e2) e3 e4 e5 e6
  rw [← HL.out] at H
  obtain ⟨n, HN⟩ : ∃ n, Hid ((bitsN x).length = n) := ⟨_, Lib.hid rfl⟩
  rw [HN.out] at H
  have HH : bits .and .i64 (y6 : Int) 127 = (n : Int) := by
    rw [← H]
    exact andI y6 127 (Nat.lt_trans l6 (by decide)) (by decide)
  have q1 : bits .and .u64 ((x : Int) / 2) 6148914691236517205 = (A1 : Int) := by
    have h := andU (x / 2) 6148914691236517205 A1 (Nat.lt_of_le_of_lt (Nat.div_le_self _ _) hx) (by decide) hA1
    rw [Int.natCast_ediv] at h; exact h
  have q2 : bits .and .u64 (x : Int) 6148914691236517205 = (B1 : Int) := andU x 6148914691236517205 B1 hx (by decide) hB1
  have q3 : bits .and .u64 ((y1 : Int) / 4) 3689348814741910323 = (A2 : Int) := by
    have h := andU (y1 / 4) 3689348814741910323 A2 (Nat.lt_of_le_of_lt (Nat.div_le_self _ _) l1) (by decide) hA2
    rw [Int.natCast_ediv] at h; exact h
  have q4 : bits .and .u64 (y1 : Int) 3689348814741910323 = (B2 : Int) := andU y1 3689348814741910323 B2 l1 (by decide) hB2
  have q5 : bits .and .u64 ((y2 : Int) / 16 + y2) 1085102592571150095 = (y3 : Int) := by
    rw [e3, show (y2 : Int) / 16 + y2 = ((y2 / 16 + y2 : Nat) : Int) by rw [Int.natCast_add, Int.natCast_ediv]; rfl]
    exact bits_and_u64_nat _ _ (Nat.lt_of_le_of_lt (Nat.add_le_add (Nat.div_le_self _ _) (Nat.le_refl _)) (Nat.lt_trans (Nat.add_lt_add l2 l2) (by decide))) (by decide)
  clear hA1 hB1 hA2 hB2 e3 H
  have s1 : IntKind.u64.wrap ((A1 : Int) + B1) = y1 := by rw [IntKind.wrap_u64]; omega
  have s2 : IntKind.u64.wrap ((A2 : Int) + B2) = y2 := by rw [IntKind.wrap_u64]; omega
  have s3 : IntKind.u64.wrap ((y2 : Int) / 16 + y2) = (y2 : Int) / 16 + y2 := by rw [IntKind.wrap_u64]; omega
  have s4 : IntKind.u64.wrap ((y3 : Int) + y3 / 256) = y4 := by rw [IntKind.wrap_u64]; omega
  have s5 : IntKind.u64.wrap ((y4 : Int) + y4 / 65536) = y5 := by rw [IntKind.wrap_u64]; omega
  have s6 : IntKind.u64.wrap ((y5 : Int) + y5 / 4294967296) = y6 := by rw [IntKind.wrap_u64]; omega
  have s7 : wrap64 (y6 : Int) = y6 := by unfold wrap64; omega
  rw [HN.out]
  clear e1 e2 e4 e5 e6 HL
  have Q := Lib.hid (And.intro q1 (And.intro q2 (And.intro s1 (And.intro q3 (And.intro q4 (And.intro s2 (And.intro s3 (And.intro q5 (And.intro s4 (And.intro s5 (And.intro s6 (And.intro s7 HH))))))))))))
  clear q1 q2 s1 q3 q4 s2 s3 q5 s4 s5 s6 s7 HH
  go_enter Tryz.func85, Tryz.ntmps85
  go_wp2
  go_ret
  obtain ⟨q1, q2, s1, q3, q4, s2, s3, q5, s4, s5, s6, s7, HH⟩ := Q.out
  refine ⟨?_, rfl⟩
  simp only [q1, q2, s1, q3, q4, s2, s3, q5, s4, s5, s6, s7, HH]
  rfl
theorem iOnes (w : World) (x : Nat) (hx : x < 16777216) :
    Calls Tryz.prog 63 #[.int .u64 x] w fun e w' => e = .returned (.int .i64 ((bitsN x).length : Nat)) ∧ w = w' := by
  have HX := Lib.hid hx
  go_enter Tryz.func63, Tryz.ntmps63
  go_wp2_with (go_at_call 85; refine (iOnes64 _ x HX.out).mono ?_; rintro e w1 ⟨rfl, rfl⟩)
  go_ret
  exact ⟨rfl, rfl⟩
theorem iCnt (w : World) (x : Nat) (hx : x < 16777216) :
    Calls Tryz.prog 30 #[.int .u64 x] w fun e w' => e = .returned (.int .i64 ((bitsN x).length : Nat)) ∧ w = w' := by
  have HX := Lib.hid hx
  go_enter Tryz.func30, Tryz.ntmps30
  go_wp2_with (go_at_call 63; refine (iOnes _ x HX.out).mono ?_; rintro e w1 ⟨rfl, rfl⟩)
  go_ret
  exact ⟨rfl, rfl⟩
theorem iHas (w : World) (s x : Nat) (hs : s < 16777216) (hx : x ≤ 23) :
    Calls Tryz.prog 71 #[.int .u64 s, .int .i64 x] w fun e w' => e = .returned (.bool (s.testBit x)) ∧ w = w' := by
  have hb : bits .and .u64 ((s : Int) / 2 ^ x) 1 = (if s.testBit x = true then 1 else 0) := by
    have h1 := bits_and_u64_nat (s / 2 ^ x) 1 (Nat.lt_of_le_of_lt (Nat.div_le_self _ _) (Nat.lt_trans hs (by decide))) (by decide)
    rw [Nat.and_one_is_mod] at h1
    simp only [Int.natCast_ediv, Int.natCast_pow] at h1
    rw [show ((1 : Nat) : Int) = 1 by rfl, show ((2 : Nat) : Int) = 2 by rfl] at h1
    rw [h1]
    by_cases hb : s.testBit x = true
    · rw [if_pos hb, (bit_iff s x).1 hb]; rfl
    · rw [if_neg hb]
      have : ¬ s / 2 ^ x % 2 = 1 := fun e => hb ((bit_iff s x).2 e)
      have : s / 2 ^ x % 2 = 0 := by omega
      rw [this]; rfl
  cases hbt : s.testBit x with
  | true =>
    rw [hbt, if_pos rfl] at hb
    clear hbt
    go_enter Tryz.func71, Tryz.ntmps71
    go_wp2
    go_ret
    exact ⟨rfl, rfl⟩
  | false =>
    rw [hbt, if_neg (by decide)] at hb
    clear hbt
    go_enter Tryz.func71, Tryz.ntmps71
    go_wp2
    go_ret
    exact ⟨rfl, rfl⟩
theorem iWith (w : World) (s x : Nat) (hs : s < 16777216) (hx : x ≤ 23) :
    Calls Tryz.prog 52 #[.int .u64 s, .int .i64 x] w fun e w' => e = .returned (.int .u64 (s ||| 2 ^ x : Nat)) ∧ w = w' := by
  have hp := pow_le24 (k := x) (by omega)
  have hw : IntKind.u64.wrap (2 ^ x) = ((2 ^ x : Nat) : Int) := by
    rw [pow_nat, IntKind.wrap_u64]
    generalize 2 ^ x = N at *
    omega
  have hb := bits_or_u64_nat s (2 ^ x) (Nat.lt_trans hs (by decide)) (by omega)
  obtain ⟨r, hr⟩ : ∃ r, (s ||| 2 ^ x) = r := ⟨_, rfl⟩
  rw [hr] at hb
  rw [hr]
  rw [← hw] at hb
  clear hr hw hp
  go_enter Tryz.func52, Tryz.ntmps52
  go_wp2
  go_ret
  exact ⟨rfl, rfl⟩
theorem iFull (w : World) (p q r N : Int) (h : Tri p q r) (hN : N = ((2 ^ (p * q * r).toNat : Nat) : Int) - 1) :
    Calls Tryz.prog 32 #[tV p q r] w fun e w' => e = .returned (.int .u64 N) ∧ Below w.heap.size w w' := by
  have HT := Lib.hid h
  obtain ⟨_, _, _, _, _, _, _, _, h1, h2⟩ := h
  have hp := pow_le24 (k := (p * q * r).toNat) (by omega)
  have h0 := Nat.two_pow_pos (p * q * r).toNat
  have hw : IntKind.u64.wrap (IntKind.u64.wrap (2 ^ (p * q * r).toNat) - 1) = N := by
    rw [hN, pow_nat, IntKind.wrap_u64, IntKind.wrap_u64]
    generalize 2 ^ (p * q * r).toNat = M at *
    omega
  clear hp h0 hN
  go_enter Tryz.func32, Tryz.ntmps32
  go_wp2_with (go_at_call 33; refine (iProduct _ _ _ _ HT.out).mono ?_; rintro e w2 ⟨rfl, hb2⟩)
  go_ret
  exact ⟨by rw [← hw]; rfl, (Joins.below_alloc1 w _).trans (hb2.mono (by simp))⟩
end Go.Proofs.YtfkleihnafeoeaaGreatDoor
