/- Merged: GrpTri SetBits. -/
import Derived.Test.YtaacofbmbpkeoaaGreatDoorMGAC
import Derived.Test.YtaacofbmbpkeoaaGreatDoorMGAF
import Derived.Laws.Bits64b
namespace Go.Proofs.YtaacofbmbpkeoaaGreatDoor
open Go.RowKit
set_option maxRecDepth 1000000
theorem triArr : Tryz.prog.underlying 41 = some (.array 3 3) := by kernel_rfl
theorem ix0 (x y z : Int) (W : World) : (Instr.index 41 (tV x y z) (.int .i64 0)).run Tryz.prog W = .ok (.int .i64 x) W := by
  simp [Instr.index, run_underlying triArr, asIntOf, go_sem]
theorem ix1 (x y z : Int) (W : World) : (Instr.index 41 (tV x y z) (.int .i64 1)).run Tryz.prog W = .ok (.int .i64 y) W := by
  simp [Instr.index, run_underlying triArr, asIntOf, go_sem]
theorem ix2 (x y z : Int) (W : World) : (Instr.index 41 (tV x y z) (.int .i64 2)).run Tryz.prog W = .ok (.int .i64 z) W := by
  simp [Instr.index, run_underlying triArr, asIntOf, go_sem]
/-- Three orders, ones among them: from 1 to 24, with a product of at most 24. -/
structure Tri (p q r : Int) : Prop where
  p1 : 1 ≤ p
  p2 : p ≤ 24
  q1 : 1 ≤ q
  q2 : q ≤ 24
  r1 : 1 ≤ r
  r2 : r ≤ 24
  pq1 : 1 ≤ p * q
  pq2 : p * q ≤ 24
  pqr1 : 1 ≤ p * q * r
  pqr2 : p * q * r ≤ 24
theorem iProduct (w : World) (p q r : Int) (h : Tri p q r) :
    Calls Tryz.prog 59 #[tV p q r] w fun e w' => e = .returned (.int .i64 (p * q * r)) ∧ Below w.heap.size w w' := by
  obtain ⟨h1, h2, h3, h4, h5, h6, h7, h8, h9, h10⟩ := h
  have X0 := ix0 p q r
  have X1 := ix1 p q r
  have X2 := ix2 p q r
  go_enter Tryz.func59, Tryz.ntmps59
  go_wp2
  refine wp_loop_rounds 4 ?_
  rw [rounds_succ]; go_wp2
  rw [rounds_succ]; go_wp2
  rw [rounds_succ]; go_wp2
  rw [rounds_succ]; go_wp2
  go_ret
  exact ⟨rfl, Joins.below_alloc1 _ _⟩
theorem iPlaces (w : World) (p q r x : Int) (h : Tri p q r) (hx0 : 0 ≤ x) (hx : x ≤ 23) :
    Calls Tryz.prog 85 #[tV p q r, .int .i64 x] w fun e w' => e = .returned (tV (x % p) (x / p % q) (x / p / q % r)) ∧ Below w.heap.size w w' := by
  obtain ⟨h1, h2, h3, h4, h5, h6, h7, h8, h9, h10⟩ := h
  have X0 := ix0 p q r
  have X1 := ix1 p q r
  have X2 := ix2 p q r
  obtain ⟨x1, x2⟩ := quo_bnd hx0 h1
  obtain ⟨y1, y2⟩ := quo_bnd x1 h3
  go_enter Tryz.func85, Tryz.ntmps85
  go_wp2
  refine wp_loop_rounds 4 ?_
  rw [rounds_succ]; go_wp2
  rw [rounds_succ]; go_wp2
  rw [rounds_succ]; go_wp2
  rw [rounds_succ]; go_wp2
  refine bodyPost_ret (v := tV (x % p) (x / p % q) (x / p / q % r)) (by simp [results, Tryz.results85, go_sem]) rfl ⟨rfl, Joins.below_alloc3 _ _ _ _⟩
theorem iElement (w : World) (p q r a b c : Int) (h : Tri p q r) (ha : 0 ≤ a ∧ a < p) (hb : 0 ≤ b ∧ b < q) (hc : 0 ≤ c ∧ c < r) :
    Calls Tryz.prog 87 #[tV p q r, tV a b c] w fun e w' => e = .returned (.int .i64 (a + p * b + p * q * c)) ∧ Below w.heap.size w w' := by
  obtain ⟨h1, h2, h3, h4, h5, h6, h7, h8, h9, h10⟩ := h
  have X0 := ix0 p q r
  have X1 := ix1 p q r
  have X2 := ix2 p q r
  obtain ⟨ha1, ha2⟩ := ha
  obtain ⟨hb1, hb2⟩ := hb
  obtain ⟨hc1, hc2⟩ := hc
  have m1 : 0 ≤ p * b := Int.mul_nonneg (by omega) hb1
  have m2 : p * b ≤ 24 * 24 := Int.mul_le_mul (by omega) (by omega) hb1 (by omega)
  have m3 : 0 ≤ p * q * c := Int.mul_nonneg (by omega) hc1
  have m4 : p * q * c ≤ 24 * 24 := Int.mul_le_mul (by omega) (by omega) hc1 (by omega)
  go_enter Tryz.func87, Tryz.ntmps87
  go_wp2
  refine wp_loop_rounds 4 ?_
  rw [rounds_succ]; go_wp2
  rw [rounds_succ]; go_wp2
  rw [rounds_succ]; go_wp2
  rw [rounds_succ]; go_wp2
  go_ret
  exact ⟨rfl, Joins.below_alloc2 _ _ _⟩
theorem iAdd (w : World) (p q r a b c x y z : Int) (h : Tri p q r) (ha : 0 ≤ a ∧ a < p) (hb : 0 ≤ b ∧ b < q) (hc : 0 ≤ c ∧ c < r) (hx : 0 ≤ x ∧ x < p) (hy : 0 ≤ y ∧ y < q) (hz : 0 ≤ z ∧ z < r) :
    Calls Tryz.prog 94 #[tV p q r, tV a b c, tV x y z] w fun e w' => e = .returned (tV ((a + x) % p) ((b + y) % q) ((c + z) % r)) ∧ Below w.heap.size w w' := by
  obtain ⟨h1, h2, h3, h4, h5, h6, h7, h8, h9, h10⟩ := h
  have X0 := ix0 p q r
  have X1 := ix1 p q r
  have X2 := ix2 p q r
  obtain ⟨ha1, ha2⟩ := ha
  obtain ⟨hb1, hb2⟩ := hb
  obtain ⟨hc1, hc2⟩ := hc
  obtain ⟨hx1, hx2⟩ := hx
  obtain ⟨hy1, hy2⟩ := hy
  obtain ⟨hz1, hz2⟩ := hz
  go_enter Tryz.func94, Tryz.ntmps94
  go_wp2
  refine wp_loop_rounds 4 ?_
  rw [rounds_succ]; go_wp2
  go_region
  go_wp2
  rw [rounds_succ]; go_wp2
  go_region
  go_wp2
  rw [rounds_succ]; go_wp2
  go_region
  go_wp2
  rw [rounds_succ]; go_wp2
  refine bodyPost_ret (v := tV ((a + x) % p) ((b + y) % q) ((c + z) % r)) (by simp [results, Tryz.results94, go_sem]) rfl ⟨rfl, ?_⟩
  exact Below.drew (Below.drew (Below.drew (Below.alloc (Joins.below_alloc3 w _ _ _) (by simp <;> omega) _)))
theorem prod_pad {l : List Int} (h : l.length ≤ 3) : prodI l = l.getD 0 1 * l.getD 1 1 * l.getD 2 1 := by
  match l, h with
  | [], _ => rfl
  | [a], _ => simp [prodI]
  | [a, b], _ => simp [prodI]
  | [a, b, c], _ => simp [prodI, Int.mul_assoc]
  | _ :: _ :: _ :: _ :: _, h => simp at h
/-- The orders of a group, with ones behind them. -/
def pad (l : List Int) : List Int := [l.getD 0 1, l.getD 1 1, l.getD 2 1]
theorem tri_grp {l : List Int} (h : grpB l = true) : Tri (l.getD 0 1) (l.getD 1 1) (l.getD 2 1) := by
  obtain ⟨h1, h2, h3⟩ := grpB_true h
  have hp := prod_pad h1
  have hb : ∀ j, 1 ≤ l.getD j 1 ∧ l.getD j 1 ≤ 24 := fun j => by
    by_cases hj : j < l.length
    · have := h2 j hj
      simp only [List.getD, List.getElem?_eq_getElem hj, Option.getD_some] at *
      omega
    · simp only [List.getD, List.getElem?_eq_none (by omega : l.length ≤ j), Option.getD_none]; omega
  obtain ⟨a1, a2⟩ := hb 0
  obtain ⟨b1, b2⟩ := hb 1
  obtain ⟨c1, c2⟩ := hb 2
  rw [hp] at h3
  generalize l.getD 0 1 = p at *
  generalize l.getD 1 1 = q at *
  generalize l.getD 2 1 = r at *
  have m1 := (mul_bnd a1 a2 b1 b2).1
  have m2 := Int.mul_le_mul (Int.le_refl (p * q)) c1 (by omega) (by omega)
  exact ⟨a1, a2, b1, b2, c1, c2, m1, by omega, by omega, h3⟩
end Go.Proofs.YtaacofbmbpkeoaaGreatDoor

namespace Go.Proofs.YtaacofbmbpkeoaaGreatDoor
open Go.RowKit
set_option maxRecDepth 1000000
theorem andU (a b A : Nat) (ha : a < 16777216) (hb : b < 18446744073709551616) (h : a &&& b = A) : bits .and .u64 (a : Int) (b : Int) = (A : Int) := by
  rw [bits_and_u64_nat a b (Nat.lt_trans ha (by decide)) hb, h]
theorem andI (a b : Nat) (ha : a < 9223372036854775808) (hb : b < 9223372036854775808) : bits .and .i64 (a : Int) (b : Int) = ((a &&& b : Nat) : Int) := by
  have h1 : (BitVec.ofInt 64 (a : Int)).toNat = a := by
    rw [BitVec.ofInt_natCast, BitVec.toNat_ofNat]; exact Nat.mod_eq_of_lt (by omega)
  have h2 : (BitVec.ofInt 64 (b : Int)).toNat = b := by
    rw [BitVec.ofInt_natCast, BitVec.toNat_ofNat]; exact Nat.mod_eq_of_lt (by omega)
  show IntKind.i64.wrap ((BitVec.ofInt 64 (a : Int) &&& BitVec.ofInt 64 (b : Int)).toNat : Int) = _
  rw [BitVec.toNat_and, h1, h2]
  have h3 : a &&& b ≤ a := Nat.and_le_left
  generalize a &&& b = c at *
  simp [IntKind.wrap, IntKind.signed, IntKind.bits]
  omega
theorem iOnes64 (w : World) (x : Nat) (hx : x < 16777216) :
    Calls Tryz.prog 99 #[.int .u64 x] w fun e w' => e = .returned (.int .i64 ((bitsN x).length : Nat)) ∧ w = w' := by
  have HL := Lib.hid (bits_len x hx)
  obtain ⟨A1, hA1⟩ : ∃ A, x / 2 &&& 6148914691236517205 = A := ⟨_, rfl⟩
  obtain ⟨B1, hB1⟩ : ∃ A, x &&& 6148914691236517205 = A := ⟨_, rfl⟩
  obtain ⟨y1, e1⟩ : ∃ y, y = A1 + B1 := ⟨_, rfl⟩
  obtain ⟨A2, hA2⟩ : ∃ A, y1 / 4 &&& 3689348814741910323 = A := ⟨_, rfl⟩
  obtain ⟨B2, hB2⟩ : ∃ A, y1 &&& 3689348814741910323 = A := ⟨_, rfl⟩
  obtain ⟨y2, e2⟩ : ∃ y, y = A2 + B2 := ⟨_, rfl⟩
  obtain ⟨y3, e3⟩ : ∃ y, y = (y2 / 16 + y2) &&& 1085102592571150095 := ⟨_, rfl⟩
  obtain ⟨y4, e4⟩ : ∃ y, y = y3 + y3 / 256 := ⟨_, rfl⟩
  obtain ⟨y5, e5⟩ : ∃ y, y = y4 + y4 / 65536 := ⟨_, rfl⟩
  obtain ⟨y6, e6⟩ : ∃ y, y = y5 + y5 / 4294967296 := ⟨_, rfl⟩
  obtain ⟨l1, l2, l3, l4, l5, l6, H⟩ := ones24 x y1 y2 y3 y4 y5 y6 hx (by rw [hA1, hB1]; exact e1) (by rw [hA2, hB2]; exact e2) e3 e4 e5 e6
  rw [← HL.out] at H
  obtain ⟨n, HN⟩ : ∃ n, Hid ((bitsN x).length = n) := ⟨_, Lib.hid rfl⟩
  rw [HN.out] at H
  have HH : bits .and .i64 (y6 : Int) 127 = (n : Int) := by
    rw [← H]
    exact andI y6 127 (Nat.lt_trans l6 (by decide)) (by decide)
  have q1 : bits .and .u64 ((x : Int) / 2) 6148914691236517205 = (A1 : Int) := by
    have h := andU (x / 2) 6148914691236517205 A1 (Nat.lt_of_le_of_lt (Nat.div_le_self _ _) hx) (by decide) hA1
    rw [Int.natCast_ediv] at h; exact h
  have q2 : bits .and .u64 (x : Int) 6148914691236517205 = (B1 : Int) := andU x 6148914691236517205 B1 hx (by decide) hB1
  have q3 : bits .and .u64 ((y1 : Int) / 4) 3689348814741910323 = (A2 : Int) := by
    have h := andU (y1 / 4) 3689348814741910323 A2 (Nat.lt_of_le_of_lt (Nat.div_le_self _ _) l1) (by decide) hA2
    rw [Int.natCast_ediv] at h; exact h
  have q4 : bits .and .u64 (y1 : Int) 3689348814741910323 = (B2 : Int) := andU y1 3689348814741910323 B2 l1 (by decide) hB2
  have q5 : bits .and .u64 ((y2 : Int) / 16 + y2) 1085102592571150095 = (y3 : Int) := by
    rw [e3, show (y2 : Int) / 16 + y2 = ((y2 / 16 + y2 : Nat) : Int) by rw [Int.natCast_add, Int.natCast_ediv]; rfl]
    exact bits_and_u64_nat _ _ (Nat.lt_of_le_of_lt (Nat.add_le_add (Nat.div_le_self _ _) (Nat.le_refl _)) (Nat.lt_trans (Nat.add_lt_add l2 l2) (by decide))) (by decide)
  clear hA1 hB1 hA2 hB2 e3 H
  have s1 : IntKind.u64.wrap ((A1 : Int) + B1) = y1 := by rw [IntKind.wrap_u64]; omega
  have s2 : IntKind.u64.wrap ((A2 : Int) + B2) = y2 := by rw [IntKind.wrap_u64]; omega
  have s3 : IntKind.u64.wrap ((y2 : Int) / 16 + y2) = (y2 : Int) / 16 + y2 := by rw [IntKind.wrap_u64]; omega
  have s4 : IntKind.u64.wrap ((y3 : Int) + y3 / 256) = y4 := by rw [IntKind.wrap_u64]; omega
  have s5 : IntKind.u64.wrap ((y4 : Int) + y4 / 65536) = y5 := by rw [IntKind.wrap_u64]; omega
  have s6 : IntKind.u64.wrap ((y5 : Int) + y5 / 4294967296) = y6 := by rw [IntKind.wrap_u64]; omega
  have s7 : wrap64 (y6 : Int) = y6 := by unfold wrap64; omega
  rw [HN.out]
  clear e1 e2 e4 e5 e6 HL
  have Q := Lib.hid (And.intro q1 (And.intro q2 (And.intro s1 (And.intro q3 (And.intro q4 (And.intro s2 (And.intro s3 (And.intro q5 (And.intro s4 (And.intro s5 (And.intro s6 (And.intro s7 HH))))))))))))
  clear q1 q2 s1 q3 q4 s2 s3 q5 s4 s5 s6 s7 HH
  go_enter Tryz.func99, Tryz.ntmps99
  go_wp2
  go_ret
  obtain ⟨q1, q2, s1, q3, q4, s2, s3, q5, s4, s5, s6, s7, HH⟩ := Q.out
  refine ⟨?_, rfl⟩
  simp only [q1, q2, s1, q3, q4, s2, s3, q5, s4, s5, s6, s7, HH]
  rfl
theorem iOnes (w : World) (x : Nat) (hx : x < 16777216) :
    Calls Tryz.prog 76 #[.int .u64 x] w fun e w' => e = .returned (.int .i64 ((bitsN x).length : Nat)) ∧ w = w' := by
  have HX := Lib.hid hx
  go_enter Tryz.func76, Tryz.ntmps76
  go_wp2_with (go_at_call 99; refine (iOnes64 _ x HX.out).mono ?_; rintro e w1 ⟨rfl, rfl⟩)
  go_ret
  exact ⟨rfl, rfl⟩
theorem iCnt (w : World) (x : Nat) (hx : x < 16777216) :
    Calls Tryz.prog 47 #[.int .u64 x] w fun e w' => e = .returned (.int .i64 ((bitsN x).length : Nat)) ∧ w = w' := by
  have HX := Lib.hid hx
  go_enter Tryz.func47, Tryz.ntmps47
  go_wp2_with (go_at_call 76; refine (iOnes _ x HX.out).mono ?_; rintro e w1 ⟨rfl, rfl⟩)
  go_ret
  exact ⟨rfl, rfl⟩
theorem iHas (w : World) (s x : Nat) (hs : s < 16777216) (hx : x ≤ 23) :
    Calls Tryz.prog 66 #[.int .u64 s, .int .i64 x] w fun e w' => e = .returned (.bool (s.testBit x)) ∧ w = w' := by
  have hb : bits .and .u64 ((s : Int) / 2 ^ x) 1 = (if s.testBit x = true then 1 else 0) := by
    have h1 := bits_and_u64_nat (s / 2 ^ x) 1 (Nat.lt_of_le_of_lt (Nat.div_le_self _ _) (Nat.lt_trans hs (by decide))) (by decide)
    rw [Nat.and_one_is_mod] at h1
    simp only [Int.natCast_ediv, Int.natCast_pow] at h1
    rw [show ((1 : Nat) : Int) = 1 by rfl, show ((2 : Nat) : Int) = 2 by rfl] at h1
    rw [h1]
    by_cases hb : s.testBit x = true
    · rw [if_pos hb, (bit_iff s x).1 hb]; rfl
    · rw [if_neg hb]
      have : ¬ s / 2 ^ x % 2 = 1 := fun e => hb ((bit_iff s x).2 e)
      have : s / 2 ^ x % 2 = 0 := by omega
      rw [this]; rfl
  cases hbt : s.testBit x with
  | true =>
    rw [hbt, if_pos rfl] at hb
    clear hbt
    go_enter Tryz.func66, Tryz.ntmps66
    go_wp2
    go_ret
    exact ⟨rfl, rfl⟩
  | false =>
    rw [hbt, if_neg (by decide)] at hb
    clear hbt
    go_enter Tryz.func66, Tryz.ntmps66
    go_wp2
    go_ret
    exact ⟨rfl, rfl⟩
theorem iWith (w : World) (s x : Nat) (hs : s < 16777216) (hx : x ≤ 23) :
    Calls Tryz.prog 86 #[.int .u64 s, .int .i64 x] w fun e w' => e = .returned (.int .u64 (s ||| 2 ^ x : Nat)) ∧ w = w' := by
  have hp := pow_le24 (k := x) (by omega)
  have hw : IntKind.u64.wrap (2 ^ x) = ((2 ^ x : Nat) : Int) := by
    rw [pow_nat, IntKind.wrap_u64]
    generalize 2 ^ x = N at *
    omega
  have hb := bits_or_u64_nat s (2 ^ x) (Nat.lt_trans hs (by decide)) (by omega)
  obtain ⟨r, hr⟩ : ∃ r, (s ||| 2 ^ x) = r := ⟨_, rfl⟩
  rw [hr] at hb
  rw [hr]
  rw [← hw] at hb
  clear hr hw hp
  go_enter Tryz.func86, Tryz.ntmps86
  go_wp2
  go_ret
  exact ⟨rfl, rfl⟩
theorem iFull (w : World) (p q r N : Int) (h : Tri p q r) (hN : N = ((2 ^ (p * q * r).toNat : Nat) : Int) - 1) :
    Calls Tryz.prog 83 #[tV p q r] w fun e w' => e = .returned (.int .u64 N) ∧ Below w.heap.size w w' := by
  have HT := Lib.hid h
  obtain ⟨_, _, _, _, _, _, _, _, h1, h2⟩ := h
  have hp := pow_le24 (k := (p * q * r).toNat) (by omega)
  have h0 := Nat.two_pow_pos (p * q * r).toNat
  have hw : IntKind.u64.wrap (IntKind.u64.wrap (2 ^ (p * q * r).toNat) - 1) = N := by
    rw [hN, pow_nat, IntKind.wrap_u64, IntKind.wrap_u64]
    generalize 2 ^ (p * q * r).toNat = M at *
    omega
  clear hp h0 hN
  go_enter Tryz.func83, Tryz.ntmps83
  go_wp2_with (go_at_call 59; refine (iProduct _ _ _ _ HT.out).mono ?_; rintro e w2 ⟨rfl, hb2⟩)
  go_ret
  exact ⟨by rw [← hw]; rfl, (Joins.below_alloc1 w _).trans (hb2.mono (by simp))⟩
end Go.Proofs.YtaacofbmbpkeoaaGreatDoor
