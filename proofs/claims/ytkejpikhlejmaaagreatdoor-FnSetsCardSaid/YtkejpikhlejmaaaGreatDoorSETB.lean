/- Merged: SetSpec SetBits GrpIn SetIn. -/
import Derived.Test.YtkejpikhlejmaaaGreatDoorSETA
import Derived.Test.YtkejpikhlejmaaaGreatDoorGRPA
import Derived.Test.YtkejpikhlejmaaaGreatDoorOnes
import Derived.Test.YtkejpikhlejmaaaGreatDoorGrpTri
import Derived.Laws.Bits64b
namespace Go.Proofs.YtkejpikhlejmaaaGreatDoor
open Go.RowKit
set_option maxRecDepth 1000000
theorem wrap_pow {k : Nat} (h : k ≤ 24) : wrap64 ((2 : Int) ^ k) = ((2 ^ k : Nat) : Int) := by
  have := pow_le24 h
  rw [pow_nat]
  generalize 2 ^ k = N at *
  unfold wrap64; omega
theorem wrap_full {l : List Int} (h : grpB l = true) : wrap64 (wrap64 (2 ^ (prodI l).toNat) - 1) = fullN l := by
  have hp := (ords_grp h).prod
  rw [wrap_pow (by omega), fullN_nat]
  have := pow_le24 (k := (prodI l).toNat) (by omega)
  have h1 := Nat.two_pow_pos (prodI l).toNat
  generalize 2 ^ (prodI l).toNat = N at *
  unfold wrap64; omega
theorem full_bnd {l : List Int} (h : grpB l = true) : 1 ≤ fullN l ∧ fullN l ≤ 16777215 := by
  have hp := (ords_grp h).prod
  rw [fullN_nat]
  have := pow_le24 (k := (prodI l).toNat) (by omega)
  have h1 : 2 ^ 1 ≤ 2 ^ (prodI l).toNat := Nat.pow_le_pow_right (by decide) (by omega)
  generalize 2 ^ (prodI l).toNat = N at *
  omega
theorem sFull (w : World) (a : Option Addr) (l : List Int) (n cap : Nat) (hn : n = l.length) (hm : n ≤ 9223372036854775807) (hi : Ints w a l) :
    Calls Tryz.prog 32 #[.agg #[.slice a n cap]] w fun e w' => e = .returned (.int .i64 (if grpB l = true then fullN l else 0)) ∧ Below w.heap.size w w' := by
  have HI := Lib.hid (ints_alloc hi (.cells #[.slice a n cap] 26))
  have HN := Lib.hid hn
  have C1 := newC w (.slice a n cap) 26 (n := w.heap.size) rfl
  have HB := Lib.hid (Joins.below_alloc1 w (.cells #[.slice a n cap] 26))
  have T0 := Lib.hid (Below.refl (w.alloc (.cells #[.slice a n cap] 26)).heap.size (w.alloc (.cells #[.slice a n cap] 26)))
  clear hi hn
  cases hg : grpB l with
  | false =>
    have HG := Lib.hid hg
    rw [if_neg (by simp)]
    clear hg
    go_enter Tryz.func32, Tryz.ntmps32
    go_wp2_with (go_at_call 44; refine (sIsGroup _ _ _ _ _ HN.out hm (HI.out.below rfl T0.out)).mono ?_; rw [HG.out]; rintro e w1 ⟨rfl, hb1⟩; have T1 := Lib.hid (T0.out.trans (hb1.mono T0.out.size)); have c1 := keepC T1.out (by simp) C1)
    go_ret
    exact ⟨rfl, HB.out.trans (T1.out.mono (by simp))⟩
  | true =>
    have HG := Lib.hid hg
    rw [if_pos rfl]
    have HF := Lib.hid (wrap_full hg)
    obtain ⟨p1, p2⟩ := (ords_grp hg).prod
    clear hg
    go_enter Tryz.func32, Tryz.ntmps32
    go_wp2_with (first
      | (go_at_call 44; refine (sIsGroup _ _ _ _ _ HN.out hm (HI.out.below rfl T0.out)).mono ?_; rw [HG.out]; rintro e w1 ⟨rfl, hb1⟩; have T1 := Lib.hid (T0.out.trans (hb1.mono T0.out.size)); have c1 := keepC T1.out (by simp) C1)
      | (go_at_call 46; refine (sOrder _ _ _ _ _ HN.out HG.out (HI.out.below rfl T1.out)).mono ?_; rintro e w2 ⟨rfl, hb2⟩; have T2 := Lib.hid (T1.out.trans (hb2.mono T1.out.size)); have c2 := keepC T2.out (by simp) C1))
    go_ret
    exact ⟨by rw [← HF.out]; rfl, HB.out.trans (T2.out.mono (by simp))⟩
theorem sIsSet (w : World) (a : Option Addr) (l : List Int) (n cap : Nat) (s : Int) (hn : n = l.length) (hm : n ≤ 9223372036854775807) (hi : Ints w a l) :
    Calls Tryz.prog 11 #[.agg #[.slice a n cap], .int .i64 s] w fun e w' => e = .returned (.bool (isS l s)) ∧ Below w.heap.size w w' := by
  have HI := Lib.hid (ints_alloc hi (.cells #[.slice a n cap] 26))
  have HN := Lib.hid hn
  have C1 := newC w (.slice a n cap) 26 (n := w.heap.size) rfl
  have HB := Lib.hid (Joins.below_alloc1 w (.cells #[.slice a n cap] 26))
  have T0 := Lib.hid (Below.refl (w.alloc (.cells #[.slice a n cap] 26)).heap.size (w.alloc (.cells #[.slice a n cap] 26)))
  clear hi hn
  cases hg : grpB l with
  | false =>
    have HG := Lib.hid hg
    rw [show isS l s = false by unfold isS; rw [hg]; rfl]
    clear hg
    go_enter Tryz.func11, Tryz.ntmps11
    go_wp2_with (go_at_call 44; refine (sIsGroup _ _ _ _ _ HN.out hm (HI.out.below rfl T0.out)).mono ?_; rw [HG.out]; rintro e w1 ⟨rfl, hb1⟩; have T1 := Lib.hid (T0.out.trans (hb1.mono T0.out.size)); have c1 := keepC T1.out (by simp) C1)
    go_ret
    exact ⟨rfl, HB.out.trans (T1.out.mono (by simp))⟩
  | true =>
    have HG := Lib.hid hg
    have HF := Lib.hid (wrap_full hg)
    obtain ⟨p1, p2⟩ := (ords_grp hg).prod
    have HS : Hid (isS l s = (decide (0 ≤ s) && decide (s ≤ wrap64 (wrap64 (2 ^ (prodI l).toNat) - 1)))) := Lib.hid (by rw [HF.out]; unfold isS; rw [hg, Bool.true_and])
    clear hg
    obtain ⟨r, HR⟩ : ∃ r, Hid (isS l s = r) := ⟨_, Lib.hid rfl⟩
    rw [HR.out]
    have HS2 : Hid (r = (decide (0 ≤ s) && decide (s ≤ wrap64 (wrap64 (2 ^ (prodI l).toNat) - 1)))) := Lib.hid (by rw [← HR.out]; exact HS.out)
    go_enter Tryz.func11, Tryz.ntmps11
    go_wp2_with (first
      | (go_at_call 44; refine (sIsGroup _ _ _ _ _ HN.out hm (HI.out.below rfl T0.out)).mono ?_; rw [HG.out]; rintro e w1 ⟨rfl, hb1⟩; have T1 := Lib.hid (T0.out.trans (hb1.mono T0.out.size)); have c1 := keepC T1.out (by simp) C1)
      | (go_at_call 46; refine (sOrder _ _ _ _ _ HN.out HG.out (HI.out.below rfl T1.out)).mono ?_; rintro e w2 ⟨rfl, hb2⟩; have T2 := Lib.hid (T1.out.trans (hb2.mono T1.out.size)); have c2 := keepC T2.out (by simp) C1)
      | (go_at_call 45; refine (sIn _ _ _ _ _ HS2.out).mono ?_; rintro e w3 ⟨rfl, rfl⟩))
    go_ret
    exact ⟨rfl, HB.out.trans (T2.out.mono (by simp))⟩
theorem and1 (a : Nat) (h : a < 9223372036854775808) : bits .and .i64 (a : Int) 1 = ((a % 2 : Nat) : Int) := by
  have h1 : (BitVec.ofInt 64 (a : Int)).toNat = a := by
    rw [BitVec.ofInt_natCast, BitVec.toNat_ofNat]; exact Nat.mod_eq_of_lt (by omega)
  show IntKind.i64.wrap ((BitVec.ofInt 64 (a : Int) &&& BitVec.ofInt 64 1).toNat : Int) = _
  rw [BitVec.toNat_and, h1, show (BitVec.ofInt 64 1).toNat = 1 by decide, Nat.and_one_is_mod]
  simp [IntKind.wrap, IntKind.signed, IntKind.bits]
  omega
theorem sBits (w : World) (s : Nat) (h : s < 2 ^ 24) :
    Calls Tryz.prog 49 #[.int .i64 s] w fun e w' => e = .returned (.int .i64 ((bitsN s).length : Nat)) ∧ w = w' := by
  have HL := Lib.hid h
  have h24 : s < 16777216 := h
  clear h
  go_enter Tryz.func49, Tryz.ntmps49
  go_wp2
  go_loop [3, 4] (fun c x => ∃ k : Nat, k ≤ 24 ∧ c = .int .i64 ((upK s k).length : Nat) ∧ x = .int .i64 ((s / 2 ^ k : Nat) : Int)) (fun _ x => (intOf x).toNat)
  case atStart => exact ⟨0, by omega, rfl, by simp⟩
  case round =>
    obtain ⟨k, hk, rfl, rfl⟩ := hrel
    have hle := Nat.div_le_self s (2 ^ k)
    have hu := upK_len s k
    by_cases h0 : s / 2 ^ k = 0
    · have HF := Lib.hid (upK_full (div_zero h0) hk)
      rw [h0]
      go_wp2
      go_ret
      exact ⟨by rw [← HF.out]; rfl, rfl⟩
    · have hk24 : k < 24 := by
        rcases Nat.lt_or_ge k 24 with h | h
        · exact h
        · exfalso; apply h0
          have : k = 24 := by omega
          subst this
          exact Nat.div_eq_of_lt HL.out
      have HQ : Hid (s / 2 ^ k / 2 = s / 2 ^ (k + 1)) := Lib.hid (by rw [Nat.div_div_eq_div_mul, Nat.pow_succ])
      have HB := Lib.hid (bit_iff s k)
      have HU := Lib.hid (upK_succ s k)
      generalize s / 2 ^ k = q at *
      have ha := and1 q (by omega)
      have hlt : (upK s (k + 1)).length = (upK s k).length + q % 2 := by
        rw [HU.out]
        by_cases hb : s.testBit k = true
        · rw [if_pos hb, HB.out.1 hb]; simp
        · rw [if_neg hb]
          have : ¬ q % 2 = 1 := fun e => hb (HB.out.2 e)
          omega
      have HT := Lib.hid hlt
      clear hlt
      generalize (upK s k).length = c at *
      go_wp2
      go_round
      case rel => exact ⟨k + 1, by omega, by rw [HT.out]; go_num, by rw [← HQ.out]; go_num⟩
      case measure => simp [intOf]; omega
/-- The document's count. -/
def cntE (l : List Int) (s : Int) : Int := if isS l s = true then ((bitsN s.toNat).length : Nat) else -1
theorem sCount (w : World) (a : Option Addr) (l : List Int) (n cap : Nat) (s : Int) (hn : n = l.length) (hm : n ≤ 9223372036854775807) (hi : Ints w a l) :
    Calls Tryz.prog 16 #[.agg #[.slice a n cap], .int .i64 s] w fun e w' => e = .returned (.int .i64 (cntE l s)) ∧ Below w.heap.size w w' := by
  have HI := Lib.hid (ints_alloc hi (.cells #[.slice a n cap] 26))
  have HN := Lib.hid hn
  have C1 := newC w (.slice a n cap) 26 (n := w.heap.size) rfl
  have HB := Lib.hid (Joins.below_alloc1 w (.cells #[.slice a n cap] 26))
  have T0 := Lib.hid (Below.refl (w.alloc (.cells #[.slice a n cap] 26)).heap.size (w.alloc (.cells #[.slice a n cap] 26)))
  clear hi hn
  cases hs : isS l s with
  | false =>
    have HS := Lib.hid hs
    rw [show cntE l s = -1 by unfold cntE; rw [hs]; rfl]
    clear hs
    go_enter Tryz.func16, Tryz.ntmps16
    go_wp2_with (go_at_call 11; refine (sIsSet _ _ _ _ _ _ HN.out hm (HI.out.below rfl T0.out)).mono ?_; rw [HS.out]; rintro e w1 ⟨rfl, hb1⟩; have T1 := Lib.hid (T0.out.trans (hb1.mono T0.out.size)); have c1 := keepC T1.out (by simp) C1)
    go_ret
    exact ⟨rfl, HB.out.trans (T1.out.mono (by simp))⟩
  | true =>
    have HS := Lib.hid hs
    obtain ⟨hg, m, rfl, _, hm24⟩ := isS_true hs
    rw [show cntE l m = ((bitsN m).length : Nat) by unfold cntE; rw [hs]; rfl]
    have HM := Lib.hid hm24
    clear hs hg hm24
    go_enter Tryz.func16, Tryz.ntmps16
    go_wp2_with (first
      | (go_at_call 11; refine (sIsSet _ _ _ _ _ _ HN.out hm (HI.out.below rfl T0.out)).mono ?_; rw [HS.out]; rintro e w1 ⟨rfl, hb1⟩; have T1 := Lib.hid (T0.out.trans (hb1.mono T0.out.size)); have c1 := keepC T1.out (by simp) C1)
      | (go_at_call 49; refine (sBits _ m HM.out).mono ?_; rintro e w3 ⟨rfl, rfl⟩))
    go_ret
    exact ⟨rfl, HB.out.trans (T1.out.mono (by simp))⟩
end Go.Proofs.YtkejpikhlejmaaaGreatDoor

namespace Go.Proofs.YtkejpikhlejmaaaGreatDoor
open Go.RowKit
set_option maxRecDepth 1000000
theorem andU (a b A : Nat) (ha : a < 16777216) (hb : b < 18446744073709551616) (h : a &&& b = A) : bits .and .u64 (a : Int) (b : Int) = (A : Int) := by
  rw [bits_and_u64_nat a b (Nat.lt_trans ha (by decide)) hb, h]
theorem andI (a b : Nat) (ha : a < 9223372036854775808) (hb : b < 9223372036854775808) : bits .and .i64 (a : Int) (b : Int) = ((a &&& b : Nat) : Int) := by
  have h1 : (BitVec.ofInt 64 (a : Int)).toNat = a := by
    rw [BitVec.ofInt_natCast, BitVec.toNat_ofNat]; exact Nat.mod_eq_of_lt (by omega)
  have h2 : (BitVec.ofInt 64 (b : Int)).toNat = b := by
    rw [BitVec.ofInt_natCast, BitVec.toNat_ofNat]; exact Nat.mod_eq_of_lt (by omega)
  show IntKind.i64.wrap ((BitVec.ofInt 64 (a : Int) &&& BitVec.ofInt 64 (b : Int)).toNat : Int) = _
  rw [BitVec.toNat_and, h1, h2]
  have h3 : a &&& b ≤ a := Nat.and_le_left
  generalize a &&& b = c at *
  simp [IntKind.wrap, IntKind.signed, IntKind.bits]
  omega
theorem iOnes64 (w : World) (x : Nat) (hx : x < 16777216) :
    Calls Tryz.prog 95 #[.int .u64 x] w fun e w' => e = .returned (.int .i64 ((bitsN x).length : Nat)) ∧ w = w' := by
  have HL := Lib.hid (bits_len x hx)
  obtain ⟨A1, hA1⟩ : ∃ A, x / 2 &&& 6148914691236517205 = A := ⟨_, rfl⟩
  obtain ⟨B1, hB1⟩ : ∃ A, x &&& 6148914691236517205 = A := ⟨_, rfl⟩
  obtain ⟨y1, e1⟩ : ∃ y, y = A1 + B1 := ⟨_, rfl⟩
  obtain ⟨A2, hA2⟩ : ∃ A, y1 / 4 &&& 3689348814741910323 = A := ⟨_, rfl⟩
  obtain ⟨B2, hB2⟩ : ∃ A, y1 &&& 3689348814741910323 = A := ⟨_, rfl⟩
  obtain ⟨y2, e2⟩ : ∃ y, y = A2 + B2 := ⟨_, rfl⟩
  obtain ⟨y3, e3⟩ : ∃ y, y = (y2 / 16 + y2) &&& 1085102592571150095 := ⟨_, rfl⟩
  obtain ⟨y4, e4⟩ : ∃ y, y = y3 + y3 / 256 := ⟨_, rfl⟩
  obtain ⟨y5, e5⟩ : ∃ y, y = y4 + y4 / 65536 := ⟨_, rfl⟩
  obtain ⟨y6, e6⟩ : ∃ y, y = y5 + y5 / 4294967296 := ⟨_, rfl⟩
  obtain ⟨l1, l2, l3, l4, l5, l6, H⟩ := ones24 x y1 y2 y3 y4 y5 y6 hx (by rw [hA1, hB1]; exact e1) (by rw [hA2, hB2]; exact e2) e3 e4 e5 e6
  rw [← HL.out] at H
  obtain ⟨n, HN⟩ : ∃ n, Hid ((bitsN x).length = n) := ⟨_, Lib.hid rfl⟩
  rw [HN.out] at H
  have HH : bits .and .i64 (y6 : Int) 127 = (n : Int) := by
    rw [← H]
    exact andI y6 127 (Nat.lt_trans l6 (by decide)) (by decide)
  have q1 : bits .and .u64 ((x : Int) / 2) 6148914691236517205 = (A1 : Int) := by
    have h := andU (x / 2) 6148914691236517205 A1 (Nat.lt_of_le_of_lt (Nat.div_le_self _ _) hx) (by decide) hA1
    rw [Int.natCast_ediv] at h; exact h
  have q2 : bits .and .u64 (x : Int) 6148914691236517205 = (B1 : Int) := andU x 6148914691236517205 B1 hx (by decide) hB1
  have q3 : bits .and .u64 ((y1 : Int) / 4) 3689348814741910323 = (A2 : Int) := by
    have h := andU (y1 / 4) 3689348814741910323 A2 (Nat.lt_of_le_of_lt (Nat.div_le_self _ _) l1) (by decide) hA2
    rw [Int.natCast_ediv] at h; exact h
  have q4 : bits .and .u64 (y1 : Int) 3689348814741910323 = (B2 : Int) := andU y1 3689348814741910323 B2 l1 (by decide) hB2
  have q5 : bits .and .u64 ((y2 : Int) / 16 + y2) 1085102592571150095 = (y3 : Int) := by
    rw [e3, show (y2 : Int) / 16 + y2 = ((y2 / 16 + y2 : Nat) : Int) by rw [Int.natCast_add, Int.natCast_ediv]; rfl]
    exact bits_and_u64_nat _ _ (Nat.lt_of_le_of_lt (Nat.add_le_add (Nat.div_le_self _ _) (Nat.le_refl _)) (Nat.lt_trans (Nat.add_lt_add l2 l2) (by decide))) (by decide)
  clear hA1 hB1 hA2 hB2 e3 H
  have s1 : IntKind.u64.wrap ((A1 : Int) + B1) = y1 := by rw [IntKind.wrap_u64]; omega
  have s2 : IntKind.u64.wrap ((A2 : Int) + B2) = y2 := by rw [IntKind.wrap_u64]; omega
  have s3 : IntKind.u64.wrap ((y2 : Int) / 16 + y2) = (y2 : Int) / 16 + y2 := by rw [IntKind.wrap_u64]; omega
  have s4 : IntKind.u64.wrap ((y3 : Int) + y3 / 256) = y4 := by rw [IntKind.wrap_u64]; omega
  have s5 : IntKind.u64.wrap ((y4 : Int) + y4 / 65536) = y5 := by rw [IntKind.wrap_u64]; omega
  have s6 : IntKind.u64.wrap ((y5 : Int) + y5 / 4294967296) = y6 := by rw [IntKind.wrap_u64]; omega
  have s7 : wrap64 (y6 : Int) = y6 := by unfold wrap64; omega
  rw [HN.out]
  clear e1 e2 e4 e5 e6 HL
  have Q := Lib.hid (And.intro q1 (And.intro q2 (And.intro s1 (And.intro q3 (And.intro q4 (And.intro s2 (And.intro s3 (And.intro q5 (And.intro s4 (And.intro s5 (And.intro s6 (And.intro s7 HH))))))))))))
  clear q1 q2 s1 q3 q4 s2 s3 q5 s4 s5 s6 s7 HH
  go_enter Tryz.func95, Tryz.ntmps95
  go_wp2
  go_ret
  obtain ⟨q1, q2, s1, q3, q4, s2, s3, q5, s4, s5, s6, s7, HH⟩ := Q.out
  refine ⟨?_, rfl⟩
  simp only [q1, q2, s1, q3, q4, s2, s3, q5, s4, s5, s6, s7, HH]
  rfl
theorem iOnes (w : World) (x : Nat) (hx : x < 16777216) :
    Calls Tryz.prog 75 #[.int .u64 x] w fun e w' => e = .returned (.int .i64 ((bitsN x).length : Nat)) ∧ w = w' := by
  have HX := Lib.hid hx
  go_enter Tryz.func75, Tryz.ntmps75
  go_wp2_with (go_at_call 95; refine (iOnes64 _ x HX.out).mono ?_; rintro e w1 ⟨rfl, rfl⟩)
  go_ret
  exact ⟨rfl, rfl⟩
theorem iCnt (w : World) (x : Nat) (hx : x < 16777216) :
    Calls Tryz.prog 48 #[.int .u64 x] w fun e w' => e = .returned (.int .i64 ((bitsN x).length : Nat)) ∧ w = w' := by
  have HX := Lib.hid hx
  go_enter Tryz.func48, Tryz.ntmps48
  go_wp2_with (go_at_call 75; refine (iOnes _ x HX.out).mono ?_; rintro e w1 ⟨rfl, rfl⟩)
  go_ret
  exact ⟨rfl, rfl⟩
theorem iHas (w : World) (s x : Nat) (hs : s < 16777216) (hx : x ≤ 23) :
    Calls Tryz.prog 41 #[.int .u64 s, .int .i64 x] w fun e w' => e = .returned (.bool (s.testBit x)) ∧ w = w' := by
  have hb : bits .and .u64 ((s : Int) / 2 ^ x) 1 = (if s.testBit x = true then 1 else 0) := by
    have h1 := bits_and_u64_nat (s / 2 ^ x) 1 (Nat.lt_of_le_of_lt (Nat.div_le_self _ _) (Nat.lt_trans hs (by decide))) (by decide)
    rw [Nat.and_one_is_mod] at h1
    simp only [Int.natCast_ediv, Int.natCast_pow] at h1
    rw [show ((1 : Nat) : Int) = 1 by rfl, show ((2 : Nat) : Int) = 2 by rfl] at h1
    rw [h1]
    by_cases hb : s.testBit x = true
    · rw [if_pos hb, (bit_iff s x).1 hb]; rfl
    · rw [if_neg hb]
      have : ¬ s / 2 ^ x % 2 = 1 := fun e => hb ((bit_iff s x).2 e)
      have : s / 2 ^ x % 2 = 0 := by omega
      rw [this]; rfl
  cases hbt : s.testBit x with
  | true =>
    rw [hbt, if_pos rfl] at hb
    clear hbt
    go_enter Tryz.func41, Tryz.ntmps41
    go_wp2
    go_ret
    exact ⟨rfl, rfl⟩
  | false =>
    rw [hbt, if_neg (by decide)] at hb
    clear hbt
    go_enter Tryz.func41, Tryz.ntmps41
    go_wp2
    go_ret
    exact ⟨rfl, rfl⟩
theorem iWith (w : World) (s x : Nat) (hs : s < 16777216) (hx : x ≤ 23) :
    Calls Tryz.prog 42 #[.int .u64 s, .int .i64 x] w fun e w' => e = .returned (.int .u64 (s ||| 2 ^ x : Nat)) ∧ w = w' := by
  have hp := pow_le24 (k := x) (by omega)
  have hw : IntKind.u64.wrap (2 ^ x) = ((2 ^ x : Nat) : Int) := by
    rw [pow_nat, IntKind.wrap_u64]
    generalize 2 ^ x = N at *
    omega
  have hb := bits_or_u64_nat s (2 ^ x) (Nat.lt_trans hs (by decide)) (by omega)
  obtain ⟨r, hr⟩ : ∃ r, (s ||| 2 ^ x) = r := ⟨_, rfl⟩
  rw [hr] at hb
  rw [hr]
  rw [← hw] at hb
  clear hr hw hp
  go_enter Tryz.func42, Tryz.ntmps42
  go_wp2
  go_ret
  exact ⟨rfl, rfl⟩
theorem iFull (w : World) (p q r N : Int) (h : Tri p q r) (hN : N = ((2 ^ (p * q * r).toNat : Nat) : Int) - 1) :
    Calls Tryz.prog 68 #[tV p q r] w fun e w' => e = .returned (.int .u64 N) ∧ Below w.heap.size w w' := by
  have HT := Lib.hid h
  obtain ⟨_, _, _, _, _, _, _, _, h1, h2⟩ := h
  have hp := pow_le24 (k := (p * q * r).toNat) (by omega)
  have h0 := Nat.two_pow_pos (p * q * r).toNat
  have hw : IntKind.u64.wrap (IntKind.u64.wrap (2 ^ (p * q * r).toNat) - 1) = N := by
    rw [hN, pow_nat, IntKind.wrap_u64, IntKind.wrap_u64]
    generalize 2 ^ (p * q * r).toNat = M at *
    omega
  clear hp h0 hN
  go_enter Tryz.func68, Tryz.ntmps68
  go_wp2_with (go_at_call 55; refine (iProduct _ _ _ _ HT.out).mono ?_; rintro e w2 ⟨rfl, hb2⟩)
  go_ret
  exact ⟨by rw [← hw]; rfl, (Joins.below_alloc1 w _).trans (hb2.mono (by simp))⟩
end Go.Proofs.YtkejpikhlejmaaaGreatDoor

namespace Go.Proofs.YtkejpikhlejmaaaGreatDoor
open Go.RowKit
set_option maxRecDepth 1000000
theorem iIsGroup (w : World) (a : Option Addr) (l : List Int) (n cap : Nat) (hn : n = l.length) (hm : n ≤ 9223372036854775807) (hi : Ints w a l) :
    Calls Tryz.prog 37 #[.agg #[.slice a n cap]] w fun e w' => e = .returned (.bool (grpB l)) ∧ Below w.heap.size w w' := by
  have HI := Lib.hid (ints_alloc hi (.cells #[.slice a n cap] 26))
  have HN := Lib.hid hn
  have C1 := newC w (.slice a n cap) 26 (n := w.heap.size) rfl
  have HB := Lib.hid (Joins.below_alloc1 w (.cells #[.slice a n cap] 26))
  clear hi hn
  go_enter Tryz.func37, Tryz.ntmps37
  go_wp2_with (go_at_call 67; refine (iOrders _ _ _ _ _ HN.out hm HI.out).mono ?_; rintro e w1 ⟨x, y, z, rfl, _, hb1⟩)
  go_ret
  exact ⟨rfl, HB.out.trans (Below.alloc (hb1.mono (by simp)) (Nat.le_trans (by simp) hb1.size) _)⟩
theorem iOrderOf (w : World) (a : Option Addr) (l : List Int) (n cap : Nat) (hn : n = l.length) (hm : n ≤ 9223372036854775807) (hi : Ints w a l) :
    Calls Tryz.prog 40 #[.agg #[.slice a n cap]] w fun e w' => e = .returned (.int .i64 (ordN l)) ∧ Below w.heap.size w w' := by
  have HI := Lib.hid (ints_alloc hi (.cells #[.slice a n cap] 26))
  have HN := Lib.hid hn
  have C1 := newC w (.slice a n cap) 26 (n := w.heap.size) rfl
  have HB := Lib.hid (Joins.below_alloc1 w (.cells #[.slice a n cap] 26))
  have T0 := Lib.hid (Below.refl (w.alloc (.cells #[.slice a n cap] 26)).heap.size (w.alloc (.cells #[.slice a n cap] 26)))
  clear hi hn
  cases hg : grpB l with
  | false =>
    have HG := Lib.hid hg
    rw [ordN_no hg]
    clear hg
    go_enter Tryz.func40, Tryz.ntmps40
    go_wp2_with (go_at_call 67; refine (iOrders _ _ _ _ _ HN.out hm HI.out).mono ?_; unfold OrdersPost; rw [HG.out]; rintro e w1 ⟨x, y, z, rfl, _, hb1⟩)
    go_ret
    exact ⟨rfl, HB.out.trans ((hb1.mono (by simp)).alloc (Nat.le_trans (by simp) hb1.size) _)⟩
  | true =>
    have HG := Lib.hid hg
    have HT := Lib.hid (tri_grp hg)
    rw [ordN_grp hg, prod_pad (grpB_true hg).1]
    clear hg
    go_enter Tryz.func40, Tryz.ntmps40
    go_wp2_with (first
      | (go_at_call 55; refine (iProduct _ _ _ _ HT.out).mono ?_; rintro e w2 ⟨rfl, hb2⟩)
      | (go_at_call 67; refine (iOrders _ _ _ _ _ HN.out hm HI.out).mono ?_; unfold OrdersPost; rw [HG.out]; rintro e w1 ⟨x, y, z, rfl, hxyz, hb1⟩; obtain ⟨rfl, rfl, rfl⟩ := hxyz rfl; clear hxyz))
    go_ret
    exact ⟨rfl, HB.out.trans (((hb1.mono (by simp)).alloc (Nat.le_trans (by simp) hb1.size) _).trans (hb2.mono (by have := hb1.size; simp at *; omega)))⟩
theorem keepH {B k : Nat} {w w' : World} {o : Obj} (hb : Below B w w') (hk : k < B) (h : w.heap[k]? = some o) : w'.heap[k]? = some o := (hb.block k hk).trans h
end Go.Proofs.YtkejpikhlejmaaaGreatDoor

namespace Go.Proofs.YtkejpikhlejmaaaGreatDoor
open Go.RowKit
set_option maxRecDepth 1000000
theorem below_set3a {B b : Nat} {w0 w : World} {x y z : Value} (h : Below B w0 w) (hb : B ≤ b) : Below B w0 (((w.setCell ⟨b, 0, none⟩ x).setCell ⟨b, 1, none⟩ y).setCell ⟨b, 2, none⟩ z) := below_set3 h hb
theorem iSetIn_no (w : World) (a : Option Addr) (l : List Int) (n cap : Nat) (s : Int) (hn : n = l.length) (hm : n ≤ 9223372036854775807) (hi : Ints w a l) (hs : isS l s = false) :
    Calls Tryz.prog 34 #[.agg #[.slice a n cap], .int .i64 s] w fun e w' => e = .returned (.tuple #[tV 0 0 0, .int .u64 0, .bool false]) ∧ Below w.heap.size w w' := by
  have HI := Lib.hid (ints_alloc (ints_alloc hi (.cells #[.slice a n cap] 26)) (.cells #[.int .i64 0, .int .i64 0, .int .i64 0] 47))
  have HN := Lib.hid hn
  have C1 := keepC (Joins.below_alloc1 _ (.cells #[.int .i64 0, .int .i64 0, .int .i64 0] 47)) (by simp <;> omega) (newC w (.slice a n cap) 26 (n := w.heap.size) rfl)
  have HB := Lib.hid (Joins.below_alloc2 w (.cells #[.slice a n cap] 26) (.cells #[.int .i64 0, .int .i64 0, .int .i64 0] 47))
  have R1 : Hid (((w.alloc (.cells #[.slice a n cap] 26)).alloc (.cells #[.int .i64 0, .int .i64 0, .int .i64 0] 47)).heap[w.heap.size + 1]? = some (.cells #[.int .i64 0, .int .i64 0, .int .i64 0] 47 (0, 0))) := Lib.hid (by simpa using heap_alloc_new (w.alloc (.cells #[.slice a n cap] 26)) (.cells #[.int .i64 0, .int .i64 0, .int .i64 0] 47))
  have T0 := Lib.hid (Below.refl ((w.alloc (.cells #[.slice a n cap] 26)).alloc (.cells #[.int .i64 0, .int .i64 0, .int .i64 0] 47)).heap.size ((w.alloc (.cells #[.slice a n cap] 26)).alloc (.cells #[.int .i64 0, .int .i64 0, .int .i64 0] 47)))
  clear hi hn
  cases hg : grpB l with
  | false =>
    have HG := Lib.hid hg
    clear hg hs
    go_enter Tryz.func34, Tryz.ntmps34
    go_wp2_with (first | (go_at_call 67; refine (iOrders _ _ _ _ _ HN.out hm HI.out).mono ?_; unfold OrdersPost; rw [HG.out]; rintro e w1 ⟨p, q, r, rfl, _, hb1⟩; have T1 := Lib.hid (T0.out.trans (hb1.mono T0.out.size)); have TA := Lib.hid (T1.out.alloc T1.out.size (.cells #[.int .i64 p, .int .i64 q, .int .i64 r] 47)); have c1 := keepC T1.out (by simp <;> omega) C1; obtain ⟨x10, x11, x12, x1f0, x1f1, x1f2⟩ := trip_cell (keepH T1.out (by simp <;> omega) R1.out); have c2 := keepC TA.out (by simp <;> omega) C1; obtain ⟨x20, x21, x22, x2f0, x2f1, x2f2⟩ := trip_cell (keepH TA.out (by simp <;> omega) R1.out)))
    refine bodyPost_ret (v := .tuple #[tV 0 0 0, .int .u64 0, .bool false]) (by simp [results, Tryz.results34, go_sem, x20, x21, x22]) rfl ⟨rfl, below_set3 (HB.out.trans (TA.out.mono (by simp <;> omega))) (by omega)⟩
  | true =>
    have HG := Lib.hid hg
    have HT := Lib.hid (tri_grp hg)
    have HP := prod_pad (grpB_true hg).1
    have HS := fullN_nat l
    rw [HP] at HS
    have hFb := full_bnd hg
    obtain ⟨p, EP⟩ : ∃ p, Hid (l.getD 0 1 = p) := ⟨_, Lib.hid rfl⟩
    obtain ⟨q, EQ⟩ : ∃ q, Hid (l.getD 1 1 = q) := ⟨_, Lib.hid rfl⟩
    obtain ⟨r, ER⟩ : ∃ r, Hid (l.getD 2 1 = r) := ⟨_, Lib.hid rfl⟩
    rw [EP.out, EQ.out, ER.out] at HT HS
    obtain ⟨N, EN⟩ : ∃ N, fullN l = N := ⟨_, rfl⟩
    rw [EN] at HS hFb
    have HFN := Lib.hid HS
    obtain ⟨f1, f2⟩ := hFb
    have hor : s < 0 ∨ (0 ≤ s ∧ N < s) := by
      simp only [isS, hg, EN, Bool.true_and, Bool.and_eq_false_iff, decide_eq_false_iff_not] at hs
      omega
    clear hg hs HP HS EN
    rcases hor with h | ⟨h, h2⟩
    · go_enter Tryz.func34, Tryz.ntmps34
      go_wp2_with (first
        | (go_at_call 67; refine (iOrders _ _ _ _ _ HN.out hm HI.out).mono ?_; unfold OrdersPost; rw [HG.out]; rintro e w1 ⟨p', q', r', rfl, hpqr, hb1⟩; obtain ⟨e1, e2, e3⟩ := hpqr rfl; clear hpqr; rw [EP.out] at e1; rw [EQ.out] at e2; rw [ER.out] at e3; subst e1 e2 e3; have T1 := Lib.hid (T0.out.trans (hb1.mono T0.out.size)); have TA := Lib.hid (T1.out.alloc T1.out.size (.cells #[.int .i64 p', .int .i64 q', .int .i64 r'] 47)); have c1 := keepC T1.out (by simp <;> omega) C1; obtain ⟨x10, x11, x12, x1f0, x1f1, x1f2⟩ := trip_cell (keepH T1.out (by simp <;> omega) R1.out); have c2 := keepC TA.out (by simp <;> omega) C1; obtain ⟨x20, x21, x22, x2f0, x2f1, x2f2⟩ := trip_cell (keepH TA.out (by simp <;> omega) R1.out); have R7 := Lib.hid (heap_alloc_new w1 (.cells #[.int .i64 p', .int .i64 q', .int .i64 r'] 47))))
      refine bodyPost_ret (v := .tuple #[tV 0 0 0, .int .u64 0, .bool false]) (by simp [results, Tryz.results34, go_sem, x20, x21, x22]) rfl ⟨rfl, below_set3 (HB.out.trans (TA.out.mono (by simp <;> omega))) (by omega)⟩
    · go_enter Tryz.func34, Tryz.ntmps34
      go_wp2_with (first
        | (go_at_call 68; refine (iFull _ _ _ _ _ HT.out HFN.out).mono ?_; rintro e w2 ⟨rfl, hb2⟩; have T2 := Lib.hid (TA.out.trans (hb2.mono TA.out.size)); have c3 := keepC T2.out (by simp <;> omega) C1; obtain ⟨x30, x31, x32, x3f0, x3f1, x3f2⟩ := trip_cell (keepH T2.out (by simp <;> omega) R1.out); obtain ⟨z30, z31, z32, z3f0, z3f1, z3f2⟩ := trip_cell (keepH hb2 (by simp <;> omega) R7.out))
        | (go_at_call 67; refine (iOrders _ _ _ _ _ HN.out hm HI.out).mono ?_; unfold OrdersPost; rw [HG.out]; rintro e w1 ⟨p', q', r', rfl, hpqr, hb1⟩; obtain ⟨e1, e2, e3⟩ := hpqr rfl; clear hpqr; rw [EP.out] at e1; rw [EQ.out] at e2; rw [ER.out] at e3; subst e1 e2 e3; have T1 := Lib.hid (T0.out.trans (hb1.mono T0.out.size)); have TA := Lib.hid (T1.out.alloc T1.out.size (.cells #[.int .i64 p', .int .i64 q', .int .i64 r'] 47)); have c1 := keepC T1.out (by simp <;> omega) C1; obtain ⟨x10, x11, x12, x1f0, x1f1, x1f2⟩ := trip_cell (keepH T1.out (by simp <;> omega) R1.out); have c2 := keepC TA.out (by simp <;> omega) C1; obtain ⟨x20, x21, x22, x2f0, x2f1, x2f2⟩ := trip_cell (keepH TA.out (by simp <;> omega) R1.out); have R7 := Lib.hid (heap_alloc_new w1 (.cells #[.int .i64 p', .int .i64 q', .int .i64 r'] 47))))
      refine bodyPost_ret (v := .tuple #[tV 0 0 0, .int .u64 0, .bool false]) (by simp [results, Tryz.results34, go_sem, x30, x31, x32]) rfl ⟨rfl, below_set3 (HB.out.trans (T2.out.mono (by simp <;> omega))) (by omega)⟩
theorem iSetIn_yes (w : World) (a : Option Addr) (l : List Int) (n cap : Nat) (s : Int) (hn : n = l.length) (hm : n ≤ 9223372036854775807) (hi : Ints w a l) (hs : isS l s = true) :
    Calls Tryz.prog 34 #[.agg #[.slice a n cap], .int .i64 s] w fun e w' => e = .returned (.tuple #[tV (l.getD 0 1) (l.getD 1 1) (l.getD 2 1), .int .u64 s, .bool true]) ∧ Below w.heap.size w w' := by
  have HI := Lib.hid (ints_alloc (ints_alloc hi (.cells #[.slice a n cap] 26)) (.cells #[.int .i64 0, .int .i64 0, .int .i64 0] 47))
  have HN := Lib.hid hn
  have C1 := keepC (Joins.below_alloc1 _ (.cells #[.int .i64 0, .int .i64 0, .int .i64 0] 47)) (by simp <;> omega) (newC w (.slice a n cap) 26 (n := w.heap.size) rfl)
  have HB := Lib.hid (Joins.below_alloc2 w (.cells #[.slice a n cap] 26) (.cells #[.int .i64 0, .int .i64 0, .int .i64 0] 47))
  have R1 : Hid (((w.alloc (.cells #[.slice a n cap] 26)).alloc (.cells #[.int .i64 0, .int .i64 0, .int .i64 0] 47)).heap[w.heap.size + 1]? = some (.cells #[.int .i64 0, .int .i64 0, .int .i64 0] 47 (0, 0))) := Lib.hid (by simpa using heap_alloc_new (w.alloc (.cells #[.slice a n cap] 26)) (.cells #[.int .i64 0, .int .i64 0, .int .i64 0] 47))
  have T0 := Lib.hid (Below.refl ((w.alloc (.cells #[.slice a n cap] 26)).alloc (.cells #[.int .i64 0, .int .i64 0, .int .i64 0] 47)).heap.size ((w.alloc (.cells #[.slice a n cap] 26)).alloc (.cells #[.int .i64 0, .int .i64 0, .int .i64 0] 47)))
  clear hi hn
  have hg := (isS_true hs).1
  have HG := Lib.hid hg
  have HT := Lib.hid (tri_grp hg)
  have HP := prod_pad (grpB_true hg).1
  have HS := fullN_nat l
  rw [HP] at HS
  have hFb := full_bnd hg
  obtain ⟨p, EP⟩ : ∃ p, Hid (l.getD 0 1 = p) := ⟨_, Lib.hid rfl⟩
  obtain ⟨q, EQ⟩ : ∃ q, Hid (l.getD 1 1 = q) := ⟨_, Lib.hid rfl⟩
  obtain ⟨r, ER⟩ : ∃ r, Hid (l.getD 2 1 = r) := ⟨_, Lib.hid rfl⟩
  rw [EP.out, EQ.out, ER.out] at HT HS
  obtain ⟨N, EN⟩ : ∃ N, fullN l = N := ⟨_, rfl⟩
  rw [EN] at HS hFb
  have HFN := Lib.hid HS
  obtain ⟨f1, f2⟩ := hFb
  have hor : 0 ≤ s ∧ s ≤ N := by
    simp only [isS, hg, EN, Bool.true_and, Bool.and_eq_true, decide_eq_true_eq] at hs
    exact hs
  obtain ⟨h1, h2⟩ := hor
  rw [EP.out, EQ.out, ER.out]
  clear hg hs HP HS EN
  go_enter Tryz.func34, Tryz.ntmps34
  go_wp2_with (first
    | (go_at_call 68; refine (iFull _ _ _ _ _ HT.out HFN.out).mono ?_; rintro e w2 ⟨rfl, hb2⟩; have T2 := Lib.hid (TA.out.trans (hb2.mono TA.out.size)); have c3 := keepC T2.out (by simp <;> omega) C1; obtain ⟨x30, x31, x32, x3f0, x3f1, x3f2⟩ := trip_cell (keepH T2.out (by simp <;> omega) R1.out); obtain ⟨z30, z31, z32, z3f0, z3f1, z3f2⟩ := trip_cell (keepH hb2 (by simp <;> omega) R7.out))
    | (go_at_call 67; refine (iOrders _ _ _ _ _ HN.out hm HI.out).mono ?_; unfold OrdersPost; rw [HG.out]; rintro e w1 ⟨p', q', r', rfl, hpqr, hb1⟩; obtain ⟨e1, e2, e3⟩ := hpqr rfl; clear hpqr; rw [EP.out] at e1; rw [EQ.out] at e2; rw [ER.out] at e3; subst e1 e2 e3; have T1 := Lib.hid (T0.out.trans (hb1.mono T0.out.size)); have TA := Lib.hid (T1.out.alloc T1.out.size (.cells #[.int .i64 p', .int .i64 q', .int .i64 r'] 47)); have c1 := keepC T1.out (by simp <;> omega) C1; obtain ⟨x10, x11, x12, x1f0, x1f1, x1f2⟩ := trip_cell (keepH T1.out (by simp <;> omega) R1.out); have c2 := keepC TA.out (by simp <;> omega) C1; obtain ⟨x20, x21, x22, x2f0, x2f1, x2f2⟩ := trip_cell (keepH TA.out (by simp <;> omega) R1.out); have R7 := Lib.hid (heap_alloc_new w1 (.cells #[.int .i64 p', .int .i64 q', .int .i64 r'] 47))))
  refine bodyPost_ret (v := .tuple #[tV p' q' r', .int .u64 s, .bool true]) (by simp [results, Tryz.results34, go_sem, x30, x31, x32]) rfl ⟨rfl, below_set3 (HB.out.trans (T2.out.mono (by simp <;> omega))) (by omega)⟩
/-- What setIn answers. -/
def SetInPost (l : List Int) (s : Int) (w : World) (e : Ending) (w' : World) : Prop :=
  ∃ p q r v, e = .returned (.tuple #[tV p q r, .int .u64 v, .bool (isS l s)]) ∧ (isS l s = true → p = l.getD 0 1 ∧ q = l.getD 1 1 ∧ r = l.getD 2 1 ∧ v = s) ∧ Below w.heap.size w w'
theorem iSetIn (w : World) (a : Option Addr) (l : List Int) (n cap : Nat) (s : Int) (hn : n = l.length) (hm : n ≤ 9223372036854775807) (hi : Ints w a l) :
    Calls Tryz.prog 34 #[.agg #[.slice a n cap], .int .i64 s] w (SetInPost l s w) := by
  unfold SetInPost
  cases hs : isS l s with
  | false => exact (iSetIn_no w a l n cap s hn hm hi hs).mono fun e w' ⟨he, hb⟩ => ⟨0, 0, 0, 0, he, (fun h => by cases h), hb⟩
  | true => exact (iSetIn_yes w a l n cap s hn hm hi hs).mono fun e w' ⟨he, hb⟩ => ⟨_, _, _, _, he, fun _ => ⟨rfl, rfl, rfl, rfl⟩, hb⟩
theorem iIsSet (w : World) (a : Option Addr) (l : List Int) (n cap : Nat) (s : Int) (hn : n = l.length) (hm : n ≤ 9223372036854775807) (hi : Ints w a l) :
    Calls Tryz.prog 12 #[.agg #[.slice a n cap], .int .i64 s] w fun e w' => e = .returned (.bool (isS l s)) ∧ Below w.heap.size w w' := by
  have HI := Lib.hid (ints_alloc hi (.cells #[.slice a n cap] 26))
  have HN := Lib.hid hn
  have C1 := newC w (.slice a n cap) 26 (n := w.heap.size) rfl
  have HB := Lib.hid (Joins.below_alloc1 w (.cells #[.slice a n cap] 26))
  have T0 := Lib.hid (Below.refl (w.alloc (.cells #[.slice a n cap] 26)).heap.size (w.alloc (.cells #[.slice a n cap] 26)))
  clear hi hn
  go_enter Tryz.func12, Tryz.ntmps12
  go_wp2_with (go_at_call 34; refine (iSetIn _ _ _ _ _ _ HN.out hm HI.out).mono ?_; unfold SetInPost; rintro e w1 ⟨p, q, r, v, rfl, _, hb1⟩)
  go_ret
  exact ⟨rfl, HB.out.trans (Below.alloc (hb1.mono (by simp)) (Nat.le_trans (by simp) hb1.size) _)⟩
theorem iFullSet (w : World) (a : Option Addr) (l : List Int) (n cap : Nat) (hn : n = l.length) (hm : n ≤ 9223372036854775807) (hi : Ints w a l) :
    Calls Tryz.prog 31 #[.agg #[.slice a n cap]] w fun e w' => e = .returned (.int .i64 (if grpB l = true then fullN l else 0)) ∧ Below w.heap.size w w' := by
  have HI := Lib.hid (ints_alloc hi (.cells #[.slice a n cap] 26))
  have HN := Lib.hid hn
  have C1 := newC w (.slice a n cap) 26 (n := w.heap.size) rfl
  have HB := Lib.hid (Joins.below_alloc1 w (.cells #[.slice a n cap] 26))
  have T0 := Lib.hid (Below.refl (w.alloc (.cells #[.slice a n cap] 26)).heap.size (w.alloc (.cells #[.slice a n cap] 26)))
  clear hi hn
  cases hg : grpB l with
  | false =>
    have HG := Lib.hid hg
    rw [if_neg (by simp)]
    clear hg
    go_enter Tryz.func31, Tryz.ntmps31
    go_wp2_with (go_at_call 67; refine (iOrders _ _ _ _ _ HN.out hm HI.out).mono ?_; unfold OrdersPost; rw [HG.out]; rintro e w1 ⟨x, y, z, rfl, _, hb1⟩)
    go_ret
    exact ⟨rfl, HB.out.trans ((hb1.mono (by simp)).alloc (Nat.le_trans (by simp) hb1.size) _)⟩
  | true =>
    have HG := Lib.hid hg
    have HT := Lib.hid (tri_grp hg)
    have HP := prod_pad (grpB_true hg).1
    have HS := fullN_nat l
    rw [HP] at HS
    have hFb := full_bnd hg
    obtain ⟨p, EP⟩ : ∃ p, Hid (l.getD 0 1 = p) := ⟨_, Lib.hid rfl⟩
    obtain ⟨q, EQ⟩ : ∃ q, Hid (l.getD 1 1 = q) := ⟨_, Lib.hid rfl⟩
    obtain ⟨r, ER⟩ : ∃ r, Hid (l.getD 2 1 = r) := ⟨_, Lib.hid rfl⟩
    rw [EP.out, EQ.out, ER.out] at HT HS
    obtain ⟨N, EN⟩ : ∃ N, fullN l = N := ⟨_, rfl⟩
    rw [EN] at HS hFb
    have HFN := Lib.hid HS
    obtain ⟨f1, f2⟩ := hFb
    rw [if_pos rfl, EN]
    clear hg HP HS EN
    go_enter Tryz.func31, Tryz.ntmps31
    go_wp2_with (first
      | (go_at_call 68; refine (iFull _ _ _ _ _ HT.out HFN.out).mono ?_; rintro e w2 ⟨rfl, hb2⟩)
      | (go_at_call 67; refine (iOrders _ _ _ _ _ HN.out hm HI.out).mono ?_; unfold OrdersPost; rw [HG.out]; rintro e w1 ⟨x, y, z, rfl, hxyz, hb1⟩; obtain ⟨e1, e2, e3⟩ := hxyz rfl; clear hxyz; rw [EP.out] at e1; rw [EQ.out] at e2; rw [ER.out] at e3; subst e1 e2 e3))
    go_ret
    exact ⟨rfl, HB.out.trans (((hb1.mono (by simp)).alloc (Nat.le_trans (by simp) hb1.size) _).trans (hb2.mono (by have := hb1.size; simp at *; omega)))⟩
/-- The number of the full set; 0 of what is no group. -/
def fullE (l : List Int) : Int := if grpB l = true then fullN l else 0
theorem sFullE (w : World) (a : Option Addr) (l : List Int) (n cap : Nat) (hn : n = l.length) (hm : n ≤ 9223372036854775807) (hi : Ints w a l) :
    Calls Tryz.prog 32 #[.agg #[.slice a n cap]] w fun e w' => e = .returned (.int .i64 (fullE l)) ∧ Below w.heap.size w w' := sFull w a l n cap hn hm hi
theorem iFullE (w : World) (a : Option Addr) (l : List Int) (n cap : Nat) (hn : n = l.length) (hm : n ≤ 9223372036854775807) (hi : Ints w a l) :
    Calls Tryz.prog 31 #[.agg #[.slice a n cap]] w fun e w' => e = .returned (.int .i64 (fullE l)) ∧ Below w.heap.size w w' := iFullSet w a l n cap hn hm hi
theorem iCount (w : World) (a : Option Addr) (l : List Int) (n cap : Nat) (s : Int) (hn : n = l.length) (hm : n ≤ 9223372036854775807) (hi : Ints w a l) :
    Calls Tryz.prog 15 #[.agg #[.slice a n cap], .int .i64 s] w fun e w' => e = .returned (.int .i64 (cntE l s)) ∧ Below w.heap.size w w' := by
  have HI := Lib.hid (ints_alloc hi (.cells #[.slice a n cap] 26))
  have HN := Lib.hid hn
  have C1 := newC w (.slice a n cap) 26 (n := w.heap.size) rfl
  have HB := Lib.hid (Joins.below_alloc1 w (.cells #[.slice a n cap] 26))
  have T0 := Lib.hid (Below.refl (w.alloc (.cells #[.slice a n cap] 26)).heap.size (w.alloc (.cells #[.slice a n cap] 26)))
  clear hi hn
  cases hs : isS l s with
  | false =>
    have HS := Lib.hid hs
    rw [show cntE l s = -1 by unfold cntE; rw [hs]; rfl]
    clear hs
    go_enter Tryz.func15, Tryz.ntmps15
    go_wp2_with (go_at_call 34; refine (iSetIn _ _ _ _ _ _ HN.out hm HI.out).mono ?_; unfold SetInPost; rw [HS.out]; rintro e w1 ⟨p, q, r, v, rfl, hv, hb1⟩; clear hv)
    go_ret
    exact ⟨rfl, HB.out.trans (by first | exact hb1.mono (by simp) | exact Below.alloc (hb1.mono (by simp)) (Nat.le_trans (by simp) hb1.size) _)⟩
  | true =>
    have HS := Lib.hid hs
    obtain ⟨hg, m, rfl, _, hm24⟩ := isS_true hs
    rw [show cntE l m = ((bitsN m).length : Nat) by unfold cntE; rw [hs]; rfl]
    have HM := Lib.hid hm24
    clear hs hg hm24
    go_enter Tryz.func15, Tryz.ntmps15
    go_wp2_with (first
      | (go_at_call 48; refine (iCnt _ m HM.out).mono ?_; rintro e w2 ⟨rfl, rfl⟩)
      | (go_at_call 34; refine (iSetIn _ _ _ _ _ _ HN.out hm HI.out).mono ?_; unfold SetInPost; rw [HS.out]; rintro e w1 ⟨p, q, r, v, rfl, hv, hb1⟩; obtain ⟨_, _, _, rfl⟩ := hv rfl))
    go_ret
    exact ⟨rfl, HB.out.trans (by first | exact hb1.mono (by simp) | exact Below.alloc (hb1.mono (by simp)) (Nat.le_trans (by simp) hb1.size) _)⟩
end Go.Proofs.YtkejpikhlejmaaaGreatDoor
