/- The contracts of the document's reading of sets (spec): IsSet, FullSet, CountSet. -/
import Derived.Test.YtfkleihnafeoeaaGreatDoorSetMath
import Derived.Test.YtfkleihnafeoeaaGreatDoorGrpSpec4
namespace Go.Proofs.YtfkleihnafeoeaaGreatDoor
open Go.RowKit
set_option maxRecDepth 1000000
theorem wrap_pow {k : Nat} (h : k ≤ 24) : wrap64 ((2 : Int) ^ k) = ((2 ^ k : Nat) : Int) := by
  have := pow_le24 h
  rw [pow_nat]
  generalize 2 ^ k = N at *
  unfold wrap64; omega
theorem wrap_full {l : List Int} (h : grpB l = true) : wrap64 (wrap64 (2 ^ (prodI l).toNat) - 1) = fullN l := by
  have hp := (ords_grp h).prod
  rw [wrap_pow (by omega), fullN_nat]
  have := pow_le24 (k := (prodI l).toNat) (by omega)
  have h1 := Nat.two_pow_pos (prodI l).toNat
  generalize 2 ^ (prodI l).toNat = N at *
  unfold wrap64; omega
theorem full_bnd {l : List Int} (h : grpB l = true) : 1 ≤ fullN l ∧ fullN l ≤ 16777215 := by
  have hp := (ords_grp h).prod
  rw [fullN_nat]
  have := pow_le24 (k := (prodI l).toNat) (by omega)
  have h1 : 2 ^ 1 ≤ 2 ^ (prodI l).toNat := Nat.pow_le_pow_right (by decide) (by omega)
  generalize 2 ^ (prodI l).toNat = N at *
  omega
theorem sIsSet (w : World) (a : Option Addr) (l : List Int) (n cap : Nat) (s : Int) (hn : n = l.length) (hm : n ≤ 9223372036854775807) (hi : Ints w a l) :
    Calls Tryz.prog 34 #[.agg #[.slice a n cap], .int .i64 s] w fun e w' => e = .returned (.bool (isS l s)) ∧ Below w.heap.size w w' := by
  have HI := Lib.hid (ints_alloc hi (.cells #[.slice a n cap] 26))
  have HN := Lib.hid hn
  have C1 := newC w (.slice a n cap) 26 (n := w.heap.size) rfl
  have HB := Lib.hid (Joins.below_alloc1 w (.cells #[.slice a n cap] 26))
  have T0 := Lib.hid (Below.refl (w.alloc (.cells #[.slice a n cap] 26)).heap.size (w.alloc (.cells #[.slice a n cap] 26)))
  clear hi hn
  cases hg : grpB l with
  | false =>
    have HG := Lib.hid hg
    rw [show isS l s = false by unfold isS; rw [hg]; rfl]
    clear hg
    go_enter Tryz.func34, Tryz.ntmps34
    go_wp2_with (go_at_call 66; refine (sIsGroup _ _ _ _ _ HN.out hm (HI.out.below rfl T0.out)).mono ?_; rw [HG.out]; rintro e w1 ⟨rfl, hb1⟩; have T1 := Lib.hid (T0.out.trans (hb1.mono T0.out.size)); have c1 := keepC T1.out (by simp) C1)
    go_ret
    exact ⟨rfl, HB.out.trans (T1.out.mono (by simp))⟩
  | true =>
    have HG := Lib.hid hg
    have HF := Lib.hid (wrap_full hg)
    obtain ⟨p1, p2⟩ := (ords_grp hg).prod
    have HS : Hid (isS l s = (decide (0 ≤ s) && decide (s ≤ wrap64 (wrap64 (2 ^ (prodI l).toNat) - 1)))) := Lib.hid (by rw [HF.out]; unfold isS; rw [hg, Bool.true_and])
    clear hg
    obtain ⟨r, HR⟩ : ∃ r, Hid (isS l s = r) := ⟨_, Lib.hid rfl⟩
    rw [HR.out]
    have HS2 : Hid (r = (decide (0 ≤ s) && decide (s ≤ wrap64 (wrap64 (2 ^ (prodI l).toNat) - 1)))) := Lib.hid (by rw [← HR.out]; exact HS.out)
    go_enter Tryz.func34, Tryz.ntmps34
    go_wp2_with (first
      | (go_at_call 66; refine (sIsGroup _ _ _ _ _ HN.out hm (HI.out.below rfl T0.out)).mono ?_; rw [HG.out]; rintro e w1 ⟨rfl, hb1⟩; have T1 := Lib.hid (T0.out.trans (hb1.mono T0.out.size)); have c1 := keepC T1.out (by simp) C1)
      | (go_at_call 35; refine (sOrder _ _ _ _ _ HN.out HG.out (HI.out.below rfl T1.out)).mono ?_; rintro e w2 ⟨rfl, hb2⟩; have T2 := Lib.hid (T1.out.trans (hb2.mono T1.out.size)); have c2 := keepC T2.out (by simp) C1)
      | (go_at_call 55; refine (sIn _ _ _ _ _ HS2.out).mono ?_; rintro e w3 ⟨rfl, rfl⟩))
    go_ret
    exact ⟨rfl, HB.out.trans (T2.out.mono (by simp))⟩
theorem and1 (a : Nat) (h : a < 9223372036854775808) : bits .and .i64 (a : Int) 1 = ((a % 2 : Nat) : Int) := by
  have h1 : (BitVec.ofInt 64 (a : Int)).toNat = a := by
    rw [BitVec.ofInt_natCast, BitVec.toNat_ofNat]; exact Nat.mod_eq_of_lt (by omega)
  show IntKind.i64.wrap ((BitVec.ofInt 64 (a : Int) &&& BitVec.ofInt 64 1).toNat : Int) = _
  rw [BitVec.toNat_and, h1, show (BitVec.ofInt 64 1).toNat = 1 by decide, Nat.and_one_is_mod]
  simp [IntKind.wrap, IntKind.signed, IntKind.bits]
  omega
theorem sBits (w : World) (s : Nat) (h : s < 2 ^ 24) :
    Calls Tryz.prog 37 #[.int .i64 s] w fun e w' => e = .returned (.int .i64 ((bitsN s).length : Nat)) ∧ w = w' := by
  have HL := Lib.hid h
  have h24 : s < 16777216 := h
  clear h
  go_enter Tryz.func37, Tryz.ntmps37
  go_wp2
  go_loop [3, 4] (fun c x => ∃ k : Nat, k ≤ 24 ∧ c = .int .i64 ((upK s k).length : Nat) ∧ x = .int .i64 ((s / 2 ^ k : Nat) : Int)) (fun _ x => (intOf x).toNat)
  case atStart => exact ⟨0, by omega, rfl, by simp⟩
  case round =>
    obtain ⟨k, hk, rfl, rfl⟩ := hrel
    have hle := Nat.div_le_self s (2 ^ k)
    have hu := upK_len s k
    by_cases h0 : s / 2 ^ k = 0
    · have HF := Lib.hid (upK_full (div_zero h0) hk)
      rw [h0]
      go_wp2
      go_ret
      exact ⟨by rw [← HF.out]; rfl, rfl⟩
    · have hk24 : k < 24 := by
        rcases Nat.lt_or_ge k 24 with h | h
        · exact h
        · exfalso; apply h0
          have : k = 24 := by omega
          subst this
          exact Nat.div_eq_of_lt HL.out
      have HQ : Hid (s / 2 ^ k / 2 = s / 2 ^ (k + 1)) := Lib.hid (by rw [Nat.div_div_eq_div_mul, Nat.pow_succ])
      have HB := Lib.hid (bit_iff s k)
      have HU := Lib.hid (upK_succ s k)
      generalize s / 2 ^ k = q at *
      have ha := and1 q (by omega)
      have hlt : (upK s (k + 1)).length = (upK s k).length + q % 2 := by
        rw [HU.out]
        by_cases hb : s.testBit k = true
        · rw [if_pos hb, HB.out.1 hb]; simp
        · rw [if_neg hb]
          have : ¬ q % 2 = 1 := fun e => hb (HB.out.2 e)
          omega
      have HT := Lib.hid hlt
      clear hlt
      generalize (upK s k).length = c at *
      go_wp2
      go_round
      case rel => exact ⟨k + 1, by omega, by rw [HT.out]; go_num, by rw [← HQ.out]; go_num⟩
      case measure => simp [intOf]; omega
/-- The document's count. -/
def cntE (l : List Int) (s : Int) : Int := if isS l s = true then ((bitsN s.toNat).length : Nat) else -1
theorem sCount (w : World) (a : Option Addr) (l : List Int) (n cap : Nat) (s : Int) (hn : n = l.length) (hm : n ≤ 9223372036854775807) (hi : Ints w a l) :
    Calls Tryz.prog 14 #[.agg #[.slice a n cap], .int .i64 s] w fun e w' => e = .returned (.int .i64 (cntE l s)) ∧ Below w.heap.size w w' := by
  have HI := Lib.hid (ints_alloc hi (.cells #[.slice a n cap] 26))
  have HN := Lib.hid hn
  have C1 := newC w (.slice a n cap) 26 (n := w.heap.size) rfl
  have HB := Lib.hid (Joins.below_alloc1 w (.cells #[.slice a n cap] 26))
  have T0 := Lib.hid (Below.refl (w.alloc (.cells #[.slice a n cap] 26)).heap.size (w.alloc (.cells #[.slice a n cap] 26)))
  clear hi hn
  cases hs : isS l s with
  | false =>
    have HS := Lib.hid hs
    rw [show cntE l s = -1 by unfold cntE; rw [hs]; rfl]
    clear hs
    go_enter Tryz.func14, Tryz.ntmps14
    go_wp2_with (go_at_call 34; refine (sIsSet _ _ _ _ _ _ HN.out hm (HI.out.below rfl T0.out)).mono ?_; rw [HS.out]; rintro e w1 ⟨rfl, hb1⟩; have T1 := Lib.hid (T0.out.trans (hb1.mono T0.out.size)); have c1 := keepC T1.out (by simp) C1)
    go_ret
    exact ⟨rfl, HB.out.trans (T1.out.mono (by simp))⟩
  | true =>
    have HS := Lib.hid hs
    obtain ⟨hg, m, rfl, _, hm24⟩ := isS_true hs
    rw [show cntE l m = ((bitsN m).length : Nat) by unfold cntE; rw [hs]; rfl]
    have HM := Lib.hid hm24
    clear hs hg hm24
    go_enter Tryz.func14, Tryz.ntmps14
    go_wp2_with (first
      | (go_at_call 34; refine (sIsSet _ _ _ _ _ _ HN.out hm (HI.out.below rfl T0.out)).mono ?_; rw [HS.out]; rintro e w1 ⟨rfl, hb1⟩; have T1 := Lib.hid (T0.out.trans (hb1.mono T0.out.size)); have c1 := keepC T1.out (by simp) C1)
      | (go_at_call 37; refine (sBits _ m HM.out).mono ?_; rintro e w3 ⟨rfl, rfl⟩))
    go_ret
    exact ⟨rfl, HB.out.trans (T1.out.mono (by simp))⟩
end Go.Proofs.YtfkleihnafeoeaaGreatDoor
