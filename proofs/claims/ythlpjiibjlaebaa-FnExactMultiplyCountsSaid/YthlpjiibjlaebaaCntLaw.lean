/- The walks of the laws on sums and products of counts. -/
import Derived.Test.YthlpjiibjlaebaaCntI
import Derived.Test.YthlpjiibjlaebaaMark
namespace Go.Proofs.Ythlpjiibjlaebaa
open Go.RowKit
theorem markInts_wide (w : World) (B g : Nat) (l : List Int) (n cap : Nat) (k : Int) (kn : Nat) (hk : k = (kn : Int)) (hn : n = l.length) (hl : n ≤ 1048576) (hkn : kn ≤ 2097152)
    (ho : w.ownsRow B 3 1 (.slice (some ⟨g, 0, none⟩) n cap) n (l.map (Value.int .i64))) :
    Calls Try.prog 10 #[.slice (some ⟨g, 0, none⟩) n cap, .int .i64 k] w fun e w' => e = .returned (.int .i64 ((kn + n : Nat) : Int)) ∧ w'.ownsRow B 3 1 (.slice (some ⟨g, 0, none⟩) n cap) n ((upI kn n).map (Value.int .i64)) ∧ w.grownBy w' (some g) := by
  subst hk
  have hrow : w.ownsRow B 3 1 (.slice (some ⟨g, 0, none⟩) n cap) n (mixI kn l 0) := by simpa [mixI, upI] using ho
  have HN := Lib.hid hn
  clear hn ho
  go_enter Try.func10, Try.ntmps10
  go_wp2
  go_loopw [1, 5] (fun k i wr => ∃ j : Nat, j ≤ n ∧ i = .int .i64 j ∧ k = .int .i64 ((kn + j : Nat) : Int) ∧ wr.ownsRow B 3 1 (.slice (some ⟨g, 0, none⟩) n cap) n (mixI kn l j) ∧ w.grownBy wr (some g)) (fun _ i _ => n - (intOf i).toNat)
  case atStart => exact ⟨0, Nat.zero_le _, rfl, rfl, hrow, World.grownBy.refl _ _⟩
  case round =>
    obtain ⟨j, hj, rfl, rfl, hr, hg⟩ := hrel
    by_cases hlt : j < n
    · have hjl : j < l.length := by rw [← HN.out]; exact hlt
      have hfr := hr.frozenAt j
      have hcell := hr.cellAt j (by omega)
      have hcv : ∃ v, (mixI kn l j)[j]? = some v := ⟨_, List.getElem?_eq_getElem (by simp [mixI, upI_len]; omega)⟩
      obtain ⟨v, hv⟩ := hcv
      rw [hv] at hcell
      have hst := (hr.stored j (.int .i64 ((kn + j : Nat) : Int))).1
      rw [mixI_set _ _ _ hjl] at hst
      have HST := Lib.hid hst
      have HG := Lib.hid (grownG_set hg j (.int .i64 ((kn + j : Nat) : Int)))
      clear hst hv hjl hr hg
      go_wp2
      go_roundw
      case rel => exact ⟨j + 1, by omega, by go_num, by go_num, HST.out, HG.out⟩
      case measure => simp [intOf]; omega
    · obtain rfl : j = n := by omega
      have HR := Lib.hid hr
      have hfull : mixI kn l j = (upI kn j).map (Value.int .i64) := by rw [HN.out]; simp [mixI]
      rw [hfull] at hr
      go_wp2
      go_ret
      exact ⟨rfl, hr, hg⟩
theorem markRow_wide (w : World) (B : Nat) (a : Option Addr) (l : List Int) (n cap : Nat) (k : Int) (kn : Nat) (hk : k = (kn : Int)) (hn : n = l.length) (hl : n ≤ 1048576) (hkn : kn ≤ 2097152)
    (ho : w.ownsRow B 3 1 (.slice a n cap) n (l.map (Value.int .i64))) :
    Calls Try.prog 10 #[.slice a n cap, .int .i64 k] w fun e w' => e = .returned (.int .i64 ((kn + n : Nat) : Int)) ∧ w'.ownsRow B 3 1 (.slice a n cap) n ((upI kn n).map (Value.int .i64)) ∧ w.grownBy w' (Value.slice a n cap).ownBlock := by
  obtain ⟨h1, h2⟩ := ho
  rcases h2 with ⟨h2, h3⟩ | ⟨g, cap', cur, hv, hb, hg, h4, h5, h6, h7⟩
  · cases h2
    subst hk
    clear h1 h3 hn hl
    go_enter Try.func10, Try.ntmps10
    go_wp2
    refine wp_loop_rounds 1 ?_
    rw [rounds_succ]; go_wp2
    go_ret
    exact ⟨rfl, World.ownsRow_nil _ _ _ _, World.grownBy.refl _ _⟩
  · cases hv
    exact markInts_wide w B g l n cap k kn hk hn hl hkn ⟨h1, .inr ⟨g, cap, cur, rfl, hb, hg, h4, h5, h6, h7⟩⟩
theorem len_addC (p q : List Int) : (addC p q).length ≤ 1048576 := by
  unfold addC
  split
  · next h =>
    have hp : cntB p = true := by unfold addB at h; exact (Bool.and_eq_true_iff.1 h).1
    have := (cntB_yes hp).2.2
    rw [addK_len]
    omega
  · simp
set_option maxHeartbeats 4000000 in
theorem walkAddCounts (w : World) (a : Option Addr) (p : List Int) (n ca : Nat) (b : Option Addr) (q : List Int) (m cb : Nat) (hn : n = p.length) (hm : n ≤ 9223372036854775807) (hi : Ints w a p) (hn2 : m = q.length) (hm2 : m ≤ 9223372036854775807) (hj : Ints w b q) :
    Calls Try.prog 3 #[.slice a n ca, .slice b m cb] w fun e w' => e = .returned (.bool true) ∧ Below w.heap.size w w' := by
  have HI := Lib.hid hi
  have HN := Lib.hid hn
  have HJ := Lib.hid hj
  have HM := Lib.hid hn2
  have hpl := len_addC p q
  clear hi hn hj hn2
  by_cases h1 : n ≤ 1048576
  · have g1 : ¬ ((n : Int) > 1048576) := by omega
    by_cases h2 : m ≤ 1048576
    · have g2 : ¬ ((m : Int) > 1048576) := by omega
      go_enter Try.func3, Try.ntmps3
      go_upto_region 9 with (first
        | (go_at_call 8; have hx_ := T5; clear hx_; refine (iAddC _ _ _ p q _ _ _ _ HN.out hm HM.out hm2 (ints_own (by rw [← HN.out]; exact P5.out)) (ints_own (by rw [← HM.out]; exact Q5.out))).mono ?_; rintro e w6 ⟨v6, rfl, ho6, hb6⟩; obtain ⟨a6, cap6, rfl⟩ := own_slice ho6; have G6 := Lib.hid ho6; have LG := Lib.hid ho6.lt; have T6 := Lib.hid (T5.out.trans (hb6.mono T5.out.size)); have W6 := Lib.hid (owns_below W5.out hb6); have P6 := Lib.hid (owns_below P5.out hb6); have Q6 := Lib.hid (owns_below Q5.out hb6))
        | (go_at_call 7; have hx_ := T4; clear hx_; refine (toInts_any _ _ _ _ _ HM.out h2 (HJ.out.below rfl T4.out)).mono ?_; rintro e w5 ⟨rfl, ho, hb5⟩; have Q5 := Lib.hid ho; have LQ := Lib.hid ho.lt; have T5 := Lib.hid (T4.out.trans (hb5.mono T4.out.size)); have W5 := Lib.hid (owns_below W4.out hb5); have P5 := Lib.hid (owns_below P4.out hb5); clear ho)
        | (go_at_call 7; have hx_ := T3; clear hx_; refine (toInts_any _ _ _ _ _ HN.out h1 (HI.out.below rfl T3.out)).mono ?_; rintro e w4 ⟨rfl, ho, hb4⟩; have P4 := Lib.hid ho; have LP := Lib.hid ho.lt; have T4 := Lib.hid (T3.out.trans (hb4.mono T3.out.size)); have W4 := Lib.hid (owns_below W3.out hb4); clear ho)
        | (go_at_call 6; have hx_ := T2; clear hx_; refine (sAddC _ _ _ p q _ _ _ _ HN.out hm HM.out hm2 (ints_own (by rw [← HN.out]; exact X2.out)) (ints_own (by rw [← HM.out]; exact Y2.out))).mono ?_; rintro e w3 ⟨v3, rfl, ho3, hb3⟩; obtain ⟨a3, cap3, rfl⟩ := own_slice ho3; have W3 := Lib.hid ho3; have T3 := Lib.hid (T2.out.trans (hb3.mono T2.out.size)); have L3 := Lib.hid ho3.lt)
        | (go_at_call 7; have hx_ := T1; clear hx_; refine (toInts_any _ _ _ _ _ HM.out h2 (HJ.out.below rfl T1.out)).mono ?_; rintro e w2 ⟨rfl, ho, hb2⟩; have Y2 := Lib.hid ho; have X2 := Lib.hid (owns_below X1.out hb2); have T2 := Lib.hid (T1.out.trans (hb2.mono T1.out.size)); clear ho)
        | (go_at_call 7; refine (toInts_any _ _ _ _ _ HN.out h1 HI.out).mono ?_; rintro e w1 ⟨rfl, ho, hb1⟩; have X1 := Lib.hid ho; have T1 := Lib.hid hb1; clear ho))
      have hs34 := Lib.hid (show w3.heap.size ≤ w4.heap.size from Nat.le_of_lt (LP.out _ rfl).2)
      have hs45 := Lib.hid (show w4.heap.size ≤ w5.heap.size from Nat.le_of_lt (LQ.out _ rfl).2)
      go_upto_region 15 with (first
        | (go_at_call 9; have hx_ := T10; clear hx_; refine (eqInts_same _ _ _ q _ _ _ HM.out h2 (ints_own (by rw [← HM.out]; exact Q10.out)) (ints_own (by rw [← HM.out]; exact Z10.out))).mono ?_; rintro e w11 ⟨rfl, hb11⟩; have T11 := Lib.hid (T10.out.trans (hb11.mono T10.out.size)); have W11 := Lib.hid (owns_below W10.out hb11); have P11 := Lib.hid (owns_below P10.out hb11); have Q11 := Lib.hid (owns_below Q10.out hb11); have G11 := Lib.hid (owns_below G10.out hb11))
        | (go_at_call 7; have hx_ := T9; clear hx_; refine (toInts_any _ _ _ _ _ HM.out h2 (HJ.out.below rfl T9.out)).mono ?_; rintro e w10 ⟨rfl, ho, hb10⟩; have Z10 := Lib.hid ho; have T10 := Lib.hid (T9.out.trans (hb10.mono T9.out.size)); have W10 := Lib.hid (owns_below W9.out hb10); have P10 := Lib.hid (owns_below P9.out hb10); have Q10 := Lib.hid (owns_below Q9.out hb10); have G10 := Lib.hid (owns_below G9.out hb10); clear ho)
        | (go_at_call 9; have hx_ := T8; clear hx_; refine (eqInts_same _ _ _ p _ _ _ HN.out h1 (ints_own (by rw [← HN.out]; exact P8.out)) (ints_own (by rw [← HN.out]; exact Z8.out))).mono ?_; rintro e w9 ⟨rfl, hb9⟩; have T9 := Lib.hid (T8.out.trans (hb9.mono T8.out.size)); have W9 := Lib.hid (owns_below W8.out hb9); have P9 := Lib.hid (owns_below P8.out hb9); have Q9 := Lib.hid (owns_below Q8.out hb9); have G9 := Lib.hid (owns_below G8.out hb9))
        | (go_at_call 7; have hx_ := T7; clear hx_; refine (toInts_any _ _ _ _ _ HN.out h1 (HI.out.below rfl T7.out)).mono ?_; rintro e w8 ⟨rfl, ho, hb8⟩; have Z8 := Lib.hid ho; have T8 := Lib.hid (T7.out.trans (hb8.mono T7.out.size)); have W8 := Lib.hid (owns_below W7.out hb8); have P8 := Lib.hid (owns_below P7.out hb8); have Q8 := Lib.hid (owns_below Q7.out hb8); have G8 := Lib.hid (owns_below G7.out hb8); clear ho)
        | (go_at_call 9; have hx_ := T6; clear hx_; refine (eqInts_same _ _ _ (addC p q) _ _ _ rfl hpl (own_ints G6.out) (own_ints W6.out)).mono ?_; rintro e w7 ⟨rfl, hb7⟩; have T7 := Lib.hid (T6.out.trans (hb7.mono T6.out.size)); have W7 := Lib.hid (owns_below W6.out hb7); have P7 := Lib.hid (owns_below P6.out hb7); have Q7 := Lib.hid (owns_below Q6.out hb7); have G7 := Lib.hid (owns_below G6.out hb7)))
      go_wp2_with (first
        | (go_at_call 11; have hx_ := T20; clear hx_; refine (heldInts_any _ _ _ _ _ 1 rfl hpl (by decide) (own_ints (l := upI 1 (addC p q).length) (by rw [upI_len]; exact G20.out))).mono ?_; rintro e w21 ⟨rfl, hb21⟩; have T21 := Lib.hid (T20.out.trans (hb21.mono T20.out.size)))
        | (go_at_call 9; have hx_ := T19; clear hx_; refine (eqInts_same _ _ _ (addC p q) _ _ _ rfl hpl (own_ints H19.out) (own_ints W19.out)).mono ?_; rintro e w20 ⟨rfl, hb20⟩; have T20 := Lib.hid (T19.out.trans (hb20.mono T19.out.size)); have G20 := Lib.hid (owns_below G19.out hb20))
        | (go_at_call 8; have hx_ := T18; clear hx_; refine (iAddC _ _ _ p q _ _ _ _ HN.out hm HM.out hm2 (ints_own (by rw [← HN.out]; exact X18.out)) (ints_own (by rw [← HM.out]; exact Y18.out))).mono ?_; rintro e w19 ⟨v19, rfl, ho19, hb19⟩; obtain ⟨a19, cap19, rfl⟩ := own_slice ho19; have H19 := Lib.hid ho19; have T19 := Lib.hid (T18.out.trans (hb19.mono T18.out.size)); have W19 := Lib.hid (owns_below W18.out hb19); have G19 := Lib.hid (owns_below G18.out hb19))
        | (go_at_call 7; have hx_ := T17; clear hx_; refine (toInts_any _ _ _ _ _ HM.out h2 (HJ.out.below rfl T17.out)).mono ?_; rintro e w18 ⟨rfl, ho, hb18⟩; have Y18 := Lib.hid ho; have X18 := Lib.hid (owns_below X17.out hb18); have T18 := Lib.hid (T17.out.trans (hb18.mono T17.out.size)); have W18 := Lib.hid (owns_below W17.out hb18); have G18 := Lib.hid (owns_below G17.out hb18); clear ho)
        | (go_at_call 7; have hx_ := T16; clear hx_; refine (toInts_any _ _ _ _ _ HN.out h1 (HI.out.below rfl T16.out)).mono ?_; rintro e w17 ⟨rfl, ho, hb17⟩; have X17 := Lib.hid ho; have T17 := Lib.hid (T16.out.trans (hb17.mono T16.out.size)); have W17 := Lib.hid (owns_below W16.out hb17); have G17 := Lib.hid (owns_below G16.out hb17); clear ho)
        | (go_at_call 11; have hx_ := T15; clear hx_; refine (heldInts_any _ _ _ _ _ 1 rfl hpl (by decide) (own_ints (l := upI 1 (addC p q).length) (by rw [upI_len]; exact G15.out))).mono ?_; rintro e w16 ⟨rfl, hb16⟩; have T16 := Lib.hid (T15.out.trans (hb16.mono T15.out.size)); have W16 := Lib.hid (owns_below W15.out hb16); have G16 := Lib.hid (owns_below G15.out hb16))
        | (go_at_call 10; have hx_ := T14; clear hx_; refine (markRow_wide _ _ _ (addC p q) _ _ _ 1 rfl rfl hpl (by decide) G14.out).mono ?_; rintro e w15 ⟨rfl, ho15, hg15⟩; have NW3 := Lib.hid (ne_blocks (N := w3.heap.size) (fun k hk => (L3.out k hk).2) (fun k hk => Nat.le_trans hs34.out (Nat.le_trans hs45.out (LG.out k hk).1))); have W15 := Lib.hid (W14.out.kept hg15 NW3.out); have G15 := Lib.hid ho15; have T15 := Lib.hid (T14.out.grown hg15 T14.out.size (fun k hk => Nat.le_trans T5.out.size (LG.out k hk).1)))
        | (go_at_call 9; have hx_ := T13; clear hx_; refine (eqInts_same _ _ _ (addC p q) _ _ _ rfl hpl (own_ints G13.out) (own_ints W13.out)).mono ?_; rintro e w14 ⟨rfl, hb14⟩; have T14 := Lib.hid (T13.out.trans (hb14.mono T13.out.size)); have W14 := Lib.hid (owns_below W13.out hb14); have G14 := Lib.hid (owns_below G13.out hb14))
        | (go_at_call 10; have hx_ := T12; clear hx_; refine (markRow_wide _ _ _ q _ _ _ (1 + n) (by simp) HM.out h2 (by omega) Q12.out).mono ?_; rintro e w13 ⟨rfl, ho13, hg13⟩; have NW2 := Lib.hid (ne_blocks (y := some w4.heap.size) (N := w3.heap.size) (fun k hk => (L3.out k hk).2) (fun k hk => by cases hk; exact hs34.out)); have NG2 := Lib.hid (ne_blocks' (y := some w4.heap.size) (N := w5.heap.size) (fun k hk => (LG.out k hk).1) (fun k hk => by cases hk; exact (LQ.out w4.heap.size rfl).2)); have W13 := Lib.hid (W12.out.kept hg13 NW2.out); have G13 := Lib.hid (G12.out.kept hg13 NG2.out); have T13 := Lib.hid (T12.out.grown hg13 T12.out.size (fun k hk => by cases hk; exact T4.out.size)); clear ho13)
        | (go_at_call 10; have hx_ := T11; clear hx_; refine (markRow_wide _ _ _ p _ _ _ 1 rfl HN.out h1 (by decide) P11.out).mono ?_; rintro e w12 ⟨rfl, ho12, hg12⟩; have NW := Lib.hid (ne_blocks (y := some w3.heap.size) (N := w3.heap.size) (fun k hk => (L3.out k hk).2) (fun k hk => by cases hk; exact Nat.le_refl _)); have NG := Lib.hid (ne_blocks' (y := some w3.heap.size) (N := w4.heap.size) (fun k hk => Nat.le_trans hs45.out (LG.out k hk).1) (fun k hk => by cases hk; exact (LP.out w3.heap.size rfl).2)); have W12 := Lib.hid (W11.out.kept hg12 NW.out); have G12 := Lib.hid (G11.out.kept hg12 NG.out); have Q12 := Lib.hid (Q11.out.kept hg12 (.inr (fun e => by have h := (LP.out w3.heap.size rfl).2; simp [Value.ownBlock] at e; omega))); have T12 := Lib.hid (T11.out.grown hg12 T11.out.size (fun k hk => by cases hk; exact T3.out.size)); clear ho12))
      go_ret
      exact ⟨rfl, T21.out⟩
    · have g2 : (m : Int) > 1048576 := by omega
      go_enter Try.func3, Try.ntmps3
      go_wp2
      go_ret
      exact ⟨rfl, Below.refl _ _⟩
  · have g1 : (n : Int) > 1048576 := by omega
    go_enter Try.func3, Try.ntmps3
    go_wp2
    go_ret
    exact ⟨rfl, Below.refl _ _⟩
theorem len_mulC (p q : List Int) : (mulC p q).length ≤ 1048576 := by
  unfold mulC
  split
  · next h =>
    have hp : cntB p = true := by unfold addB at h; exact (Bool.and_eq_true_iff.1 h).1
    have := (cntB_yes hp).2.2
    rw [rowZ_len]
    omega
  · simp
set_option maxHeartbeats 4000000 in
theorem walkMultiplyCounts (w : World) (a : Option Addr) (p : List Int) (n ca : Nat) (b : Option Addr) (q : List Int) (m cb : Nat) (hn : n = p.length) (hm : n ≤ 9223372036854775807) (hi : Ints w a p) (hn2 : m = q.length) (hm2 : m ≤ 9223372036854775807) (hj : Ints w b q) :
    Calls Try.prog 4 #[.slice a n ca, .slice b m cb] w fun e w' => e = .returned (.bool true) ∧ Below w.heap.size w w' := by
  have HI := Lib.hid hi
  have HN := Lib.hid hn
  have HJ := Lib.hid hj
  have HM := Lib.hid hn2
  have hpl := len_mulC p q
  clear hi hn hj hn2
  by_cases h1 : n ≤ 1048576
  · have g1 : ¬ ((n : Int) > 1048576) := by omega
    by_cases h2 : m ≤ 1048576
    · have g2 : ¬ ((m : Int) > 1048576) := by omega
      go_enter Try.func4, Try.ntmps4
      go_upto_region 9 with (first
        | (go_at_call 13; have hx_ := T5; clear hx_; refine (iMulC _ _ _ p q _ _ _ _ HN.out hm HM.out hm2 (ints_own (by rw [← HN.out]; exact P5.out)) (ints_own (by rw [← HM.out]; exact Q5.out))).mono ?_; rintro e w6 ⟨v6, rfl, ho6, hb6⟩; obtain ⟨a6, cap6, rfl⟩ := own_slice ho6; have G6 := Lib.hid ho6; have LG := Lib.hid ho6.lt; have T6 := Lib.hid (T5.out.trans (hb6.mono T5.out.size)); have W6 := Lib.hid (owns_below W5.out hb6); have P6 := Lib.hid (owns_below P5.out hb6); have Q6 := Lib.hid (owns_below Q5.out hb6))
        | (go_at_call 7; have hx_ := T4; clear hx_; refine (toInts_any _ _ _ _ _ HM.out h2 (HJ.out.below rfl T4.out)).mono ?_; rintro e w5 ⟨rfl, ho, hb5⟩; have Q5 := Lib.hid ho; have LQ := Lib.hid ho.lt; have T5 := Lib.hid (T4.out.trans (hb5.mono T4.out.size)); have W5 := Lib.hid (owns_below W4.out hb5); have P5 := Lib.hid (owns_below P4.out hb5); clear ho)
        | (go_at_call 7; have hx_ := T3; clear hx_; refine (toInts_any _ _ _ _ _ HN.out h1 (HI.out.below rfl T3.out)).mono ?_; rintro e w4 ⟨rfl, ho, hb4⟩; have P4 := Lib.hid ho; have LP := Lib.hid ho.lt; have T4 := Lib.hid (T3.out.trans (hb4.mono T3.out.size)); have W4 := Lib.hid (owns_below W3.out hb4); clear ho)
        | (go_at_call 12; have hx_ := T2; clear hx_; refine (sMulC _ _ _ p q _ _ _ _ HN.out hm HM.out hm2 (ints_own (by rw [← HN.out]; exact X2.out)) (ints_own (by rw [← HM.out]; exact Y2.out))).mono ?_; rintro e w3 ⟨v3, rfl, ho3, hb3⟩; obtain ⟨a3, cap3, rfl⟩ := own_slice ho3; have W3 := Lib.hid ho3; have T3 := Lib.hid (T2.out.trans (hb3.mono T2.out.size)); have L3 := Lib.hid ho3.lt)
        | (go_at_call 7; have hx_ := T1; clear hx_; refine (toInts_any _ _ _ _ _ HM.out h2 (HJ.out.below rfl T1.out)).mono ?_; rintro e w2 ⟨rfl, ho, hb2⟩; have Y2 := Lib.hid ho; have X2 := Lib.hid (owns_below X1.out hb2); have T2 := Lib.hid (T1.out.trans (hb2.mono T1.out.size)); clear ho)
        | (go_at_call 7; refine (toInts_any _ _ _ _ _ HN.out h1 HI.out).mono ?_; rintro e w1 ⟨rfl, ho, hb1⟩; have X1 := Lib.hid ho; have T1 := Lib.hid hb1; clear ho))
      have hs34 := Lib.hid (show w3.heap.size ≤ w4.heap.size from Nat.le_of_lt (LP.out _ rfl).2)
      have hs45 := Lib.hid (show w4.heap.size ≤ w5.heap.size from Nat.le_of_lt (LQ.out _ rfl).2)
      go_upto_region 15 with (first
        | (go_at_call 9; have hx_ := T10; clear hx_; refine (eqInts_same _ _ _ q _ _ _ HM.out h2 (ints_own (by rw [← HM.out]; exact Q10.out)) (ints_own (by rw [← HM.out]; exact Z10.out))).mono ?_; rintro e w11 ⟨rfl, hb11⟩; have T11 := Lib.hid (T10.out.trans (hb11.mono T10.out.size)); have W11 := Lib.hid (owns_below W10.out hb11); have P11 := Lib.hid (owns_below P10.out hb11); have Q11 := Lib.hid (owns_below Q10.out hb11); have G11 := Lib.hid (owns_below G10.out hb11))
        | (go_at_call 7; have hx_ := T9; clear hx_; refine (toInts_any _ _ _ _ _ HM.out h2 (HJ.out.below rfl T9.out)).mono ?_; rintro e w10 ⟨rfl, ho, hb10⟩; have Z10 := Lib.hid ho; have T10 := Lib.hid (T9.out.trans (hb10.mono T9.out.size)); have W10 := Lib.hid (owns_below W9.out hb10); have P10 := Lib.hid (owns_below P9.out hb10); have Q10 := Lib.hid (owns_below Q9.out hb10); have G10 := Lib.hid (owns_below G9.out hb10); clear ho)
        | (go_at_call 9; have hx_ := T8; clear hx_; refine (eqInts_same _ _ _ p _ _ _ HN.out h1 (ints_own (by rw [← HN.out]; exact P8.out)) (ints_own (by rw [← HN.out]; exact Z8.out))).mono ?_; rintro e w9 ⟨rfl, hb9⟩; have T9 := Lib.hid (T8.out.trans (hb9.mono T8.out.size)); have W9 := Lib.hid (owns_below W8.out hb9); have P9 := Lib.hid (owns_below P8.out hb9); have Q9 := Lib.hid (owns_below Q8.out hb9); have G9 := Lib.hid (owns_below G8.out hb9))
        | (go_at_call 7; have hx_ := T7; clear hx_; refine (toInts_any _ _ _ _ _ HN.out h1 (HI.out.below rfl T7.out)).mono ?_; rintro e w8 ⟨rfl, ho, hb8⟩; have Z8 := Lib.hid ho; have T8 := Lib.hid (T7.out.trans (hb8.mono T7.out.size)); have W8 := Lib.hid (owns_below W7.out hb8); have P8 := Lib.hid (owns_below P7.out hb8); have Q8 := Lib.hid (owns_below Q7.out hb8); have G8 := Lib.hid (owns_below G7.out hb8); clear ho)
        | (go_at_call 9; have hx_ := T6; clear hx_; refine (eqInts_same _ _ _ (mulC p q) _ _ _ rfl hpl (own_ints G6.out) (own_ints W6.out)).mono ?_; rintro e w7 ⟨rfl, hb7⟩; have T7 := Lib.hid (T6.out.trans (hb7.mono T6.out.size)); have W7 := Lib.hid (owns_below W6.out hb7); have P7 := Lib.hid (owns_below P6.out hb7); have Q7 := Lib.hid (owns_below Q6.out hb7); have G7 := Lib.hid (owns_below G6.out hb7)))
      go_wp2_with (first
        | (go_at_call 11; have hx_ := T20; clear hx_; refine (heldInts_any _ _ _ _ _ 1 rfl hpl (by decide) (own_ints (l := upI 1 (mulC p q).length) (by rw [upI_len]; exact G20.out))).mono ?_; rintro e w21 ⟨rfl, hb21⟩; have T21 := Lib.hid (T20.out.trans (hb21.mono T20.out.size)))
        | (go_at_call 9; have hx_ := T19; clear hx_; refine (eqInts_same _ _ _ (mulC p q) _ _ _ rfl hpl (own_ints H19.out) (own_ints W19.out)).mono ?_; rintro e w20 ⟨rfl, hb20⟩; have T20 := Lib.hid (T19.out.trans (hb20.mono T19.out.size)); have G20 := Lib.hid (owns_below G19.out hb20))
        | (go_at_call 13; have hx_ := T18; clear hx_; refine (iMulC _ _ _ p q _ _ _ _ HN.out hm HM.out hm2 (ints_own (by rw [← HN.out]; exact X18.out)) (ints_own (by rw [← HM.out]; exact Y18.out))).mono ?_; rintro e w19 ⟨v19, rfl, ho19, hb19⟩; obtain ⟨a19, cap19, rfl⟩ := own_slice ho19; have H19 := Lib.hid ho19; have T19 := Lib.hid (T18.out.trans (hb19.mono T18.out.size)); have W19 := Lib.hid (owns_below W18.out hb19); have G19 := Lib.hid (owns_below G18.out hb19))
        | (go_at_call 7; have hx_ := T17; clear hx_; refine (toInts_any _ _ _ _ _ HM.out h2 (HJ.out.below rfl T17.out)).mono ?_; rintro e w18 ⟨rfl, ho, hb18⟩; have Y18 := Lib.hid ho; have X18 := Lib.hid (owns_below X17.out hb18); have T18 := Lib.hid (T17.out.trans (hb18.mono T17.out.size)); have W18 := Lib.hid (owns_below W17.out hb18); have G18 := Lib.hid (owns_below G17.out hb18); clear ho)
        | (go_at_call 7; have hx_ := T16; clear hx_; refine (toInts_any _ _ _ _ _ HN.out h1 (HI.out.below rfl T16.out)).mono ?_; rintro e w17 ⟨rfl, ho, hb17⟩; have X17 := Lib.hid ho; have T17 := Lib.hid (T16.out.trans (hb17.mono T16.out.size)); have W17 := Lib.hid (owns_below W16.out hb17); have G17 := Lib.hid (owns_below G16.out hb17); clear ho)
        | (go_at_call 11; have hx_ := T15; clear hx_; refine (heldInts_any _ _ _ _ _ 1 rfl hpl (by decide) (own_ints (l := upI 1 (mulC p q).length) (by rw [upI_len]; exact G15.out))).mono ?_; rintro e w16 ⟨rfl, hb16⟩; have T16 := Lib.hid (T15.out.trans (hb16.mono T15.out.size)); have W16 := Lib.hid (owns_below W15.out hb16); have G16 := Lib.hid (owns_below G15.out hb16))
        | (go_at_call 10; have hx_ := T14; clear hx_; refine (markRow_wide _ _ _ (mulC p q) _ _ _ 1 rfl rfl hpl (by decide) G14.out).mono ?_; rintro e w15 ⟨rfl, ho15, hg15⟩; have NW3 := Lib.hid (ne_blocks (N := w3.heap.size) (fun k hk => (L3.out k hk).2) (fun k hk => Nat.le_trans hs34.out (Nat.le_trans hs45.out (LG.out k hk).1))); have W15 := Lib.hid (W14.out.kept hg15 NW3.out); have G15 := Lib.hid ho15; have T15 := Lib.hid (T14.out.grown hg15 T14.out.size (fun k hk => Nat.le_trans T5.out.size (LG.out k hk).1)))
        | (go_at_call 9; have hx_ := T13; clear hx_; refine (eqInts_same _ _ _ (mulC p q) _ _ _ rfl hpl (own_ints G13.out) (own_ints W13.out)).mono ?_; rintro e w14 ⟨rfl, hb14⟩; have T14 := Lib.hid (T13.out.trans (hb14.mono T13.out.size)); have W14 := Lib.hid (owns_below W13.out hb14); have G14 := Lib.hid (owns_below G13.out hb14))
        | (go_at_call 10; have hx_ := T12; clear hx_; refine (markRow_wide _ _ _ q _ _ _ (1 + n) (by simp) HM.out h2 (by omega) Q12.out).mono ?_; rintro e w13 ⟨rfl, ho13, hg13⟩; have NW2 := Lib.hid (ne_blocks (y := some w4.heap.size) (N := w3.heap.size) (fun k hk => (L3.out k hk).2) (fun k hk => by cases hk; exact hs34.out)); have NG2 := Lib.hid (ne_blocks' (y := some w4.heap.size) (N := w5.heap.size) (fun k hk => (LG.out k hk).1) (fun k hk => by cases hk; exact (LQ.out w4.heap.size rfl).2)); have W13 := Lib.hid (W12.out.kept hg13 NW2.out); have G13 := Lib.hid (G12.out.kept hg13 NG2.out); have T13 := Lib.hid (T12.out.grown hg13 T12.out.size (fun k hk => by cases hk; exact T4.out.size)); clear ho13)
        | (go_at_call 10; have hx_ := T11; clear hx_; refine (markRow_wide _ _ _ p _ _ _ 1 rfl HN.out h1 (by decide) P11.out).mono ?_; rintro e w12 ⟨rfl, ho12, hg12⟩; have NW := Lib.hid (ne_blocks (y := some w3.heap.size) (N := w3.heap.size) (fun k hk => (L3.out k hk).2) (fun k hk => by cases hk; exact Nat.le_refl _)); have NG := Lib.hid (ne_blocks' (y := some w3.heap.size) (N := w4.heap.size) (fun k hk => Nat.le_trans hs45.out (LG.out k hk).1) (fun k hk => by cases hk; exact (LP.out w3.heap.size rfl).2)); have W12 := Lib.hid (W11.out.kept hg12 NW.out); have G12 := Lib.hid (G11.out.kept hg12 NG.out); have Q12 := Lib.hid (Q11.out.kept hg12 (.inr (fun e => by have h := (LP.out w3.heap.size rfl).2; simp [Value.ownBlock] at e; omega))); have T12 := Lib.hid (T11.out.grown hg12 T11.out.size (fun k hk => by cases hk; exact T3.out.size)); clear ho12))
      go_ret
      exact ⟨rfl, T21.out⟩
    · have g2 : (m : Int) > 1048576 := by omega
      go_enter Try.func4, Try.ntmps4
      go_wp2
      go_ret
      exact ⟨rfl, Below.refl _ _⟩
  · have g1 : (n : Int) > 1048576 := by omega
    go_enter Try.func4, Try.ntmps4
    go_wp2
    go_ret
    exact ⟨rfl, Below.refl _ _⟩
end Go.Proofs.Ythlpjiibjlaebaa
