/- The walk of the law on ConvolveTables: at every group and two lists it answers true. -/
import Derived.Test.YthlpjiibjlaebaaConI
import Derived.Test.YthlpjiibjlaebaaMark
import Derived.Deep.RegionHeld3
import Derived.Deep.DeepCutAuto
namespace Go.Proofs.Ythlpjiibjlaebaa
open Go.RowKit
theorem markInts_far (w : World) (B g : Nat) (l : List Int) (n cap : Nat) (k : Int) (kn : Nat) (hk : k = (kn : Int)) (hn : n = l.length) (hl : n ≤ 1048576) (hkn : kn ≤ 4194304)
    (ho : w.ownsRow B 3 1 (.slice (some ⟨g, 0, none⟩) n cap) n (l.map (Value.int .i64))) :
    Calls Try.prog 10 #[.slice (some ⟨g, 0, none⟩) n cap, .int .i64 k] w fun e w' => e = .returned (.int .i64 ((kn + n : Nat) : Int)) ∧ w'.ownsRow B 3 1 (.slice (some ⟨g, 0, none⟩) n cap) n ((upI kn n).map (Value.int .i64)) ∧ w.grownBy w' (some g) := by
  subst hk
  have hrow : w.ownsRow B 3 1 (.slice (some ⟨g, 0, none⟩) n cap) n (mixI kn l 0) := by simpa [mixI, upI] using ho
  have HN := Lib.hid hn
  clear hn ho
  go_enter Try.func10, Try.ntmps10
  go_wp2
  go_loopw [1, 5] (fun k i wr => ∃ j : Nat, j ≤ n ∧ i = .int .i64 j ∧ k = .int .i64 ((kn + j : Nat) : Int) ∧ wr.ownsRow B 3 1 (.slice (some ⟨g, 0, none⟩) n cap) n (mixI kn l j) ∧ w.grownBy wr (some g)) (fun _ i _ => n - (intOf i).toNat)
  case atStart => exact ⟨0, Nat.zero_le _, rfl, rfl, hrow, World.grownBy.refl _ _⟩
  case round =>
    obtain ⟨j, hj, rfl, rfl, hr, hg⟩ := hrel
    by_cases hlt : j < n
    · have hjl : j < l.length := by rw [← HN.out]; exact hlt
      have hfr := hr.frozenAt j
      have hcell := hr.cellAt j (by omega)
      have hcv : ∃ v, (mixI kn l j)[j]? = some v := ⟨_, List.getElem?_eq_getElem (by simp [mixI, upI_len]; omega)⟩
      obtain ⟨v, hv⟩ := hcv
      rw [hv] at hcell
      have hst := (hr.stored j (.int .i64 ((kn + j : Nat) : Int))).1
      rw [mixI_set _ _ _ hjl] at hst
      have HST := Lib.hid hst
      have HG := Lib.hid (grownG_set hg j (.int .i64 ((kn + j : Nat) : Int)))
      clear hst hv hjl hr hg
      go_wp2
      go_roundw
      case rel => exact ⟨j + 1, by omega, by go_num, by go_num, HST.out, HG.out⟩
      case measure => simp [intOf]; omega
    · obtain rfl : j = n := by omega
      have HR := Lib.hid hr
      have hfull : mixI kn l j = (upI kn j).map (Value.int .i64) := by rw [HN.out]; simp [mixI]
      rw [hfull] at hr
      go_wp2
      go_ret
      exact ⟨rfl, hr, hg⟩
theorem markRow_far (w : World) (B : Nat) (a : Option Addr) (l : List Int) (n cap : Nat) (k : Int) (kn : Nat) (hk : k = (kn : Int)) (hn : n = l.length) (hl : n ≤ 1048576) (hkn : kn ≤ 4194304)
    (ho : w.ownsRow B 3 1 (.slice a n cap) n (l.map (Value.int .i64))) :
    Calls Try.prog 10 #[.slice a n cap, .int .i64 k] w fun e w' => e = .returned (.int .i64 ((kn + n : Nat) : Int)) ∧ w'.ownsRow B 3 1 (.slice a n cap) n ((upI kn n).map (Value.int .i64)) ∧ w.grownBy w' (Value.slice a n cap).ownBlock := by
  obtain ⟨h1, h2⟩ := ho
  rcases h2 with ⟨h2, h3⟩ | ⟨g, cap', cur, hv, hb, hg, h4, h5, h6, h7⟩
  · cases h2
    subst hk
    clear h1 h3 hn hl
    go_enter Try.func10, Try.ntmps10
    go_wp2
    refine wp_loop_rounds 1 ?_
    rw [rounds_succ]; go_wp2
    go_ret
    exact ⟨rfl, World.ownsRow_nil _ _ _ _, World.grownBy.refl _ _⟩
  · cases hv
    exact markInts_far w B g l n cap k kn hk hn hl hkn ⟨h1, .inr ⟨g, cap, cur, rfl, hb, hg, h4, h5, h6, h7⟩⟩
set_option maxHeartbeats 8000000 in
theorem walkConvolveTables (w : World) (a : Option Addr) (l : List Int) (n cap : Nat) (b : Option Addr) (p : List Int) (m cb : Nat) (c : Option Addr) (q : List Int) (o cc : Nat) (hn : n = l.length) (hm : n ≤ 9223372036854775807) (hi : Ints w a l) (hn2 : m = p.length) (hm2 : m ≤ 9223372036854775807) (hj : Ints w b p) (hn3 : o = q.length) (hm3 : o ≤ 9223372036854775807) (hk : Ints w c q) :
    Calls Try.prog 5 #[.agg #[.slice a n cap], .slice b m cb, .slice c o cc] w fun e w' => e = .returned (.bool true) ∧ Below w.heap.size w w' := by
  have HI := Lib.hid (ints_alloc hi (.cells #[.slice a n cap] 28))
  have HJ := Lib.hid (ints_alloc hj (.cells #[.slice a n cap] 28))
  have HK := Lib.hid (ints_alloc hk (.cells #[.slice a n cap] 28))
  have HN := Lib.hid hn
  have HP := Lib.hid hn2
  have HQ := Lib.hid hn3
  have C1 := newC w (.slice a n cap) 28 (n := w.heap.size) rfl
  have HB := Lib.hid (Joins.below_alloc1 w (.cells #[.slice a n cap] 28))
  have T0 := Lib.hid (Below.refl (w.alloc (.cells #[.slice a n cap] 28)).heap.size (w.alloc (.cells #[.slice a n cap] 28)))
  have hpl : (cvE l p q).length ≤ 1048576 := Nat.le_trans (cvE_len l p q) (by decide)
  clear hi hn hj hn2 hk hn3
  by_cases h1 : m ≤ 1048576
  · have g1 : ¬ ((m : Int) > 1048576) := by omega
    by_cases h2 : o ≤ 1048576
    · have g2 : ¬ ((o : Int) > 1048576) := by omega
      by_cases hbig : n ≤ 1048576
      · have hleft : (n : Int) ≤ 1048576 := by omega
        go_enter Try.func5, Try.ntmps5
        go_upto_region 10 with (first
        | (go_at_call 15; refine (sCnv _ _ _ _ l p q _ _ _ _ _ _ HN.out hm (ints_own (by rw [← HN.out]; exact O4.out)) HP.out hm2 (ints_own (by rw [← HP.out]; exact P4.out)) HQ.out hm3 (ints_own (by rw [← HQ.out]; exact Q4.out))).mono ?_; rintro e w5 ⟨v5, rfl, ho5, hb5⟩; obtain ⟨a5, cap5, rfl⟩ := own_slice ho5; have S5 := Lib.hid ho5; have T5 := Lib.hid (T4.out.trans (hb5.mono T4.out.size)); have c5 := keepC T5.out (by simp <;> omega) C1; have L5 := Lib.hid (ho5.lt))
        | (go_at_call 7; have hx_ := T3; clear hx_; refine (toInts_any _ _ _ _ _ HQ.out h2 (HK.out.below rfl T3.out)).mono ?_; rintro e w4 ⟨rfl, ho4, hb4⟩; have Q4 := Lib.hid ho4; have T4 := Lib.hid (T3.out.trans (hb4.mono T3.out.size)); have O4 := Lib.hid (owns_below O3.out hb4); have P4 := Lib.hid (owns_below P3.out hb4))
        | (go_at_call 7; have hx_ := T2; clear hx_; refine (toInts_any _ _ _ _ _ HP.out h1 (HJ.out.below rfl T2.out)).mono ?_; rintro e w3 ⟨rfl, ho3, hb3⟩; have P3 := Lib.hid ho3; have T3 := Lib.hid (T2.out.trans (hb3.mono T2.out.size)); have O3 := Lib.hid (owns_below O2.out hb3))
        | (go_at_call 16; refine (toGroup_any _ _ _ _ _ HN.out hbig (HI.out.below rfl T1.out)).mono ?_; rintro e w2 ⟨g2, rfl, ho2, hb2⟩; have O2 := Lib.hid ho2; have T2 := Lib.hid (T1.out.trans (hb2.mono T1.out.size)))
        | (go_at_call 14; refine (szGroup_no _ _ _ _ _ (by decide) hleft).mono ?_; rintro e w1 ⟨rfl, hb1⟩; have T1 := Lib.hid (T0.out.trans (hb1.mono T0.out.size)); have c1 := keepC T1.out (by simp <;> omega) C1))
        go_upto_region 16 with (first
        | (go_at_call 9; refine (eqInts_same _ _ _ (cvE l p q) _ _ _ rfl hpl (own_ints R9.out) (own_ints S9.out)).mono ?_; rintro e w10 ⟨rfl, hb10⟩; have T10 := Lib.hid (T9.out.trans (hb10.mono T9.out.size)); have U10 := Lib.hid (U9.out.trans (hb10.mono U9.out.size)); have O10 := Lib.hid (owns_below O9.out hb10); have S10 := Lib.hid (owns_below S9.out hb10); have X10 := Lib.hid (owns_below X9.out hb10); have Y10 := Lib.hid (owns_below Y9.out hb10); have R10 := Lib.hid (owns_below R9.out hb10); have c10 := keepC T10.out (by simp <;> omega) C1; have d10 := keepC U10.out (by simp) D6)
        | (go_at_call 17; refine (iCnv _ _ _ _ l p q _ _ _ _ _ _ HN.out hm (ints_own (by rw [← HN.out]; exact O8.out)) HP.out hm2 (ints_own (by rw [← HP.out]; exact X8.out)) HQ.out hm3 (ints_own (by rw [← HQ.out]; exact Y8.out))).mono ?_; rintro e w9 ⟨v9, rfl, ho9, hb9⟩; obtain ⟨a9, cap9, rfl⟩ := own_slice ho9; have R9 := Lib.hid ho9; have L9 := Lib.hid ho9.lt; have T9 := Lib.hid (T8.out.trans (hb9.mono T8.out.size)); have U9 := Lib.hid (U8.out.trans (hb9.mono U8.out.size)); have O9 := Lib.hid (owns_below O8.out hb9); have S9 := Lib.hid (owns_below S8.out hb9); have X9 := Lib.hid (owns_below X8.out hb9); have Y9 := Lib.hid (owns_below Y8.out hb9); have c9 := keepC T9.out (by simp <;> omega) C1; have d9 := keepC U9.out (by simp) D6)
        | (go_at_call 7; have hx_ := T7; clear hx_; refine (toInts_any _ _ _ _ _ HQ.out h2 (HK.out.below rfl T7.out)).mono ?_; rintro e w8 ⟨rfl, ho8, hb8⟩; have Y8 := Lib.hid ho8; have LY := Lib.hid ho8.lt; have T8 := Lib.hid (T7.out.trans (hb8.mono T7.out.size)); have U8 := Lib.hid (U7.out.trans (hb8.mono U7.out.size)); have O8 := Lib.hid (owns_below O7.out hb8); have S8 := Lib.hid (owns_below S7.out hb8); have X8 := Lib.hid (owns_below X7.out hb8); have c8 := keepC T8.out (by simp <;> omega) C1; have d8 := keepC U8.out (by simp) D6; have hs8 := hb8.size)
        | (go_at_call 7; have hx_ := T6; clear hx_; refine (toInts_any _ _ _ _ _ HP.out h1 (HJ.out.below rfl T6.out)).mono ?_; rintro e w7 ⟨rfl, ho7, hb7⟩; have X7 : Hid (w7.ownsRow (w6.heap.size + 1) 3 1 (.slice (some ⟨w6.heap.size + 1, 0, none⟩) m m) m (p.map (Value.int .i64))) := Lib.hid (by simpa using ho7); have LX := Lib.hid X7.out.lt; have T7 := Lib.hid (T6.out.trans (hb7.mono T6.out.size)); have U7 := Lib.hid (U6.out.trans (hb7.mono U6.out.size)); have O7 := Lib.hid (owns_below O6.out hb7); have S7 := Lib.hid (owns_below S6.out hb7); have c7 := keepC T7.out (by simp <;> omega) C1; have d7 := keepC U7.out (by simp) D6; have hs7 : w6.heap.size + 1 ≤ w7.heap.size := by simpa using hb7.size)
        | (go_at_call 16; refine (toGroup_any _ _ _ _ _ HN.out hbig (HI.out.below rfl T5.out)).mono ?_; rintro e w6 ⟨g6, rfl, ho6, hb6⟩; have T6 := Lib.hid ((T5.out.trans (hb6.mono T5.out.size)).alloc (Nat.le_trans T5.out.size hb6.size) (.cells #[.slice (some ⟨g6, 0, none⟩) n n] 31)); have O6 := Lib.hid (owns_below ho6 (Joins.below_alloc1 w6 (.cells #[.slice (some ⟨g6, 0, none⟩) n n] 31))); have G6 := Lib.hid (ho6.lt g6 rfl); have S6 := Lib.hid (owns_below (owns_below S5.out hb6) (Joins.below_alloc1 w6 (.cells #[.slice (some ⟨g6, 0, none⟩) n n] 31))); have D6 := newC w6 (.slice (some ⟨g6, 0, none⟩) n n) 31 (n := w6.heap.size) rfl; have U6 := Lib.hid (Below.refl (w6.alloc (.cells #[.slice (some ⟨g6, 0, none⟩) n n] 31)).heap.size (w6.alloc (.cells #[.slice (some ⟨g6, 0, none⟩) n n] 31))); have c6 := keepC T6.out (by simp <;> omega) C1))
        have UD := Lib.hid U10.out.drew
        have TD := Lib.hid T10.out.drew
        have OD := Lib.hid O10.out.drew
        have SD := Lib.hid S10.out.drew
        have XD := Lib.hid X10.out.drew
        have YD := Lib.hid Y10.out.drew
        have RD := Lib.hid R10.out.drew
        go_region_held3 (fun W => W.cell? ⟨w.heap.size, 0, none⟩ = some (.slice a n cap) ∧ W.cell? ⟨w6.heap.size, 0, none⟩ = some (.slice (some ⟨g6, 0, none⟩) n n)) (first | exact ⟨c12, d12⟩ | exact ⟨c11, d11⟩ | exact ⟨c10, d10⟩)
          (first
            | (go_at_call 18; refine (eqGroup_same _ _ _ _ _ _ _ HN.out hbig ((ints_own (by rw [← HN.out]; exact OD.out)).below rfl hb11) (ints_own (by rw [← HN.out]; exact Z11.out))).mono ?_; rintro e w12 ⟨rfl, hb12⟩; have T12 := Lib.hid (T11.out.trans (hb12.mono T11.out.size)); have U12 := Lib.hid (U11.out.trans (hb12.mono U11.out.size)); have O12 := Lib.hid (owns_below O11.out hb12); have S12 := Lib.hid (owns_below S11.out hb12); have X12 := Lib.hid (owns_below X11.out hb12); have Y12 := Lib.hid (owns_below Y11.out hb12); have R12 := Lib.hid (owns_below R11.out hb12); have c12 := keepC T12.out (by simp <;> omega) C1; have d12 := keepC U12.out (by simp) D6)
            | (go_at_call 16; refine (toGroup_any _ _ _ _ _ HN.out hbig (HI.out.below rfl TD.out)).mono ?_; rintro e w11 ⟨g11, rfl, ho11, hb11⟩; have Z11 := Lib.hid ho11; have T11 := Lib.hid (TD.out.trans (hb11.mono TD.out.size)); have U11 := Lib.hid (UD.out.trans (hb11.mono UD.out.size)); have O11 := Lib.hid (owns_below OD.out hb11); have S11 := Lib.hid (owns_below SD.out hb11); have X11 := Lib.hid (owns_below XD.out hb11); have Y11 := Lib.hid (owns_below YD.out hb11); have R11 := Lib.hid (owns_below RD.out hb11); have c11 := keepC T11.out (by simp <;> omega) C1; have d11 := keepC U11.out (by simp) D6))
        go_wp2_with (first
        | (go_at_call 11; have hx_ := T27; clear hx_; refine (heldInts_any _ _ _ _ _ 1 rfl hpl (by decide) (own_ints (l := upI 1 (cvE l p q).length) (by rw [upI_len]; exact R27.out))).mono ?_; rintro e w28 ⟨rfl, hb28⟩; have T28 := Lib.hid (T27.out.trans (hb28.mono T27.out.size)))
        | (go_at_call 9; have hx_ := T26; clear hx_; refine (eqInts_same _ _ _ (cvE l p q) _ _ _ rfl hpl (own_ints V26.out) (own_ints S26.out)).mono ?_; rintro e w27 ⟨rfl, hb27⟩; have T27 := Lib.hid (T26.out.trans (hb27.mono T26.out.size)); have R27 := Lib.hid (owns_below R26.out hb27))
        | (go_at_call 17; refine (iCnv _ _ _ _ l p q _ _ _ _ _ _ HN.out hm (ints_own (by rw [← HN.out]; exact O25.out)) HP.out hm2 (ints_own (by rw [← HP.out]; exact P25.out)) HQ.out hm3 (ints_own (by rw [← HQ.out]; exact Q25.out))).mono ?_; rintro e w26 ⟨v26, rfl, ho26, hb26⟩; obtain ⟨a26, cap26, rfl⟩ := own_slice ho26; have V26 := Lib.hid ho26; have T26 := Lib.hid (T25.out.trans (hb26.mono T25.out.size)); have S26 := Lib.hid (owns_below S25.out hb26); have R26 := Lib.hid (owns_below R25.out hb26))
        | (go_at_call 7; have hx_ := T24; clear hx_; refine (toInts_any _ _ _ _ _ HQ.out h2 (HK.out.below rfl T24.out)).mono ?_; rintro e w25 ⟨rfl, ho25, hb25⟩; have Q25 := Lib.hid ho25; have T25 := Lib.hid (T24.out.trans (hb25.mono T24.out.size)); have S25 := Lib.hid (owns_below S24.out hb25); have R25 := Lib.hid (owns_below R24.out hb25); have O25 := Lib.hid (owns_below O24.out hb25); have P25 := Lib.hid (owns_below P24.out hb25))
        | (go_at_call 7; have hx_ := T23; clear hx_; refine (toInts_any _ _ _ _ _ HP.out h1 (HJ.out.below rfl T23.out)).mono ?_; rintro e w24 ⟨rfl, ho24, hb24⟩; have P24 := Lib.hid ho24; have T24 := Lib.hid (T23.out.trans (hb24.mono T23.out.size)); have S24 := Lib.hid (owns_below S23.out hb24); have R24 := Lib.hid (owns_below R23.out hb24); have O24 := Lib.hid (owns_below O23.out hb24))
        | (go_at_call 16; refine (toGroup_any _ _ _ _ _ HN.out hbig (HI.out.below rfl T22.out)).mono ?_; rintro e w23 ⟨g23, rfl, ho23, hb23⟩; have O23 := Lib.hid ho23; have T23 := Lib.hid (T22.out.trans (hb23.mono T22.out.size)); have S23 := Lib.hid (owns_below S22.out hb23); have R23 := Lib.hid (owns_below R22.out hb23))
        | (go_at_call 11; refine (heldInts_any _ _ _ _ _ 1 rfl hpl (by decide) (own_ints (l := upI 1 (cvE l p q).length) (by rw [upI_len]; exact R21.out))).mono ?_; rintro e w22 ⟨rfl, hb22⟩; have T22 := Lib.hid (T21.out.trans (hb22.mono T21.out.size)); have S22 := Lib.hid (owns_below S21.out hb22); have R22 := Lib.hid (owns_below R21.out hb22); have c22 := keepC T22.out (by simp <;> omega) C1)
        | (go_at_call 10; have hx_ := T20; clear hx_; refine (markRow_far _ _ _ (cvE l p q) _ _ _ 1 rfl rfl hpl (by decide) R20.out).mono ?_; rintro e w21 ⟨rfl, ho21, hg21⟩; have S21 := Lib.hid (S20.out.kept hg21 (ne_blocks (N := w5.heap.size) (fun k hk => (L5.out k hk).2) (fun k hk => Nat.le_trans (Nat.le_trans (Nat.le_trans (Nat.le_trans (Nat.le_of_lt (Nat.lt_of_le_of_lt G6.out.1 G6.out.2)) (Nat.le_succ _)) hs7) hs8) (L9.out k hk).1))); have R21 := Lib.hid ho21; have T21 := Lib.hid (T20.out.grown hg21 T20.out.size (fun k hk => Nat.le_trans T8.out.size (L9.out k hk).1)))
        | (go_at_call 9; have hx_ := T19; clear hx_; refine (eqInts_same _ _ _ (cvE l p q) _ _ _ rfl hpl (own_ints R19.out) (own_ints S19.out)).mono ?_; rintro e w20 ⟨rfl, hb20⟩; have T20 := Lib.hid (T19.out.trans (hb20.mono T19.out.size)); have S20 := Lib.hid (owns_below S19.out hb20); have R20 := Lib.hid (owns_below R19.out hb20))
        | (go_at_call 10; have hx_ := T18; clear hx_; refine (markRow_far _ _ _ q _ _ _ (1 + n + m) (by simp) HQ.out h2 (by omega) Y18.out).mono ?_; rintro e w19 ⟨rfl, ho19, hg19⟩; have S19 := Lib.hid (S18.out.kept hg19 (ne_blocks (N := w5.heap.size) (fun k hk => (L5.out k hk).2) (fun k hk => Nat.le_trans (Nat.le_trans (Nat.le_trans (Nat.le_of_lt (Nat.lt_of_le_of_lt G6.out.1 G6.out.2)) (Nat.le_succ _)) hs7) (LY.out k hk).1))); have R19 := Lib.hid (R18.out.kept hg19 (ne_blocks' (N := w8.heap.size) (fun k hk => (L9.out k hk).1) (fun k hk => (LY.out k hk).2))); have T19 := Lib.hid (T18.out.grown hg19 T18.out.size (fun k hk => Nat.le_trans T7.out.size (LY.out k hk).1)))
        | (go_at_call 10; refine (markRow_far _ _ _ p _ _ _ (1 + n) (by simp) HP.out h1 (by omega) X17.out).mono ?_; rintro e w18 ⟨rfl, ho18, hg18⟩; have S18 := Lib.hid (S17.out.kept hg18 (ne_blocks (N := w5.heap.size) (fun k hk => (L5.out k hk).2) (fun k hk => Nat.le_trans (Nat.le_trans (Nat.le_of_lt (Nat.lt_of_le_of_lt G6.out.1 G6.out.2)) (Nat.le_succ _)) (LX.out k hk).1))); have Y18 := Lib.hid (Y17.out.kept hg18 (ne_blocks' (N := w7.heap.size) (fun k hk => (LY.out k hk).1) (fun k hk => (LX.out k hk).2))); have R18 := Lib.hid (R17.out.kept hg18 (ne_blocks' (N := w7.heap.size) (fun k hk => Nat.le_trans hs8 (L9.out k hk).1) (fun k hk => (LX.out k hk).2))); have T18 := Lib.hid (T17.out.grown hg18 T17.out.size (fun k hk => Nat.le_trans T6.out.size (by simpa using (LX.out k hk).1))))
        | (go_at_call 19; refine (markGroup_any _ _ _ l _ _ _ 1 rfl HN.out hbig (by decide) O16.out).mono ?_; rintro e w17 ⟨rfl, ho17, hg17⟩; have S17 := Lib.hid (S16.out.kept hg17 (ne_blocks (N := w5.heap.size) (fun k hk => (L5.out k hk).2) (fun k hk => (by cases hk; exact G6.out.1)))); have X17 := Lib.hid (X16.out.kept hg17 (ne_blocks' (N := w6.heap.size + 1) (fun k hk => (LX.out k hk).1) (fun k hk => (by cases hk; have := G6.out.2; omega)))); have Y17 := Lib.hid (Y16.out.kept hg17 (ne_blocks' (N := w6.heap.size + 1) (fun k hk => Nat.le_trans hs7 (LY.out k hk).1) (fun k hk => (by cases hk; have := G6.out.2; omega)))); have R17 := Lib.hid (R16.out.kept hg17 (ne_blocks' (N := w6.heap.size + 1) (fun k hk => Nat.le_trans hs7 (Nat.le_trans hs8 (L9.out k hk).1)) (fun k hk => (by cases hk; have := G6.out.2; omega)))); have T17 := Lib.hid (T16.out.grown hg17 T16.out.size (fun k hk => by cases hk; exact Nat.le_trans T5.out.size G6.out.1)))
        | (go_at_call 9; have hx_ := T15; clear hx_; refine (eqInts_same _ _ _ q _ _ _ HQ.out h2 (ints_own (by rw [← HQ.out]; exact Y15.out)) (ints_own (by rw [← HQ.out]; exact Z15.out))).mono ?_; rintro e w16 ⟨rfl, hb16⟩; have T16 := Lib.hid (T15.out.trans (hb16.mono T15.out.size)); have O16 := Lib.hid (owns_below O15.out hb16); have S16 := Lib.hid (owns_below S15.out hb16); have X16 := Lib.hid (owns_below X15.out hb16); have Y16 := Lib.hid (owns_below Y15.out hb16); have R16 := Lib.hid (owns_below R15.out hb16); have d16 := keepC hb16 (World.block_lt_of_cell? w15 _ d15) d15)
        | (go_at_call 7; have hx_ := T14; clear hx_; refine (toInts_any _ _ _ _ _ HQ.out h2 (HK.out.below rfl T14.out)).mono ?_; rintro e w15 ⟨rfl, ho15, hb15⟩; have Z15 := Lib.hid ho15; have T15 := Lib.hid (T14.out.trans (hb15.mono T14.out.size)); have O15 := Lib.hid (owns_below O14.out hb15); have S15 := Lib.hid (owns_below S14.out hb15); have X15 := Lib.hid (owns_below X14.out hb15); have Y15 := Lib.hid (owns_below Y14.out hb15); have R15 := Lib.hid (owns_below R14.out hb15); have c15 := keepC T15.out (by simp <;> omega) C1; have d15 := keepC (U12.out.trans ((hb13.trans ((hb14.trans (hb15.mono hb14.size)).mono hb13.size)).mono U12.out.size)) (by simp) D6)
        | (go_at_call 9; refine (eqInts_same _ _ _ p _ _ _ HP.out h1 (ints_own (by rw [← HP.out]; exact X13.out)) (ints_own (by rw [← HP.out]; exact Z13.out))).mono ?_; rintro e w14 ⟨rfl, hb14⟩; have T14 := Lib.hid (T13.out.trans (hb14.mono T13.out.size)); have O14 := Lib.hid (owns_below O13.out hb14); have S14 := Lib.hid (owns_below S13.out hb14); have X14 := Lib.hid (owns_below X13.out hb14); have Y14 := Lib.hid (owns_below Y13.out hb14); have R14 := Lib.hid (owns_below R13.out hb14))
        | (go_at_call 7; refine (toInts_any _ _ _ _ _ HP.out h1 (HJ.out.below rfl T12.out)).mono ?_; rintro e w13 ⟨rfl, ho13, hb13⟩; have Z13 := Lib.hid ho13; have T13 := Lib.hid (T12.out.trans (hb13.mono T12.out.size)); have O13 := Lib.hid (owns_below O12.out hb13); have S13 := Lib.hid (owns_below S12.out hb13); have X13 := Lib.hid (owns_below X12.out hb13); have Y13 := Lib.hid (owns_below Y12.out hb13); have R13 := Lib.hid (owns_below R12.out hb13)))
        go_ret
        exact ⟨rfl, HB.out.trans (T28.out.mono (by simp))⟩
      · go_enter Try.func5, Try.ntmps5
        go_wp2_with (first
          | (go_at_call 14; refine (szGroup_yes _ _ _ _ _ (by decide) hm (by omega)).mono ?_; rintro e w1 ⟨rfl, hb1⟩))
        go_ret
        exact ⟨rfl, HB.out.trans (hb1.mono (by simp))⟩
    · have g2 : (o : Int) > 1048576 := by omega
      go_enter Try.func5, Try.ntmps5
      go_wp2
      go_ret
      exact ⟨rfl, HB.out⟩
  · have g1 : (m : Int) > 1048576 := by omega
    go_enter Try.func5, Try.ntmps5
    go_wp2
    go_ret
    exact ⟨rfl, HB.out⟩
end Go.Proofs.Ythlpjiibjlaebaa
