/- The walk of the law on DifferencesOf: at every group and number of a set it answers true. -/
import Derived.Test.YtfkleihnafeoeaaDoorMGAA
import Derived.Test.YtfkleihnafeoeaaDoorMGAB
import Derived.Test.YtfkleihnafeoeaaDoorSetMark
namespace Go.Proofs.YtfkleihnafeoeaaDoor
open Go.RowKit
theorem dfsE_len (l : List Int) (s : Int) : (dfsE l s).length ≤ 24 := by
  unfold dfsE
  split
  · rename_i h
    rw [Bool.and_eq_true] at h
    obtain ⟨hg, _⟩ := isS_true h.1
    have hp := (ords_grp hg).prod
    rw [List.length_map]
    have h2 : (difL l s.toNat).length ≤ (List.range (prodI l).toNat).length := List.length_filter_le ..
    rw [List.length_range] at h2
    omega
  · simp
set_option maxHeartbeats 4000000 in
theorem walkDifferencesOf (w : World) (a : Option Addr) (l : List Int) (n cap : Nat) (x : Int) (hn : n = l.length) (hm : n ≤ 9223372036854775807) (hi : Ints w a l) (ht : TabZ w.heap.size w) :
    Calls Tryd.prog 4 #[.agg #[.slice a n cap], .int .i64 x] w fun e w' => e = .returned (.bool true) ∧ Below w.heap.size w w' := by
  have HI := Lib.hid (ints_alloc hi (.cells #[.slice a n cap] 24))
  have HN := Lib.hid hn
  have HT := Lib.hid ht
  clear ht
  have C1 := newC w (.slice a n cap) 24 (n := w.heap.size) rfl
  have HB := Lib.hid (Joins.below_alloc1 w (.cells #[.slice a n cap] 24))
  have T0 := Lib.hid (Below.refl (w.alloc (.cells #[.slice a n cap] 24)).heap.size (w.alloc (.cells #[.slice a n cap] 24)))
  have hpl : (dfsE l x).length ≤ 1048576 := Nat.le_trans (dfsE_len l x) (by decide)
  clear hi hn
  by_cases hbig : n ≤ 1048576
  · have hleft : (n : Int) ≤ 1048576 := by omega
    go_enter Tryd.func4, Tryd.ntmps4
    go_upto_region 6 with (first
      | (go_at_call 12; refine (sDfs _ _ _ _ _ _ HN.out hm (ints_own (by rw [← HN.out]; exact O2.out))).mono ?_; rintro e w3 ⟨v3, rfl, ho3, hb3⟩; obtain ⟨a3, cap3, rfl⟩ := own_slice ho3; have S3 := Lib.hid ho3; have T3 := Lib.hid (T2.out.trans (hb3.mono T2.out.size)); have c3 := keepC T3.out (by simp <;> omega) C1; have L3 := Lib.hid (ho3.lt))
      | (go_at_call 9; refine (toGroup_any _ _ _ _ _ HN.out hbig (HI.out.below rfl T1.out)).mono ?_; rintro e w2 ⟨g2, rfl, ho2, hb2⟩; have O2 := Lib.hid ho2; have T2 := Lib.hid (T1.out.trans (hb2.mono T1.out.size)))
      | (go_at_call 7; refine (szGroup_no _ _ _ _ _ (by decide) hleft).mono ?_; rintro e w1 ⟨rfl, hb1⟩; have T1 := Lib.hid (T0.out.trans (hb1.mono T0.out.size)); have c1 := keepC T1.out (by simp <;> omega) C1))
    go_upto_region 10 with (first
      | (go_at_call 14; refine (eqInts_same _ _ _ (dfsE l x) _ _ _ rfl hpl (own_ints R5.out) (own_ints S5.out)).mono ?_; rintro e w6 ⟨rfl, hb6⟩; have T6 := Lib.hid (T5.out.trans (hb6.mono T5.out.size)); have U6 := Lib.hid (U5.out.trans (hb6.mono U5.out.size)); have S6 := Lib.hid (owns_below S5.out hb6); have R6 := Lib.hid (owns_below R5.out hb6); have O6 := Lib.hid (owns_below O5.out hb6); have c6 := keepC T6.out (by simp <;> omega) C1; have d6 := keepC U6.out (by simp) D4)
      | (go_at_call 13; refine (iDfs _ _ _ _ _ _ HN.out hm (ints_own (by rw [← HN.out]; exact O4.out)) w.heap.size (Nat.le_trans (by simp) T4.out.size) (HT.out.on (HB.out.trans (T4.out.mono (by simp))))).mono ?_; rintro e w5 ⟨v5, rfl, ho5, hb5⟩; obtain ⟨a5, cap5, rfl⟩ := own_slice ho5; have R5 := Lib.hid ho5; have L5 := Lib.hid ho5.lt; have U5 := Lib.hid (U0.out.trans (hb5.mono U0.out.size)); have T5 := Lib.hid (T4.out.trans (U5.out.mono T4.out.size)); have S5 := Lib.hid (owns_below S4.out hb5); have O5 := Lib.hid (owns_below O4.out hb5); have c5 := keepC T5.out (by simp <;> omega) C1; have d5 := keepC U5.out (by simp) D4)
      | (go_at_call 9; refine (toGroup_any _ _ _ _ _ HN.out hbig (HI.out.below rfl T3.out)).mono ?_; rintro e w4 ⟨g4, rfl, ho4, hb4⟩; have T4 := Lib.hid ((T3.out.trans (hb4.mono T3.out.size)).alloc (Nat.le_trans T3.out.size hb4.size) (.cells #[.slice (some ⟨g4, 0, none⟩) n n] 27)); have O4 := Lib.hid (owns_below ho4 (Joins.below_alloc1 w4 (.cells #[.slice (some ⟨g4, 0, none⟩) n n] 27))); have G4 := Lib.hid (ho4.lt g4 rfl); have S4 := Lib.hid (owns_below (owns_below S3.out hb4) (Joins.below_alloc1 w4 (.cells #[.slice (some ⟨g4, 0, none⟩) n n] 27))); have D4 := newC w4 (.slice (some ⟨g4, 0, none⟩) n n) 27 (n := w4.heap.size) rfl; have U0 := Lib.hid (Below.refl (w4.alloc (.cells #[.slice (some ⟨g4, 0, none⟩) n n] 27)).heap.size (w4.alloc (.cells #[.slice (some ⟨g4, 0, none⟩) n n] 27))); have c4 := keepC T4.out (by simp <;> omega) C1))
    have UD := Lib.hid U6.out.drew
    have TD := Lib.hid T6.out.drew
    have OD := Lib.hid O6.out.drew
    have SD := Lib.hid S6.out.drew
    have RD := Lib.hid R6.out.drew
    go_region_held3 (fun W => W.cell? ⟨w.heap.size, 0, none⟩ = some (.slice a n cap) ∧ W.cell? ⟨w4.heap.size, 0, none⟩ = some (.slice (some ⟨g4, 0, none⟩) n n)) (first | exact ⟨c8, d8⟩ | exact ⟨c7, d7⟩ | exact ⟨c6, d6⟩)
      (first
      | (go_at_call 11; refine (eqGroup_same _ _ _ _ _ _ _ HN.out hbig ((ints_own (by rw [← HN.out]; exact OD.out)).below rfl hb7) (ints_own (by rw [← HN.out]; exact P7.out))).mono ?_; rintro e w8 ⟨rfl, hb8⟩; have T8 := Lib.hid (T7.out.trans (hb8.mono T7.out.size)); have U8 := Lib.hid (U7.out.trans (hb8.mono U7.out.size)); have S8 := Lib.hid (owns_below S7.out hb8); have R8 := Lib.hid (owns_below R7.out hb8); have O8 := Lib.hid (owns_below O7.out hb8); have c8 := keepC T8.out (by simp <;> omega) C1; have d8 := keepC U8.out (by simp) D4)
      | (go_at_call 9; refine (toGroup_any _ _ _ _ _ HN.out hbig (HI.out.below rfl TD.out)).mono ?_; rintro e w7 ⟨g7, rfl, ho7, hb7⟩; have P7 := Lib.hid ho7; have T7 := Lib.hid (TD.out.trans (hb7.mono TD.out.size)); have U7 := Lib.hid (UD.out.trans (hb7.mono UD.out.size)); have S7 := Lib.hid (owns_below SD.out hb7); have R7 := Lib.hid (owns_below RD.out hb7); have O7 := Lib.hid (owns_below OD.out hb7); have c7 := keepC T7.out (by simp <;> omega) C1; have d7 := keepC U7.out (by simp) D4))
    go_wp2_with (first
      | (go_at_call 17; refine (heldInts_any _ _ _ _ _ 1 rfl hpl (by decide) (own_ints (l := upI 1 (dfsE l x).length) (by rw [upI_len]; exact R15.out))).mono ?_; rintro e w16 ⟨rfl, hb16⟩; have T16 := Lib.hid (T15.out.trans (hb16.mono T15.out.size)))
      | (go_at_call 14; refine (eqInts_same _ _ _ (dfsE l x) _ _ _ rfl hpl (own_ints Q14.out) (own_ints S14.out)).mono ?_; rintro e w15 ⟨rfl, hb15⟩; have T15 := Lib.hid (T14.out.trans (hb15.mono T14.out.size)); have R15 := Lib.hid (owns_below R14.out hb15))
      | (go_at_call 13; refine (iDfs _ _ _ _ _ _ HN.out hm (ints_own (by rw [← HN.out]; exact O13.out)) w.heap.size (Nat.le_trans (by simp) T13.out.size) (HT.out.on (HB.out.trans (T13.out.mono (by simp))))).mono ?_; rintro e w14 ⟨v14, rfl, ho14, hb14⟩; obtain ⟨a14, cap14, rfl⟩ := own_slice ho14; have Q14 := Lib.hid ho14; have T14 := Lib.hid (T13.out.trans (hb14.mono T13.out.size)); have S14 := Lib.hid (owns_below S13.out hb14); have R14 := Lib.hid (owns_below R13.out hb14))
      | (go_at_call 9; refine (toGroup_any _ _ _ _ _ HN.out hbig (HI.out.below rfl T12.out)).mono ?_; rintro e w13 ⟨g13, rfl, ho13, hb13⟩; have O13 := Lib.hid ho13; have T13 := Lib.hid (T12.out.trans (hb13.mono T12.out.size)); have S13 := Lib.hid (owns_below S12.out hb13); have R13 := Lib.hid (owns_below R12.out hb13))
      | (go_at_call 17; refine (heldInts_any _ _ _ _ _ 1 rfl hpl (by decide) (own_ints (l := upI 1 (dfsE l x).length) (by rw [upI_len]; exact R11.out))).mono ?_; rintro e w12 ⟨rfl, hb12⟩; have T12 := Lib.hid (T11.out.trans (hb12.mono T11.out.size)); have S12 := Lib.hid (owns_below S11.out hb12); have R12 := Lib.hid (owns_below R11.out hb12); have c12 := keepC T12.out (by simp <;> omega) C1)
      | (go_at_call 16; refine (markRow _ _ _ (dfsE l x) _ _ _ 1 rfl rfl hpl (by decide) R10.out).mono ?_; rintro e w11 ⟨rfl, ho11, hg11⟩; have NS11 := Lib.hid (ne_blocks (N := w3.heap.size) (fun k hk => (L3.out k hk).2) (fun k hk => Nat.le_trans (Nat.le_trans G4.out.1 (Nat.le_of_lt G4.out.2)) (Nat.le_trans (by simp) (L5.out k hk).1))); have S11 := Lib.hid (S10.out.kept hg11 NS11.out); have R11 := Lib.hid ho11; have T11 := Lib.hid (T10.out.grown hg11 T10.out.size (fun k hk => Nat.le_trans T4.out.size (L5.out k hk).1)); have c11 := keepC T11.out (by simp <;> omega) C1)
      | (go_at_call 14; refine (eqInts_same _ _ _ (dfsE l x) _ _ _ rfl hpl (own_ints R9.out) (own_ints S9.out)).mono ?_; rintro e w10 ⟨rfl, hb10⟩; have T10 := Lib.hid (T9.out.trans (hb10.mono T9.out.size)); have S10 := Lib.hid (owns_below S9.out hb10); have R10 := Lib.hid (owns_below R9.out hb10); have c10 := keepC T10.out (by simp <;> omega) C1)
      | (go_at_call 15; refine (markGroup_any _ _ _ l _ _ _ 1 rfl HN.out hbig (by decide) O8.out).mono ?_; rintro e w9 ⟨rfl, ho9, hg9⟩; have NS9 := Lib.hid (ne_blocks (y := some g4) (N := w3.heap.size) (fun k hk => (L3.out k hk).2) (fun k hk => by cases hk; exact G4.out.1)); have NR9 := Lib.hid (ne_blocks' (y := some g4) (N := w4.heap.size + 1) (fun k hk => by simpa using (L5.out k hk).1) (fun k hk => by cases hk; exact Nat.lt_succ_of_lt G4.out.2)); have S9 := Lib.hid (S8.out.kept hg9 NS9.out); have R9 := Lib.hid (R8.out.kept hg9 NR9.out); have T9 := Lib.hid (T8.out.grown hg9 T8.out.size (fun k hk => by cases hk; exact Nat.le_trans T3.out.size G4.out.1)); have c9 := keepC T9.out (by simp <;> omega) C1))
    go_ret
    exact ⟨rfl, HB.out.trans (T16.out.mono (by simp))⟩
  · go_enter Tryd.func4, Tryd.ntmps4
    go_wp2_with (first
      | (go_at_call 7; refine (szGroup_yes _ _ _ _ _ (by decide) hm (by omega)).mono ?_; rintro e w1 ⟨rfl, hb1⟩))
    go_ret
    exact ⟨rfl, HB.out.trans (hb1.mono (by simp))⟩
end Go.Proofs.YtfkleihnafeoeaaDoor
