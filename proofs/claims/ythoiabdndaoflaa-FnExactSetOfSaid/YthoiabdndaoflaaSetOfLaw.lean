/- The walk of the law on SetOf: at every group and list of elements it answers true. -/
import Derived.Test.YthoiabdndaoflaaSetOfI
import Derived.Deep.RegionHeld3
import Derived.Deep.DeepCutAuto
namespace Go.Proofs.Ythoiabdndaoflaa
open Go.RowKit
set_option maxHeartbeats 4000000 in
theorem walkSetOf (w : World) (a : Option Addr) (l : List Int) (n cap : Nat) (a2 : Option Addr) (p : List Int) (n2 cap2 : Nat) (hn : n = l.length) (hm : n ≤ 9223372036854775807) (hi : Ints w a l) (hn2 : n2 = p.length) (hm2 : n2 ≤ 9223372036854775807) (hi2 : Ints w a2 p) :
    Calls Try.prog 6 #[.agg #[.slice a n cap], .slice a2 n2 cap2] w fun e w' => e = .returned (.bool true) ∧ Below w.heap.size w w' := by
  have HI := Lib.hid (ints_alloc hi (.cells #[.slice a n cap] 24))
  have HP := Lib.hid (ints_alloc hi2 (.cells #[.slice a n cap] 24))
  have HN := Lib.hid hn
  have HN2 := Lib.hid hn2
  have C1 := newC w (.slice a n cap) 24 (n := w.heap.size) rfl
  have HB := Lib.hid (Joins.below_alloc1 w (.cells #[.slice a n cap] 24))
  have T0 := Lib.hid (Below.refl (w.alloc (.cells #[.slice a n cap] 24)).heap.size (w.alloc (.cells #[.slice a n cap] 24)))
  clear hi hn hi2 hn2
  by_cases hbig2 : n2 ≤ 1048576
  · have hlen2 : ¬ (1048576 : Int) < (n2 : Int) := by omega
    by_cases hbig : n ≤ 1048576
    · have hleft : (n : Int) ≤ 1048576 := by omega
      go_enter Try.func6, Try.ntmps6
      go_upto_region 13 with (first
      | (go_at_call 20; refine (iSetOf _ _ l _ _ _ p _ _ HN.out hm (ints_own (by rw [← HN.out]; exact O6.out)) HN2.out hbig2 (ints_own (by rw [← HN2.out]; exact X6.out))).mono ?_; rintro e w7 ⟨rfl, hb7⟩; have T7 := Lib.hid (T6.out.trans (hb7.mono T6.out.size)); have U7 := Lib.hid (U6.out.trans (hb7.mono U6.out.size)); have O7 := Lib.hid (owns_below O6.out hb7); have X7 := Lib.hid (owns_below X6.out hb7); have c7 := keepC T7.out (by simp <;> omega) C1; have d7 := keepC U7.out (by simp) D5)
      | (go_at_call 19; refine (toInts_any _ _ _ _ _ HN2.out hbig2 (HP.out.below rfl T5.out)).mono ?_; rintro e w6 ⟨rfl, ho6, hb6⟩; have X6 : Hid (w6.ownsRow (w5.heap.size + 1) 3 1 (.slice (some ⟨w5.heap.size + 1, 0, none⟩) n2 n2) n2 (p.map (Value.int .i64))) := Lib.hid (by simpa using ho6); have T6 := Lib.hid (T5.out.trans (hb6.mono T5.out.size)); have U6 := Lib.hid (U5.out.trans (hb6.mono U5.out.size)); have O6 := Lib.hid (owns_below O5.out hb6); have c6 := keepC T6.out (by simp <;> omega) C1; have d6 := keepC U6.out (by simp) D5)
      | (go_at_call 11; refine (toGroup_any _ _ _ _ _ HN.out hbig (HI.out.below rfl T4.out)).mono ?_; rintro e w5 ⟨g5, rfl, ho5, hb5⟩; have T5 := Lib.hid ((T4.out.trans (hb5.mono T4.out.size)).alloc (Nat.le_trans T4.out.size hb5.size) (.cells #[.slice (some ⟨g5, 0, none⟩) n n] 27)); have O5 := Lib.hid (owns_below ho5 (Joins.below_alloc1 w5 (.cells #[.slice (some ⟨g5, 0, none⟩) n n] 27))); have D5 := newC w5 (.slice (some ⟨g5, 0, none⟩) n n) 27 (n := w5.heap.size) rfl; have U5 := Lib.hid (Below.refl (w5.alloc (.cells #[.slice (some ⟨g5, 0, none⟩) n n] 27)).heap.size (w5.alloc (.cells #[.slice (some ⟨g5, 0, none⟩) n n] 27))); have c5 := keepC T5.out (by simp <;> omega) C1)
      | (go_at_call 18; refine (sSetOf _ _ l _ _ _ p _ _ HN.out hm (ints_own (by rw [← HN.out]; exact O3.out)) HN2.out hbig2 (ints_own (by rw [← HN2.out]; exact Q3.out))).mono ?_; rintro e w4 ⟨rfl, hb4⟩; have T4 := Lib.hid (T3.out.trans (hb4.mono T3.out.size)); have c4 := keepC T4.out (by simp <;> omega) C1)
      | (go_at_call 19; refine (toInts_any _ _ _ _ _ HN2.out hbig2 (HP.out.below rfl T2.out)).mono ?_; rintro e w3 ⟨rfl, ho3, hb3⟩; have Q3 := Lib.hid ho3; have T3 := Lib.hid (T2.out.trans (hb3.mono T2.out.size)); have O3 := Lib.hid (owns_below O2.out hb3); have c3 := keepC T3.out (by simp <;> omega) C1)
      | (go_at_call 11; refine (toGroup_any _ _ _ _ _ HN.out hbig (HI.out.below rfl T1.out)).mono ?_; rintro e w2 ⟨g2, rfl, ho2, hb2⟩; have O2 := Lib.hid ho2; have T2 := Lib.hid (T1.out.trans (hb2.mono T1.out.size)); have c2 := keepC T2.out (by simp <;> omega) C1)
      | (go_at_call 9; refine (szGroup_no _ _ _ _ _ (by decide) hleft).mono ?_; rintro e w1 ⟨rfl, hb1⟩; have T1 := Lib.hid (T0.out.trans (hb1.mono T0.out.size)); have c1 := keepC T1.out (by simp <;> omega) C1))
      obtain ⟨zv, EV⟩ : ∃ z, Hid (setV l p = z) := ⟨_, Lib.hid rfl⟩
      have UD := Lib.hid U7.out.drew
      have TD := Lib.hid T7.out.drew
      have OD := Lib.hid O7.out.drew
      have XD := Lib.hid X7.out.drew
      go_region_held3 (fun W => W.cell? ⟨w.heap.size, 0, none⟩ = some (.slice a n cap) ∧ W.cell? ⟨w5.heap.size, 0, none⟩ = some (.slice (some ⟨g5, 0, none⟩) n n)) (first | exact ⟨c9, d9⟩ | exact ⟨c8, d8⟩ | exact ⟨c7, d7⟩)
        (first
        | (go_at_call 13; refine (eqGroup_same _ _ _ _ _ _ _ HN.out hbig ((ints_own (by rw [← HN.out]; exact OD.out)).below rfl hb8) (ints_own (by rw [← HN.out]; exact P8.out))).mono ?_; rintro e w9 ⟨rfl, hb9⟩; have T9 := Lib.hid (T8.out.trans (hb9.mono T8.out.size)); have U9 := Lib.hid (U8.out.trans (hb9.mono U8.out.size)); have X9 := Lib.hid (owns_below X8.out hb9); have c9 := keepC T9.out (by simp <;> omega) C1; have d9 := keepC U9.out (by simp) D5)
        | (go_at_call 11; refine (toGroup_any _ _ _ _ _ HN.out hbig (HI.out.below rfl TD.out)).mono ?_; rintro e w8 ⟨g8, rfl, ho8, hb8⟩; have P8 := Lib.hid ho8; have T8 := Lib.hid (TD.out.trans (hb8.mono TD.out.size)); have U8 := Lib.hid (UD.out.trans (hb8.mono UD.out.size)); have X8 := Lib.hid (owns_below XD.out hb8); have c8 := keepC T8.out (by simp <;> omega) C1; have d8 := keepC U8.out (by simp) D5))
      go_wp2_with (first
      | (go_at_call 21; refine (eqInts_same _ _ _ p _ _ _ HN2.out hbig2 (ints_own (by rw [← HN2.out]; exact X10.out)) (ints_own (by rw [← HN2.out]; exact Q10.out))).mono ?_; rintro e w11 ⟨rfl, hb11⟩; have T11 := Lib.hid (T10.out.trans (hb11.mono T10.out.size)))
      | (go_at_call 19; refine (toInts_any _ _ _ _ _ HN2.out hbig2 (HP.out.below rfl T9.out)).mono ?_; rintro e w10 ⟨rfl, ho10, hb10⟩; have Q10 := Lib.hid ho10; have T10 := Lib.hid (T9.out.trans (hb10.mono T9.out.size)); have X10 := Lib.hid (owns_below X9.out hb10)))
      go_ret
      exact ⟨rfl, HB.out.trans (T11.out.mono (by simp))⟩
    · go_enter Try.func6, Try.ntmps6
      go_wp2_with (first
        | (go_at_call 9; refine (szGroup_yes _ _ _ _ _ (by decide) hm (by omega)).mono ?_; rintro e w1 ⟨rfl, hb1⟩))
      go_ret
      exact ⟨rfl, HB.out.trans (hb1.mono (by simp))⟩
  · have hlen2 : (1048576 : Int) < (n2 : Int) := by omega
    go_enter Try.func6, Try.ntmps6
    go_wp2
    go_ret
    exact ⟨rfl, HB.out⟩
end Go.Proofs.Ythoiabdndaoflaa
