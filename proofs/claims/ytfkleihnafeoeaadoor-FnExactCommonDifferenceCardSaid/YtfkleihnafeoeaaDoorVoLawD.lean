/- The laws' own walks: at every group and number each of these laws answers true. -/
import Derived.Test.YtfkleihnafeoeaaDoorVoK
import Derived.Test.YtfkleihnafeoeaaDoorMGAB
import Derived.Deep.RegionHeld3
import Derived.Deep.DeepCutAuto
namespace Go.Proofs.YtfkleihnafeoeaaDoor
open Go.RowKit
set_option maxHeartbeats 1000000 in
theorem walkCommonDifference (w : World) (a : Option Addr) (l : List Int) (n cap : Nat) (x y : Int) (hn : n = l.length) (hm : n ≤ 9223372036854775807) (hi : Ints w a l) (ht : TabE w.heap.size w) :
    Calls Tryd.prog 6 #[.agg #[.slice a n cap], .int .i64 x, .int .i64 y] w fun e w' => e = .returned (.bool true) ∧ Below w.heap.size w w' := by
  have HT := Lib.hid ht
  clear ht
  have HI := Lib.hid (ints_alloc hi (.cells #[.slice a n cap] 24))
  have HN := Lib.hid hn
  have C1 := newC w (.slice a n cap) 24 (n := w.heap.size) rfl
  have HB := Lib.hid (Joins.below_alloc1 w (.cells #[.slice a n cap] 24))
  have T0 := Lib.hid (Below.refl (w.alloc (.cells #[.slice a n cap] 24)).heap.size (w.alloc (.cells #[.slice a n cap] 24)))
  clear hi hn
  by_cases hbig : n ≤ 1048576
  · have hleft : (n : Int) ≤ 1048576 := by omega
    go_enter Tryd.func6, Tryd.ntmps6
    go_upto_region 6 with (first
      | (go_at_call 20; refine (sCom _ _ _ _ _ _ _ HN.out hm (ints_own (by rw [← HN.out]; exact O2.out))).mono ?_; rintro e w3 ⟨rfl, hb3⟩; have T3 := Lib.hid (T2.out.trans (hb3.mono T2.out.size)); have c3 := keepC T3.out (by simp <;> omega) C1)
      | (go_at_call 9; refine (toGroup_any _ _ _ _ _ HN.out hbig (HI.out.below rfl T1.out)).mono ?_; rintro e w2 ⟨g2, rfl, ho2, hb2⟩; have O2 := Lib.hid ho2; have T2 := Lib.hid (T1.out.trans (hb2.mono T1.out.size)); have c2 := keepC T2.out (by simp <;> omega) C1)
      | (go_at_call 7; refine (szGroup_no _ _ _ _ _ (by decide) hleft).mono ?_; rintro e w1 ⟨rfl, hb1⟩; have T1 := Lib.hid (T0.out.trans (hb1.mono T0.out.size)); have c1 := keepC T1.out (by simp <;> omega) C1))
    go_upto_region 10 with (first
      | (go_at_call 21; refine (iCom _ _ _ _ _ _ _ HN.out hm (ints_own (by rw [← HN.out]; exact O4.out)) w.heap.size (Nat.le_trans (by simp) T4.out.size) (HT.out.on (HB.out.trans (T4.out.mono (by simp))))).mono ?_; rintro e w5 ⟨rfl, hb5⟩; have U5 := Lib.hid (U0.out.trans (hb5.mono U0.out.size)); have T5 := Lib.hid (T4.out.trans (U5.out.mono T4.out.size)); have c5 := keepC T5.out (by simp <;> omega) C1; have d5 := keepC U5.out (by simp) D4)
      | (go_at_call 9; refine (toGroup_any _ _ _ _ _ HN.out hbig (HI.out.below rfl T3.out)).mono ?_; rintro e w4 ⟨g4, rfl, ho4, hb4⟩; have T4 := Lib.hid ((T3.out.trans (hb4.mono T3.out.size)).alloc (Nat.le_trans T3.out.size hb4.size) (.cells #[.slice (some ⟨g4, 0, none⟩) n n] 27)); have O4 := Lib.hid (owns_below ho4 (Joins.below_alloc1 w4 (.cells #[.slice (some ⟨g4, 0, none⟩) n n] 27))); have D4 := newC w4 (.slice (some ⟨g4, 0, none⟩) n n) 27 (n := w4.heap.size) rfl; have U0 := Lib.hid (Below.refl (w4.alloc (.cells #[.slice (some ⟨g4, 0, none⟩) n n] 27)).heap.size (w4.alloc (.cells #[.slice (some ⟨g4, 0, none⟩) n n] 27))); have c4 := keepC T4.out (by simp <;> omega) C1))
    have UD := Lib.hid U5.out.drew
    have TD := Lib.hid T5.out.drew
    have O5 := Lib.hid (owns_below O4.out U5.out).drew
    go_region_held3 (fun W => W.cell? ⟨w.heap.size, 0, none⟩ = some (.slice a n cap) ∧ W.cell? ⟨w4.heap.size, 0, none⟩ = some (.slice (some ⟨g4, 0, none⟩) n n)) (first | exact ⟨c7, d7⟩ | exact ⟨c6, d6⟩ | exact ⟨c5, d5⟩)
      (first
      | (go_at_call 11; refine (eqGroup_same _ _ _ _ _ _ _ HN.out hbig ((ints_own (by rw [← HN.out]; exact O5.out)).below rfl hb6) (ints_own (by rw [← HN.out]; exact O6.out))).mono ?_; rintro e w7 ⟨rfl, hb7⟩; have T7 := Lib.hid (T6.out.trans (hb7.mono T6.out.size)); have c7 := keepC T7.out (by simp <;> omega) C1; have d7 := keepC (U6.out.trans (hb7.mono U6.out.size)) (by simp) D4)
      | (go_at_call 9; refine (toGroup_any _ _ _ _ _ HN.out hbig (HI.out.below rfl TD.out)).mono ?_; rintro e w6 ⟨g6, rfl, ho6, hb6⟩; have O6 := Lib.hid ho6; have T6 := Lib.hid (TD.out.trans (hb6.mono TD.out.size)); have U6 := Lib.hid (UD.out.trans (hb6.mono UD.out.size)); have c6 := keepC T6.out (by simp <;> omega) C1; have d6 := keepC U6.out (by simp) D4))
    go_wp2
    go_ret
    exact ⟨rfl, HB.out.trans (T7.out.mono (by simp))⟩
  · go_enter Tryd.func6, Tryd.ntmps6
    go_wp2_with (first
      | (go_at_call 7; refine (szGroup_yes _ _ _ _ _ (by decide) hm (by omega)).mono ?_; rintro e w1 ⟨rfl, hb1⟩))
    go_ret
    exact ⟨rfl, HB.out.trans (hb1.mono (by simp))⟩
set_option maxHeartbeats 1000000 in
theorem walkVosperCase (w : World) (a : Option Addr) (l : List Int) (n cap : Nat) (x y : Int) (hn : n = l.length) (hm : n ≤ 9223372036854775807) (hi : Ints w a l) (ht : TabE w.heap.size w) :
    Calls Tryd.prog 5 #[.agg #[.slice a n cap], .int .i64 x, .int .i64 y] w fun e w' => e = .returned (.bool true) ∧ Below w.heap.size w w' := by
  have HT := Lib.hid ht
  clear ht
  have HI := Lib.hid (ints_alloc hi (.cells #[.slice a n cap] 24))
  have HN := Lib.hid hn
  have C1 := newC w (.slice a n cap) 24 (n := w.heap.size) rfl
  have HB := Lib.hid (Joins.below_alloc1 w (.cells #[.slice a n cap] 24))
  have T0 := Lib.hid (Below.refl (w.alloc (.cells #[.slice a n cap] 24)).heap.size (w.alloc (.cells #[.slice a n cap] 24)))
  clear hi hn
  by_cases hbig : n ≤ 1048576
  · have hleft : (n : Int) ≤ 1048576 := by omega
    go_enter Tryd.func5, Tryd.ntmps5
    go_upto_region 6 with (first
      | (go_at_call 18; refine (sVos _ _ _ _ _ _ _ HN.out hm (ints_own (by rw [← HN.out]; exact O2.out))).mono ?_; rintro e w3 ⟨rfl, hb3⟩; have T3 := Lib.hid (T2.out.trans (hb3.mono T2.out.size)); have c3 := keepC T3.out (by simp <;> omega) C1)
      | (go_at_call 9; refine (toGroup_any _ _ _ _ _ HN.out hbig (HI.out.below rfl T1.out)).mono ?_; rintro e w2 ⟨g2, rfl, ho2, hb2⟩; have O2 := Lib.hid ho2; have T2 := Lib.hid (T1.out.trans (hb2.mono T1.out.size)); have c2 := keepC T2.out (by simp <;> omega) C1)
      | (go_at_call 7; refine (szGroup_no _ _ _ _ _ (by decide) hleft).mono ?_; rintro e w1 ⟨rfl, hb1⟩; have T1 := Lib.hid (T0.out.trans (hb1.mono T0.out.size)); have c1 := keepC T1.out (by simp <;> omega) C1))
    go_upto_region 10 with (first
      | (go_at_call 19; refine (iVos _ _ _ _ _ _ _ HN.out hm (ints_own (by rw [← HN.out]; exact O4.out)) w.heap.size (Nat.le_trans (by simp) T4.out.size) (HT.out.on (HB.out.trans (T4.out.mono (by simp))))).mono ?_; rintro e w5 ⟨rfl, hb5⟩; have U5 := Lib.hid (U0.out.trans (hb5.mono U0.out.size)); have T5 := Lib.hid (T4.out.trans (U5.out.mono T4.out.size)); have c5 := keepC T5.out (by simp <;> omega) C1; have d5 := keepC U5.out (by simp) D4)
      | (go_at_call 9; refine (toGroup_any _ _ _ _ _ HN.out hbig (HI.out.below rfl T3.out)).mono ?_; rintro e w4 ⟨g4, rfl, ho4, hb4⟩; have T4 := Lib.hid ((T3.out.trans (hb4.mono T3.out.size)).alloc (Nat.le_trans T3.out.size hb4.size) (.cells #[.slice (some ⟨g4, 0, none⟩) n n] 27)); have O4 := Lib.hid (owns_below ho4 (Joins.below_alloc1 w4 (.cells #[.slice (some ⟨g4, 0, none⟩) n n] 27))); have D4 := newC w4 (.slice (some ⟨g4, 0, none⟩) n n) 27 (n := w4.heap.size) rfl; have U0 := Lib.hid (Below.refl (w4.alloc (.cells #[.slice (some ⟨g4, 0, none⟩) n n] 27)).heap.size (w4.alloc (.cells #[.slice (some ⟨g4, 0, none⟩) n n] 27))); have c4 := keepC T4.out (by simp <;> omega) C1))
    have UD := Lib.hid U5.out.drew
    have TD := Lib.hid T5.out.drew
    have O5 := Lib.hid (owns_below O4.out U5.out).drew
    go_region_held3 (fun W => W.cell? ⟨w.heap.size, 0, none⟩ = some (.slice a n cap) ∧ W.cell? ⟨w4.heap.size, 0, none⟩ = some (.slice (some ⟨g4, 0, none⟩) n n)) (first | exact ⟨c7, d7⟩ | exact ⟨c6, d6⟩ | exact ⟨c5, d5⟩)
      (first
      | (go_at_call 11; refine (eqGroup_same _ _ _ _ _ _ _ HN.out hbig ((ints_own (by rw [← HN.out]; exact O5.out)).below rfl hb6) (ints_own (by rw [← HN.out]; exact O6.out))).mono ?_; rintro e w7 ⟨rfl, hb7⟩; have T7 := Lib.hid (T6.out.trans (hb7.mono T6.out.size)); have c7 := keepC T7.out (by simp <;> omega) C1; have d7 := keepC (U6.out.trans (hb7.mono U6.out.size)) (by simp) D4)
      | (go_at_call 9; refine (toGroup_any _ _ _ _ _ HN.out hbig (HI.out.below rfl TD.out)).mono ?_; rintro e w6 ⟨g6, rfl, ho6, hb6⟩; have O6 := Lib.hid ho6; have T6 := Lib.hid (TD.out.trans (hb6.mono TD.out.size)); have U6 := Lib.hid (UD.out.trans (hb6.mono UD.out.size)); have c6 := keepC T6.out (by simp <;> omega) C1; have d6 := keepC U6.out (by simp) D4))
    go_wp2
    go_ret
    exact ⟨rfl, HB.out.trans (T7.out.mono (by simp))⟩
  · go_enter Tryd.func5, Tryd.ntmps5
    go_wp2_with (first
      | (go_at_call 7; refine (szGroup_yes _ _ _ _ _ (by decide) hm (by omega)).mono ?_; rintro e w1 ⟨rfl, hb1⟩))
    go_ret
    exact ⟨rfl, HB.out.trans (hb1.mono (by simp))⟩
end Go.Proofs.YtfkleihnafeoeaaDoor
