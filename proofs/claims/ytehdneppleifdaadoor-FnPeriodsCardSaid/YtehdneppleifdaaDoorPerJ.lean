/- The contracts of the program's own StabilizerOf, IsPeriodic, PeriodsOf. -/
import Derived.Test.YtehdneppleifdaaDoorMGAO
import Derived.Test.YtehdneppleifdaaDoorMGAI
namespace Go.Proofs.YtehdneppleifdaaDoor
open Go.RowKit Go.Shelf
attribute [local go_sem] Oper.semAt_some
set_option maxRecDepth 1000000
set_option maxHeartbeats 2000000 in
theorem iStab (w : World) (a : Option Addr) (l : List Int) (n cap : Nat) (s : Int) (hn : n = l.length) (hm : n ≤ 9223372036854775807) (hi : Ints w a l) :
    Calls Tryd.prog 8 #[.agg #[.slice a n cap], .int .i64 s] w fun e w' => e = .returned (.int .i64 (stE l s)) ∧ Below w.heap.size w w' := by
  have HI := Lib.hid (ints_alloc hi (.cells #[.slice a n cap] 26))
  have HN := Lib.hid hn
  have C1 := newC w (.slice a n cap) 26 (n := w.heap.size) rfl
  have HB := Lib.hid (Joins.below_alloc1 w (.cells #[.slice a n cap] 26))
  have T0 := Lib.hid (Below.refl (w.alloc (.cells #[.slice a n cap] 26)).heap.size (w.alloc (.cells #[.slice a n cap] 26)))
  clear hi hn
  cases hs : isS l s with
  | false =>
    have HS := Lib.hid hs
    rw [show stE l s = -1 by unfold stE; rw [if_neg (by simp [hs])]]
    clear hs
    go_enter Tryd.func8, Tryd.ntmps8
    go_wp2_with (go_at_call 33; refine (iSetIn_no _ _ _ _ _ _ HN.out hm (HI.out.below rfl T0.out) HS.out).mono ?_; rintro e w1 ⟨rfl, hb1⟩; have TA := Lib.hid ((HB.out.trans (hb1.mono (by simp))).alloc (Nat.le_trans (by simp) hb1.size) (.cells #[.int .i64 0, .int .i64 0, .int .i64 0] 46)); have HAL := Lib.hid (heap_alloc_new w1 (.cells #[.int .i64 0, .int .i64 0, .int .i64 0] 46)); obtain ⟨y0, y1, y2, _, _, _⟩ := trip_cell HAL.out)
    go_ret
    exact ⟨rfl, TA.out⟩
  | true =>
    have HS := Lib.hid hs
    obtain ⟨hg, s, rfl, hsn, hs24⟩ := isS_true hs
    rw [show stE l (s : Int) = ((stN l s : Nat) : Int) by unfold stE; rw [if_pos hs, Int.toNat_natCast]]
    have HST := Lib.hid (fun (W : World) => iStabN hg W s hsn)
    obtain ⟨p, EP⟩ : ∃ p, Hid (l.getD 0 1 = p) := ⟨_, Lib.hid rfl⟩
    obtain ⟨q, EQ⟩ : ∃ q, Hid (l.getD 1 1 = q) := ⟨_, Lib.hid rfl⟩
    obtain ⟨r, ER⟩ : ∃ r, Hid (l.getD 2 1 = r) := ⟨_, Lib.hid rfl⟩
    obtain ⟨S, hSS⟩ : ∃ S, stN l s = S := ⟨_, rfl⟩
    have hS24 : S < 16777216 := by rw [← hSS]; exact stN_lt24 hg s
    rw [hSS]
    rw [EP.out, EQ.out, ER.out] at HST
    rw [hSS] at HST
    clear hs hsn hg hSS
    go_enter Tryd.func8, Tryd.ntmps8
    go_wp2_with (first
      | (go_at_call 34; refine (HST.out _).mono ?_; rintro e w2 ⟨rfl, hb2⟩; have T2 := Lib.hid (TA.out.trans (hb2.mono TA.out.size)))
      | (go_at_call 33; refine (iSetIn_yes _ _ _ _ _ _ HN.out hm (HI.out.below rfl T0.out) HS.out).mono ?_; rw [EP.out, EQ.out, ER.out]; rintro e w1 ⟨rfl, hb1⟩; have TA := Lib.hid ((HB.out.trans (hb1.mono (by simp))).alloc (Nat.le_trans (by simp) hb1.size) (.cells #[.int .i64 p, .int .i64 q, .int .i64 r] 46)); have HAL := Lib.hid (heap_alloc_new w1 (.cells #[.int .i64 p, .int .i64 q, .int .i64 r] 46)); obtain ⟨y0, y1, y2, _, _, _⟩ := trip_cell HAL.out))
    go_ret
    exact ⟨rfl, T2.out⟩
set_option maxHeartbeats 2000000 in
theorem iPer (w : World) (a : Option Addr) (l : List Int) (n cap : Nat) (s : Int) (hn : n = l.length) (hm : n ≤ 9223372036854775807) (hi : Ints w a l) :
    Calls Tryd.prog 10 #[.agg #[.slice a n cap], .int .i64 s] w fun e w' => e = .returned (.bool (perB l s)) ∧ Below w.heap.size w w' := by
  have HI := Lib.hid (ints_alloc hi (.cells #[.slice a n cap] 26))
  have HN := Lib.hid hn
  have C1 := newC w (.slice a n cap) 26 (n := w.heap.size) rfl
  have HB := Lib.hid (Joins.below_alloc1 w (.cells #[.slice a n cap] 26))
  have T0 := Lib.hid (Below.refl (w.alloc (.cells #[.slice a n cap] 26)).heap.size (w.alloc (.cells #[.slice a n cap] 26)))
  clear hi hn
  cases hs : isS l s with
  | false =>
    have HS := Lib.hid hs
    rw [show perB l s = false by unfold perB; rw [hs]; rfl]
    clear hs
    go_enter Tryd.func10, Tryd.ntmps10
    go_wp2_with (go_at_call 33; refine (iSetIn_no _ _ _ _ _ _ HN.out hm (HI.out.below rfl T0.out) HS.out).mono ?_; rintro e w1 ⟨rfl, hb1⟩; have TA := Lib.hid ((HB.out.trans (hb1.mono (by simp))).alloc (Nat.le_trans (by simp) hb1.size) (.cells #[.int .i64 0, .int .i64 0, .int .i64 0] 46)); have HAL := Lib.hid (heap_alloc_new w1 (.cells #[.int .i64 0, .int .i64 0, .int .i64 0] 46)); obtain ⟨y0, y1, y2, _, _, _⟩ := trip_cell HAL.out)
    go_ret
    exact ⟨rfl, TA.out⟩
  | true =>
    have HS := Lib.hid hs
    obtain ⟨hg, s, rfl, hsn, hs24⟩ := isS_true hs
    rw [show perB l (s : Int) = decide (1 < stN l s) by unfold perB; rw [hs, Int.toNat_natCast]; rfl]
    have HST := Lib.hid (fun (W : World) => iStabN hg W s hsn)
    obtain ⟨p, EP⟩ : ∃ p, Hid (l.getD 0 1 = p) := ⟨_, Lib.hid rfl⟩
    obtain ⟨q, EQ⟩ : ∃ q, Hid (l.getD 1 1 = q) := ⟨_, Lib.hid rfl⟩
    obtain ⟨r, ER⟩ : ∃ r, Hid (l.getD 2 1 = r) := ⟨_, Lib.hid rfl⟩
    obtain ⟨S, hSS⟩ : ∃ S, stN l s = S := ⟨_, rfl⟩
    have hS1 : 1 ≤ S := by rw [← hSS]; exact bit0_pos (stN_bit0 hg hsn)
    rw [hSS]
    have HQ : Hid ((!((S : Int) == 1)) = decide (1 < S)) := Lib.hid (by
      by_cases h : S = 1
      · subst h; rfl
      · have h1 : ((S : Int) == 1) = false := by
          have : (S : Int) ≠ 1 := by omega
          simpa using this
        have h2 : 1 < S := by omega
        rw [h1]; simp [h2])
    rw [EP.out, EQ.out, ER.out] at HST
    rw [hSS] at HST
    clear hs hsn hg hSS
    go_enter Tryd.func10, Tryd.ntmps10
    go_wp2_with (first
      | (go_at_call 34; refine (HST.out _).mono ?_; rintro e w2 ⟨rfl, hb2⟩; have T2 := Lib.hid (TA.out.trans (hb2.mono TA.out.size)))
      | (go_at_call 33; refine (iSetIn_yes _ _ _ _ _ _ HN.out hm (HI.out.below rfl T0.out) HS.out).mono ?_; rw [EP.out, EQ.out, ER.out]; rintro e w1 ⟨rfl, hb1⟩; have TA := Lib.hid ((HB.out.trans (hb1.mono (by simp))).alloc (Nat.le_trans (by simp) hb1.size) (.cells #[.int .i64 p, .int .i64 q, .int .i64 r] 46)); have HAL := Lib.hid (heap_alloc_new w1 (.cells #[.int .i64 p, .int .i64 q, .int .i64 r] 46)); obtain ⟨y0, y1, y2, _, _, _⟩ := trip_cell HAL.out))
    go_ret
    exact ⟨by first | rfl | (rw [← HQ.out]; rfl) | (rw [← HQ.out]; simp) | (rw [← HQ.out]), T2.out⟩
set_option maxHeartbeats 2000000 in
theorem iPers (w : World) (a : Option Addr) (l : List Int) (n cap : Nat) (s : Int) (hn : n = l.length) (hm : n ≤ 9223372036854775807) (hi : Ints w a l) (B : Nat) (hB0 : B ≤ w.heap.size) (ht : TabZ B w) :
    Calls Tryd.prog 14 #[.agg #[.slice a n cap], .int .i64 s] w fun e w' => ∃ v, e = .returned v ∧ w'.ownsRow w.heap.size 3 1 v (perE l s).length ((perE l s).map (Value.int .i64)) ∧ Below w.heap.size w w' := by
  have HTZ := Lib.hid ht
  clear ht
  have HI := Lib.hid (ints_alloc hi (.cells #[.slice a n cap] 26))
  have HN := Lib.hid hn
  have C1 := newC w (.slice a n cap) 26 (n := w.heap.size) rfl
  have HB := Lib.hid (Joins.below_alloc1 w (.cells #[.slice a n cap] 26))
  have T0 := Lib.hid (Below.refl (w.alloc (.cells #[.slice a n cap] 26)).heap.size (w.alloc (.cells #[.slice a n cap] 26)))
  clear hi hn
  cases hs : isS l s with
  | false =>
    have HS := Lib.hid hs
    rw [show perE l s = [] by unfold perE; rw [if_neg (by simp [hs])]]
    clear hs
    go_enter Tryd.func14, Tryd.ntmps14
    go_wp2_with (go_at_call 33; refine (iSetIn_no _ _ _ _ _ _ HN.out hm (HI.out.below rfl T0.out) HS.out).mono ?_; rintro e w1 ⟨rfl, hb1⟩; have TA := Lib.hid ((HB.out.trans (hb1.mono (by simp))).alloc (Nat.le_trans (by simp) hb1.size) (.cells #[.int .i64 0, .int .i64 0, .int .i64 0] 46)); have HAL := Lib.hid (heap_alloc_new w1 (.cells #[.int .i64 0, .int .i64 0, .int .i64 0] 46)); obtain ⟨y0, y1, y2, _, _, _⟩ := trip_cell HAL.out)
    go_ret
    exact ⟨_, rfl, World.ownsRow_nil _ _ _ _, TA.out⟩
  | true =>
    have HS := Lib.hid hs
    obtain ⟨hg, s, rfl, hsn, hs24⟩ := isS_true hs
    rw [show perE l (s : Int) = LI (stN l s - 1) by unfold perE; rw [if_pos hs, Int.toNat_natCast]]
    have HST := Lib.hid (fun (W : World) => iStabN hg W s hsn)
    obtain ⟨p, EP⟩ : ∃ p, Hid (l.getD 0 1 = p) := ⟨_, Lib.hid rfl⟩
    obtain ⟨q, EQ⟩ : ∃ q, Hid (l.getD 1 1 = q) := ⟨_, Lib.hid rfl⟩
    obtain ⟨r, ER⟩ : ∃ r, Hid (l.getD 2 1 = r) := ⟨_, Lib.hid rfl⟩
    obtain ⟨S, hSS⟩ : ∃ S, stN l s = S := ⟨_, rfl⟩
    have HS24 : Hid (S < 16777216) := Lib.hid (by rw [← hSS]; exact stN_lt24 hg s)
    have HT24 : Hid (S - 1 < 16777216) := Lib.hid (by have := HS24.out; omega)
    have HWO : Hid (woN S 0 = S - 1) := Lib.hid (by rw [← hSS]; exact bit0_wo (stN_bit0 hg hsn))
    rw [hSS]
    have HLI : Hid ((LI (S - 1)).map (Value.int .i64) = lstN (bitsN (S - 1))) := Lib.hid (by simp [LI, lstN])
    have HLL := Lib.hid (LI_len (S - 1))
    rw [EP.out, EQ.out, ER.out] at HST
    rw [hSS] at HST
    clear hs hsn hg hSS
    go_enter Tryd.func14, Tryd.ntmps14
    go_wp2_with (first
      | (go_at_call 42; refine (iList _ (S - 1) HT24.out B (Nat.le_trans hB0 T2.out.size) (HTZ.out.on (T2.out.mono hB0))).mono ?_; rintro e w4 ⟨v4, rfl, ho4, hb4⟩)
      | (go_at_call 41; refine (iWithout _ S 0 HS24.out (by decide)).mono ?_; rw [HWO.out]; rintro e w3 ⟨rfl, rfl⟩)
      | (go_at_call 34; refine (HST.out _).mono ?_; rintro e w2 ⟨rfl, hb2⟩; have T2 := Lib.hid (TA.out.trans (hb2.mono TA.out.size)))
      | (go_at_call 33; refine (iSetIn_yes _ _ _ _ _ _ HN.out hm (HI.out.below rfl T0.out) HS.out).mono ?_; rw [EP.out, EQ.out, ER.out]; rintro e w1 ⟨rfl, hb1⟩; have TA := Lib.hid ((HB.out.trans (hb1.mono (by simp))).alloc (Nat.le_trans (by simp) hb1.size) (.cells #[.int .i64 p, .int .i64 q, .int .i64 r] 46)); have HAL := Lib.hid (heap_alloc_new w1 (.cells #[.int .i64 p, .int .i64 q, .int .i64 r] 46)); obtain ⟨y0, y1, y2, _, _, _⟩ := trip_cell HAL.out))
    go_ret
    exact ⟨_, rfl, by rw [HLI.out, HLL.out]; exact Joins.ownsRow_le ho4 T2.out.size, T2.out.trans (hb4.mono T2.out.size)⟩
end Go.Proofs.YtehdneppleifdaaDoor
