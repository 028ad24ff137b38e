/- The law on EqualGroups: slices compared element by element, and the law's own walk. -/
import Derived.Test.YtnacckpagbcllabGrpBase
import Derived.Deep.RegionHeld3
import Derived.Deep.DeepCutAuto
namespace Go.Proofs.Ytnacckpagbcllab
open Go.RowKit
theorem below_grown {w w' : World} (h : Below w.heap.size w w') (row : Option Nat) : w.grownBy w' row := ⟨h.os, h.tape, h.output, h.size, fun k hk _ => h.block k hk⟩
theorem owns_below {w w' : World} {B n : Nat} {e : TypeId} {v : Value} {xs : List Value} (h : w.ownsRow B e 1 v n xs) (hb : Below w.heap.size w w') : w'.ownsRow B e 1 v n xs :=
  h.kept (below_grown hb none) (by cases hv : v.ownBlock with
    | none => exact .inl rfl
    | some g => exact .inr (by simp))
theorem keepD {w w' : World} {p : Addr} {v : Value} (hb : Below w.heap.size w w') (h : w.cell? p = some v) : w'.cell? p = some v := keepC hb (World.block_lt_of_cell? w _ h) h
theorem list_same {la lb : List Int} (h : la.length = lb.length) (he : ∀ j, j < la.length → la.getD j 0 = lb.getD j 0) : la = lb := by
  apply List.ext_getElem h
  intro j h1 h2
  have := he j h1
  simpa [List.getD, h1, h2] using this
set_option maxHeartbeats 1000000 in
theorem slEq (w : World) (a b : Option Addr) (la lb : List Int) (n cap m cap2 : Nat) (hn : n = la.length) (hm : m = lb.length) (hl : n ≤ 9223372036854775807) (hl2 : m ≤ 9223372036854775807) (ha : Ints w a la) (hb : Ints w b lb) :
    Calls Try.prog 11 #[.slice a n cap, .slice b m cap2] w fun e w' => e = .returned (.bool (decide (la = lb))) ∧ Below w.heap.size w w' := by
  have HN := Lib.hid hn
  have HM := Lib.hid hm
  clear hn hm
  have HA := Lib.hid ha
  have HB := Lib.hid hb
  clear ha hb
  by_cases hnm : n = m
  · subst hnm
    go_enter Try.func11, Try.ntmps11
    go_wp2
    go_loopw [13] (fun i wr => ∃ k : Nat, k ≤ n ∧ i = .int .i64 k ∧ Hid (∀ j, j < k → la.getD j 0 = lb.getD j 0) ∧ Below w.heap.size w wr) (fun i _ => n - (intOf i).toNat)
    case atStart => exact ⟨0, Nat.zero_le _, rfl, Lib.hid (fun j h => by omega), Below.refl _ _⟩
    case round =>
      obtain ⟨k, hk, rfl, HE, hbel⟩ := hrel
      have hs := hbel.size
      by_cases hlt : k < n
      · have hka : k < la.length := by rw [← HN.out]; exact hlt
        have hkb : k < lb.length := by rw [← HM.out]; exact hlt
        rcases HA.out with h0 | ⟨x, off, h1, hbl, hc⟩
        · rw [h0] at hka; simp at hka
        rcases HB.out with h0 | ⟨x2, off2, h2, hbl2, hc2⟩
        · rw [h0] at hkb; simp at hkb
        subst h1 h2
        have r1 := keepC hbel (by simpa using hbl) (hc k hka)
        have r2 := keepC hbel (by simpa using hbl2) (hc2 k hkb)
        clear hc hc2
        by_cases he : la.getD k 0 = lb.getD k 0
        · have HE2 : Hid (∀ j, j < k + 1 → la.getD j 0 = lb.getD j 0) := Lib.hid (fun j hj => by
            by_cases e : j = k
            · rw [e]; exact he
            · exact HE.out j (by omega))
          rw [← he] at r2
          clear he hka hkb HE
          generalize la.getD k 0 = z at *
          have hz : (z != z) = false := by simp
          go_wp2
          go_quiet (fail)
          go_wp2
          go_roundw
          case rel => exact ⟨k + 1, by omega, by go_num, HE2, hbel.trans (Joins.below_draws _ _ _)⟩
          case measure => simp [intOf]; omega
        · have HF : Hid (decide (la = lb) = false) := Lib.hid (decide_eq_false (fun e => he (by rw [e])))
          have hz : (la.getD k 0 != lb.getD k 0) = true := by simpa using he
          clear he hka hkb HE
          generalize la.getD k 0 = z1 at *
          generalize lb.getD k 0 = z2 at *
          go_wp2
          go_quiet (fail)
          go_wp2
          go_ret
          exact ⟨by rw [HF.out]; rfl, hbel.trans (Joins.below_draws _ _ _)⟩
      · obtain rfl : k = n := by omega
        have HF : Hid (decide (la = lb) = true) := Lib.hid (decide_eq_true (list_same (by rw [← HN.out, ← HM.out]) (by rw [← HN.out]; exact HE.out)))
        go_wp2
        go_ret
        exact ⟨by rw [HF.out]; rfl, hbel⟩
  · have HF : Hid (decide (la = lb) = false) := Lib.hid (decide_eq_false (fun e => hnm (by rw [HN.out, HM.out, e])))
    have hz : ((n : Int) != (m : Int)) = true := by simp; omega
    clear hnm
    go_enter Try.func11, Try.ntmps11
    go_wp2
    go_ret
    exact ⟨by rw [HF.out]; rfl, Below.refl _ _⟩
set_option maxHeartbeats 1000000 in
theorem sEq (w : World) (a b : Option Addr) (la lb : List Int) (n cap m cap2 : Nat) (hn : n = la.length) (hm : m = lb.length) (hl : n ≤ 9223372036854775807) (hl2 : m ≤ 9223372036854775807) (ha : Ints w a la) (hb : Ints w b lb) :
    Calls Try.prog 5 #[.agg #[.slice a n cap], .agg #[.slice b m cap2]] w fun e w' => e = .returned (.bool (decide (la = lb))) ∧ Below w.heap.size w w' := by
  have HN := Lib.hid hn
  have HM := Lib.hid hm
  clear hn hm
  have HA := Lib.hid (ints_alloc (ints_alloc ha (.cells #[.slice a n cap] 27)) (.cells #[.slice b m cap2] 27))
  have HB := Lib.hid (ints_alloc (ints_alloc hb (.cells #[.slice a n cap] 27)) (.cells #[.slice b m cap2] 27))
  have C1 := keepC (Joins.below_alloc1 _ (.cells #[.slice b m cap2] 27)) (by simp) (newC w (.slice a n cap) 27 (n := w.heap.size) rfl)
  have C2 := newC (w.alloc (.cells #[.slice a n cap] 27)) (.slice b m cap2) 27 (n := w.heap.size + 1) (by simp)
  have HBB := Lib.hid (Joins.below_alloc2 w (.cells #[.slice a n cap] 27) (.cells #[.slice b m cap2] 27))
  clear ha hb
  by_cases hnm : n = m
  · subst hnm
    go_enter Try.func5, Try.ntmps5
    go_wp2
    go_loopw [5] (fun i wr => ∃ k : Nat, k ≤ n ∧ i = .int .i64 k ∧ Hid (∀ j, j < k → la.getD j 0 = lb.getD j 0) ∧ Below (w.heap.size + 1 + 1) ((w.alloc (.cells #[.slice a n cap] 27)).alloc (.cells #[.slice b n cap2] 27)) wr) (fun i _ => n - (intOf i).toNat)
    case atStart => exact ⟨0, Nat.zero_le _, rfl, Lib.hid (fun j h => by omega), by simpa using Below.refl ((w.alloc (.cells #[.slice a n cap] 27)).alloc (.cells #[.slice b n cap2] 27)).heap.size ((w.alloc (.cells #[.slice a n cap] 27)).alloc (.cells #[.slice b n cap2] 27))⟩
    case round =>
      obtain ⟨k, hk, rfl, HE, hbel⟩ := hrel
      have c1 := keepC hbel (by simp <;> omega) C1
      have c2 := keepC hbel (by simp <;> omega) C2
      by_cases hlt : k < n
      · have hka : k < la.length := by rw [← HN.out]; exact hlt
        have hkb : k < lb.length := by rw [← HM.out]; exact hlt
        rcases HA.out with h0 | ⟨x, off, h1, hbl, hc⟩
        · rw [h0] at hka; simp at hka
        rcases HB.out with h0 | ⟨x2, off2, h2, hbl2, hc2⟩
        · rw [h0] at hkb; simp at hkb
        subst h1 h2
        have r1 := keepC hbel (by simpa using hbl) (hc k hka)
        have r2 := keepC hbel (by simpa using hbl2) (hc2 k hkb)
        clear hc hc2
        by_cases he : la.getD k 0 = lb.getD k 0
        · have HE2 : Hid (∀ j, j < k + 1 → la.getD j 0 = lb.getD j 0) := Lib.hid (fun j hj => by
            by_cases e : j = k
            · rw [e]; exact he
            · exact HE.out j (by omega))
          rw [← he] at r2
          clear he hka hkb HE
          generalize la.getD k 0 = z at *
          have hz : (z != z) = false := by simp
          go_wp2
          go_quiet (fail)
          go_wp2
          go_roundw
          case rel => exact ⟨k + 1, by omega, by go_num, HE2, hbel.trans (Joins.below_draws _ _ _)⟩
          case measure => simp [intOf]; omega
        · have HF : Hid (decide (la = lb) = false) := Lib.hid (decide_eq_false (fun e => he (by rw [e])))
          have hz : (la.getD k 0 != lb.getD k 0) = true := by simpa using he
          clear he hka hkb HE
          generalize la.getD k 0 = z1 at *
          generalize lb.getD k 0 = z2 at *
          go_wp2
          go_quiet (fail)
          go_wp2
          go_ret
          exact ⟨by rw [HF.out]; rfl, HBB.out.trans ((hbel.trans (Joins.below_draws _ _ _)).mono (by omega))⟩
      · obtain rfl : k = n := by omega
        have HF : Hid (decide (la = lb) = true) := Lib.hid (decide_eq_true (list_same (by rw [← HN.out, ← HM.out]) (by rw [← HN.out]; exact HE.out)))
        go_wp2
        go_ret
        exact ⟨by rw [HF.out]; rfl, HBB.out.trans (hbel.mono (by omega))⟩
  · have HF : Hid (decide (la = lb) = false) := Lib.hid (decide_eq_false (fun e => hnm (by rw [HN.out, HM.out, e])))
    have hz : ((n : Int) != (m : Int)) = true := by simp; omega
    clear hnm
    go_enter Try.func5, Try.ntmps5
    go_wp2
    go_ret
    exact ⟨by rw [HF.out]; rfl, HBB.out⟩
theorem iEq (w : World) (a b : Option Addr) (la lb : List Int) (n cap m cap2 : Nat) (hn : n = la.length) (hm : m = lb.length) (hl : n ≤ 9223372036854775807) (hl2 : m ≤ 9223372036854775807) (ha : Ints w a la) (hb : Ints w b lb) :
    Calls Try.prog 7 #[.agg #[.slice a n cap], .agg #[.slice b m cap2]] w fun e w' => e = .returned (.bool (decide (la = lb))) ∧ Below w.heap.size w w' := by
  have HN := Lib.hid hn
  have HM := Lib.hid hm
  clear hn hm
  have HA := Lib.hid (ints_alloc (ints_alloc ha (.cells #[.slice a n cap] 27)) (.cells #[.slice b m cap2] 27))
  have HB := Lib.hid (ints_alloc (ints_alloc hb (.cells #[.slice a n cap] 27)) (.cells #[.slice b m cap2] 27))
  have C1 := keepC (Joins.below_alloc1 _ (.cells #[.slice b m cap2] 27)) (by simp) (newC w (.slice a n cap) 27 (n := w.heap.size) rfl)
  have C2 := newC (w.alloc (.cells #[.slice a n cap] 27)) (.slice b m cap2) 27 (n := w.heap.size + 1) (by simp)
  have HBB := Lib.hid (Joins.below_alloc2 w (.cells #[.slice a n cap] 27) (.cells #[.slice b m cap2] 27))
  clear ha hb
  go_enter Try.func7, Try.ntmps7
  go_wp2_with (go_at_call 11; refine (slEq _ _ _ la lb _ _ _ _ HN.out HM.out hl hl2 HA.out HB.out).mono ?_; rintro e w1 ⟨rfl, hb1⟩)
  go_ret
  exact ⟨rfl, HBB.out.trans (hb1.mono (by simp <;> omega))⟩
set_option maxHeartbeats 1000000 in
theorem walkEqualGroups (w : World) (a : Option Addr) (la : List Int) (n cap : Nat) (b : Option Addr) (lb : List Int) (m cap2 : Nat) (hn : n = la.length) (hl : n ≤ 9223372036854775807) (ha : Ints w a la) (hm : m = lb.length) (hl2 : m ≤ 9223372036854775807) (hb : Ints w b lb) :
    Calls Try.prog 3 #[.agg #[.slice a n cap], .agg #[.slice b m cap2]] w fun e w' => e = .returned (.bool true) ∧ Below w.heap.size w w' := by
  have HN := Lib.hid hn
  have HM := Lib.hid hm
  have HA := Lib.hid (ints_alloc (ints_alloc ha (.cells #[.slice a n cap] 24)) (.cells #[.slice b m cap2] 24))
  have HB := Lib.hid (ints_alloc (ints_alloc hb (.cells #[.slice a n cap] 24)) (.cells #[.slice b m cap2] 24))
  have C1 := keepC (Joins.below_alloc1 _ (.cells #[.slice b m cap2] 24)) (by simp) (newC w (.slice a n cap) 24 (n := w.heap.size) rfl)
  have C2 := newC (w.alloc (.cells #[.slice a n cap] 24)) (.slice b m cap2) 24 (n := w.heap.size + 1) (by simp)
  have HBB := Lib.hid (Joins.below_alloc2 w (.cells #[.slice a n cap] 24) (.cells #[.slice b m cap2] 24))
  have T0 := Lib.hid (Below.refl ((w.alloc (.cells #[.slice a n cap] 24)).alloc (.cells #[.slice b m cap2] 24)).heap.size ((w.alloc (.cells #[.slice a n cap] 24)).alloc (.cells #[.slice b m cap2] 24)))
  clear hn hm ha hb
  by_cases hbig : n ≤ 1048576
  · have hleft : (n : Int) ≤ 1048576 := by omega
    have hleft0 : (1048576 : Int) - n ≤ 1048576 := by omega
    have hleft1 : 0 ≤ (1048576 : Int) - n := by omega
    by_cases hbig2 : (m : Int) ≤ 1048576 - n
    · have hb2 : m ≤ 1048576 := by omega
      go_enter Try.func3, Try.ntmps3
      go_upto_region 8 with (first
        | (go_at_call 4; have hx_ := T1; clear hx_; refine (szGroup_no _ _ _ _ (1048576 - (n : Int)) hleft0 hbig2).mono ?_; rintro e w2 ⟨rfl, hb2'⟩; have T2 := Lib.hid (T1.out.trans (hb2'.mono T1.out.size)); have c2 := keepC T2.out (by simp <;> omega) C1; have e2 := keepC T2.out (by simp <;> omega) C2)
        | (go_at_call 4; refine (szGroup_no _ _ _ _ 1048576 (by decide) hleft).mono ?_; rintro e w1 ⟨rfl, hb1⟩; have T1 := Lib.hid (T0.out.trans (hb1.mono T0.out.size)); have c1 := keepC T1.out (by simp <;> omega) C1; have e1 := keepC T1.out (by simp <;> omega) C2))
      have TD := Lib.hid T2.out.drew
      go_region_held3 (fun W => W.cell? ⟨w.heap.size, 0, none⟩ = some (.slice a n cap) ∧ W.cell? ⟨w.heap.size + 1, 0, none⟩ = some (.slice b m cap2)) (first | exact ⟨c5, e5⟩ | exact ⟨c4, e4⟩ | exact ⟨c3, e3⟩ | exact ⟨c2, e2⟩)
        (first
        | (go_at_call 5; refine (sEq _ _ _ la lb _ _ _ _ HN.out HM.out hl hl2 ((ints_own (by rw [← HN.out]; exact O4a.out))) ((ints_own (by rw [← HM.out]; exact O4b.out)))).mono ?_; rintro e w5 ⟨rfl, hb5⟩; have T5 := Lib.hid (T4.out.trans (hb5.mono T4.out.size)); have c5 := keepC T5.out (by simp <;> omega) C1; have e5 := keepC T5.out (by simp <;> omega) C2)
        | (go_at_call 6; have hx_ := T3; clear hx_; refine (toGroup_any _ _ _ _ _ HM.out hb2 (HB.out.below rfl T3.out)).mono ?_; rintro e w4 ⟨g4, rfl, ho4, hb4⟩; have T4 := Lib.hid (T3.out.trans (hb4.mono T3.out.size)); have O4a := Lib.hid (owns_below O3.out hb4); have O4b := Lib.hid ho4; have c4 := keepC T4.out (by simp <;> omega) C1; have e4 := keepC T4.out (by simp <;> omega) C2)
        | (go_at_call 6; refine (toGroup_any _ _ _ _ _ HN.out hbig (HA.out.below rfl TD.out)).mono ?_; rintro e w3 ⟨g3, rfl, ho3, hb3⟩; have T3 := Lib.hid (TD.out.trans (hb3.mono TD.out.size)); have O3 := Lib.hid ho3; have c3 := keepC T3.out (by simp <;> omega) C1; have e3 := keepC T3.out (by simp <;> omega) C2))
      go_upto_region 14 with (first
        | (go_at_call 7; refine (iEq _ _ _ la lb _ _ _ _ HN.out HM.out hl hl2 ((ints_own (by rw [← HN.out]; exact O7a.out))) ((ints_own (by rw [← HM.out]; exact O7b.out)))).mono ?_; rintro e w8 ⟨rfl, hb8⟩; have T8 := Lib.hid (T7.out.trans (hb8.mono T7.out.size)); have O8a := Lib.hid (owns_below O7a.out hb8); have O8b := Lib.hid (owns_below O7b.out hb8); have c8 := keepC T8.out (by simp <;> omega) C1; have e8 := keepC T8.out (by simp <;> omega) C2; have d8 := keepC (hb8) (Nat.lt_of_lt_of_le (by simp <;> omega) (Nat.le_trans UA.out.size (by simp))) d7; have f8 := keepC hb8 (by simp) f7)
        | (go_at_call 6; have hx_ := T6; clear hx_; refine (toGroup_any _ _ _ _ _ HM.out hb2 (HB.out.below rfl T6.out)).mono ?_; rintro e w7 ⟨gb, rfl, ho7, hb7⟩; have UA := Lib.hid (U6.out.trans (hb7.mono U6.out.size)); have T7 := Lib.hid ((T6.out.trans (hb7.mono T6.out.size)).alloc (Nat.le_trans T6.out.size hb7.size) (.cells #[.slice (some ⟨gb, 0, none⟩) m m] 27)); have O7a := Lib.hid (owns_below (owns_below O6.out hb7) (Joins.below_alloc1 w7 (.cells #[.slice (some ⟨gb, 0, none⟩) m m] 27))); have O7b := Lib.hid (owns_below ho7 (Joins.below_alloc1 w7 (.cells #[.slice (some ⟨gb, 0, none⟩) m m] 27))); have c7 := keepC T7.out (by simp <;> omega) C1; have e7 := keepC T7.out (by simp <;> omega) C2; have d7 := keepC (Joins.below_alloc1 w7 (.cells #[.slice (some ⟨gb, 0, none⟩) m m] 27)) (Nat.lt_of_lt_of_le (by simp) UA.out.size) (keepC UA.out (by simp) D6); have f7 := newC w7 (.slice (some ⟨gb, 0, none⟩) m m) 27 (n := w7.heap.size) rfl)
        | (go_at_call 6; refine (toGroup_any _ _ _ _ _ HN.out hbig (HA.out.below rfl T5.out)).mono ?_; rintro e w6 ⟨ga, rfl, ho6, hb6⟩; have T6 := Lib.hid ((T5.out.trans (hb6.mono T5.out.size)).alloc (Nat.le_trans T5.out.size hb6.size) (.cells #[.slice (some ⟨ga, 0, none⟩) n n] 27)); have O6 := Lib.hid (owns_below ho6 (Joins.below_alloc1 w6 (.cells #[.slice (some ⟨ga, 0, none⟩) n n] 27))); have D6 := newC w6 (.slice (some ⟨ga, 0, none⟩) n n) 27 (n := w6.heap.size) rfl; have U6 := Lib.hid (Below.refl (w6.alloc (.cells #[.slice (some ⟨ga, 0, none⟩) n n] 27)).heap.size (w6.alloc (.cells #[.slice (some ⟨ga, 0, none⟩) n n] 27))); have c6 := keepC T6.out (by simp <;> omega) C1; have e6 := keepC T6.out (by simp <;> omega) C2))
      have Y0 := Lib.hid (Below.drew (Below.refl w8.heap.size w8))
      have TE := Lib.hid T8.out.drew
      have OD := Lib.hid O8a.out.drew
      have PD := Lib.hid O8b.out.drew
      go_region_held3 (fun W => W.cell? ⟨w.heap.size, 0, none⟩ = some (.slice a n cap) ∧ W.cell? ⟨w6.heap.size, 0, none⟩ = some (.slice (some ⟨ga, 0, none⟩) n n)) (first | exact ⟨c10, d10⟩ | exact ⟨c9, d9⟩ | exact ⟨c8, d8⟩)
        (first
        | (go_at_call 8; have hx_ := T9; clear hx_; refine (eqGroup_same _ _ _ _ _ _ _ HN.out hbig ((ints_own (by rw [← HN.out]; exact OD.out)).below rfl hb9) (ints_own (by rw [← HN.out]; exact P9.out))).mono ?_; rintro e w10 ⟨rfl, hb10⟩; have T10 := Lib.hid (T9.out.trans (hb10.mono T9.out.size)); have Y10 := Lib.hid (Y9.out.trans (hb10.mono Y9.out.size)); have O10 := Lib.hid (owns_below O9.out hb10); have c10 := keepD Y10.out c8; have d10 := keepD Y10.out d8; have e10 := keepD Y10.out e8; have f10 := keepD Y10.out f8)
        | (go_at_call 6; refine (toGroup_any _ _ _ _ _ HN.out hbig (HA.out.below rfl TE.out)).mono ?_; rintro e w9 ⟨g9, rfl, ho9, hb9⟩; have P9 := Lib.hid ho9; have T9 := Lib.hid (TE.out.trans (hb9.mono TE.out.size)); have Y9 := Lib.hid (Y0.out.trans (hb9.mono Y0.out.size)); have O9 := Lib.hid (owns_below PD.out hb9); have c9 := keepD Y9.out c8; have d9 := keepD Y9.out d8))
      go_upto_region 16 with (fail)
      have Z0 := Lib.hid (Below.drew (Below.refl w10.heap.size w10))
      have TF := Lib.hid T10.out.drew
      have PF := Lib.hid O10.out.drew
      go_region_held3 (fun W => W.cell? ⟨w.heap.size + 1, 0, none⟩ = some (.slice b m cap2) ∧ W.cell? ⟨w7.heap.size, 0, none⟩ = some (.slice (some ⟨gb, 0, none⟩) m m)) (first | exact ⟨e12, f12⟩ | exact ⟨e11, f11⟩ | exact ⟨e10, f10⟩)
        (first
        | (go_at_call 8; have hx_ := T11; clear hx_; refine (eqGroup_same _ _ _ _ _ _ _ HM.out hb2 ((ints_own (by rw [← HM.out]; exact PF.out)).below rfl hb11) (ints_own (by rw [← HM.out]; exact P11.out))).mono ?_; rintro e w12 ⟨rfl, hb12⟩; have T12 := Lib.hid (T11.out.trans (hb12.mono T11.out.size)); have Z12 := Lib.hid (Z11.out.trans (hb12.mono Z11.out.size)); have e12 := keepD Z12.out e10; have f12 := keepD Z12.out f10)
        | (go_at_call 6; refine (toGroup_any _ _ _ _ _ HM.out hb2 (HB.out.below rfl TF.out)).mono ?_; rintro e w11 ⟨g11, rfl, ho11, hb11⟩; have P11 := Lib.hid ho11; have T11 := Lib.hid (TF.out.trans (hb11.mono TF.out.size)); have Z11 := Lib.hid (Z0.out.trans (hb11.mono Z0.out.size)); have e11 := keepD Z11.out e10; have f11 := keepD Z11.out f10))
      go_wp2
      go_ret
      exact ⟨rfl, HBB.out.trans (T12.out.mono (by simp <;> omega))⟩
    · have hgt : (1048576 : Int) - n < m := by omega
      go_enter Try.func3, Try.ntmps3
      go_wp2_with (first
        | (go_at_call 4; have hx_ := T1; clear hx_; refine (szGroup_yes _ _ _ _ (1048576 - (n : Int)) hleft1 hl2 hgt).mono ?_; rintro e w2 ⟨rfl, hb2'⟩; have T2 := Lib.hid (T1.out.trans (hb2'.mono T1.out.size)))
        | (go_at_call 4; refine (szGroup_no _ _ _ _ 1048576 (by decide) hleft).mono ?_; rintro e w1 ⟨rfl, hb1⟩; have T1 := Lib.hid (T0.out.trans (hb1.mono T0.out.size)); have c1 := keepC T1.out (by simp <;> omega) C1; have e1 := keepC T1.out (by simp <;> omega) C2))
      go_ret
      exact ⟨rfl, HBB.out.trans (T2.out.mono (by simp <;> omega))⟩
  · have hgt : (1048576 : Int) < n := by omega
    go_enter Try.func3, Try.ntmps3
    go_wp2_with (first
      | (go_at_call 4; refine (szGroup_yes _ _ _ _ 1048576 (by decide) hl hgt).mono ?_; rintro e w1 ⟨rfl, hb1⟩; have T1 := Lib.hid (T0.out.trans (hb1.mono T0.out.size))))
    go_ret
    exact ⟨rfl, HBB.out.trans (T1.out.mono (by simp <;> omega))⟩
end Go.Proofs.Ytnacckpagbcllab
