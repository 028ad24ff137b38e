/- Groups compared, element by element: the program's way and the document's. -/
import Derived.Test.YticgoodmfjjggaaGreatDoorGrpSpec6
import Derived.Test.YticgoodmfjjggaaGreatDoorGrpIs
import Derived.Deep.RegionHeld3
import Derived.Deep.DeepCutAuto
namespace Go.Proofs.YticgoodmfjjggaaGreatDoor
open Go.RowKit
set_option maxRecDepth 1000000
theorem list_same {la lb : List Int} (h : la.length = lb.length) (he : ∀ j, j < la.length → la.getD j 0 = lb.getD j 0) : la = lb := by
  apply List.ext_getElem h
  intro j h1 h2
  have := he j h1
  simpa [List.getD, h1, h2] using this
set_option maxHeartbeats 1000000 in
theorem slEq (w : World) (a b : Option Addr) (la lb : List Int) (n cap m cap2 : Nat) (hn : n = la.length) (hm : m = lb.length) (hl : n ≤ 9223372036854775807) (hl2 : m ≤ 9223372036854775807) (ha : Ints w a la) (hb : Ints w b lb) :
    Calls Tryz.prog 92 #[.slice a n cap, .slice b m cap2] w fun e w' => e = .returned (.bool (decide (la = lb))) ∧ Below w.heap.size w w' := by
  have HN := Lib.hid hn
  have HM := Lib.hid hm
  clear hn hm
  have HA := Lib.hid ha
  have HB := Lib.hid hb
  clear ha hb
  by_cases hnm : n = m
  · subst hnm
    go_enter Tryz.func92, Tryz.ntmps92
    go_wp2
    go_loopw [13] (fun i wr => ∃ k : Nat, k ≤ n ∧ i = .int .i64 k ∧ Hid (∀ j, j < k → la.getD j 0 = lb.getD j 0) ∧ Below w.heap.size w wr) (fun i _ => n - (intOf i).toNat)
    case atStart => exact ⟨0, Nat.zero_le _, rfl, Lib.hid (fun j h => by omega), Below.refl _ _⟩
    case round =>
      obtain ⟨k, hk, rfl, HE, hbel⟩ := hrel
      have hs := hbel.size
      by_cases hlt : k < n
      · have hka : k < la.length := by rw [← HN.out]; exact hlt
        have hkb : k < lb.length := by rw [← HM.out]; exact hlt
        rcases HA.out with h0 | ⟨x, off, h1, hbl, hc⟩
        · rw [h0] at hka; simp at hka
        rcases HB.out with h0 | ⟨x2, off2, h2, hbl2, hc2⟩
        · rw [h0] at hkb; simp at hkb
        subst h1 h2
        have r1 := keepC hbel (by simpa using hbl) (hc k hka)
        have r2 := keepC hbel (by simpa using hbl2) (hc2 k hkb)
        clear hc hc2
        by_cases he : la.getD k 0 = lb.getD k 0
        · have HE2 : Hid (∀ j, j < k + 1 → la.getD j 0 = lb.getD j 0) := Lib.hid (fun j hj => by
            by_cases e : j = k
            · rw [e]; exact he
            · exact HE.out j (by omega))
          rw [← he] at r2
          clear he hka hkb HE
          generalize la.getD k 0 = z at *
          have hz : (z != z) = false := by simp
          go_wp2
          go_quiet (fail)
          go_wp2
          go_roundw
          case rel => exact ⟨k + 1, by omega, by go_num, HE2, hbel.trans (Joins.below_draws _ _ _)⟩
          case measure => simp [intOf]; omega
        · have HF : Hid (decide (la = lb) = false) := Lib.hid (decide_eq_false (fun e => he (by rw [e])))
          have hz : (la.getD k 0 != lb.getD k 0) = true := by simpa using he
          clear he hka hkb HE
          generalize la.getD k 0 = z1 at *
          generalize lb.getD k 0 = z2 at *
          go_wp2
          go_quiet (fail)
          go_wp2
          go_ret
          exact ⟨by rw [HF.out]; rfl, hbel.trans (Joins.below_draws _ _ _)⟩
      · obtain rfl : k = n := by omega
        have HF : Hid (decide (la = lb) = true) := Lib.hid (decide_eq_true (list_same (by rw [← HN.out, ← HM.out]) (by rw [← HN.out]; exact HE.out)))
        go_wp2
        go_ret
        exact ⟨by rw [HF.out]; rfl, hbel⟩
  · have HF : Hid (decide (la = lb) = false) := Lib.hid (decide_eq_false (fun e => hnm (by rw [HN.out, HM.out, e])))
    have hz : ((n : Int) != (m : Int)) = true := by simp; omega
    clear hnm
    go_enter Tryz.func92, Tryz.ntmps92
    go_wp2
    go_ret
    exact ⟨by rw [HF.out]; rfl, Below.refl _ _⟩
set_option maxHeartbeats 1000000 in
theorem sEq (w : World) (a b : Option Addr) (la lb : List Int) (n cap m cap2 : Nat) (hn : n = la.length) (hm : m = lb.length) (hl : n ≤ 9223372036854775807) (hl2 : m ≤ 9223372036854775807) (ha : Ints w a la) (hb : Ints w b lb) :
    Calls Tryz.prog 26 #[.agg #[.slice a n cap], .agg #[.slice b m cap2]] w fun e w' => e = .returned (.bool (decide (la = lb))) ∧ Below w.heap.size w w' := by
  have HN := Lib.hid hn
  have HM := Lib.hid hm
  clear hn hm
  have HA := Lib.hid (ints_alloc (ints_alloc ha (.cells #[.slice a n cap] 26)) (.cells #[.slice b m cap2] 26))
  have HB := Lib.hid (ints_alloc (ints_alloc hb (.cells #[.slice a n cap] 26)) (.cells #[.slice b m cap2] 26))
  have C1 := keepC (Joins.below_alloc1 _ (.cells #[.slice b m cap2] 26)) (by simp) (newC w (.slice a n cap) 26 (n := w.heap.size) rfl)
  have C2 := newC (w.alloc (.cells #[.slice a n cap] 26)) (.slice b m cap2) 26 (n := w.heap.size + 1) (by simp)
  have HBB := Lib.hid (Joins.below_alloc2 w (.cells #[.slice a n cap] 26) (.cells #[.slice b m cap2] 26))
  clear ha hb
  by_cases hnm : n = m
  · subst hnm
    go_enter Tryz.func26, Tryz.ntmps26
    go_wp2
    go_loopw [5] (fun i wr => ∃ k : Nat, k ≤ n ∧ i = .int .i64 k ∧ Hid (∀ j, j < k → la.getD j 0 = lb.getD j 0) ∧ Below (w.heap.size + 1 + 1) ((w.alloc (.cells #[.slice a n cap] 26)).alloc (.cells #[.slice b n cap2] 26)) wr) (fun i _ => n - (intOf i).toNat)
    case atStart => exact ⟨0, Nat.zero_le _, rfl, Lib.hid (fun j h => by omega), by simpa using Below.refl ((w.alloc (.cells #[.slice a n cap] 26)).alloc (.cells #[.slice b n cap2] 26)).heap.size ((w.alloc (.cells #[.slice a n cap] 26)).alloc (.cells #[.slice b n cap2] 26))⟩
    case round =>
      obtain ⟨k, hk, rfl, HE, hbel⟩ := hrel
      have c1 := keepC hbel (by simp <;> omega) C1
      have c2 := keepC hbel (by simp <;> omega) C2
      by_cases hlt : k < n
      · have hka : k < la.length := by rw [← HN.out]; exact hlt
        have hkb : k < lb.length := by rw [← HM.out]; exact hlt
        rcases HA.out with h0 | ⟨x, off, h1, hbl, hc⟩
        · rw [h0] at hka; simp at hka
        rcases HB.out with h0 | ⟨x2, off2, h2, hbl2, hc2⟩
        · rw [h0] at hkb; simp at hkb
        subst h1 h2
        have r1 := keepC hbel (by simpa using hbl) (hc k hka)
        have r2 := keepC hbel (by simpa using hbl2) (hc2 k hkb)
        clear hc hc2
        by_cases he : la.getD k 0 = lb.getD k 0
        · have HE2 : Hid (∀ j, j < k + 1 → la.getD j 0 = lb.getD j 0) := Lib.hid (fun j hj => by
            by_cases e : j = k
            · rw [e]; exact he
            · exact HE.out j (by omega))
          rw [← he] at r2
          clear he hka hkb HE
          generalize la.getD k 0 = z at *
          have hz : (z != z) = false := by simp
          go_wp2
          go_quiet (fail)
          go_wp2
          go_roundw
          case rel => exact ⟨k + 1, by omega, by go_num, HE2, hbel.trans (Joins.below_draws _ _ _)⟩
          case measure => simp [intOf]; omega
        · have HF : Hid (decide (la = lb) = false) := Lib.hid (decide_eq_false (fun e => he (by rw [e])))
          have hz : (la.getD k 0 != lb.getD k 0) = true := by simpa using he
          clear he hka hkb HE
          generalize la.getD k 0 = z1 at *
          generalize lb.getD k 0 = z2 at *
          go_wp2
          go_quiet (fail)
          go_wp2
          go_ret
          exact ⟨by rw [HF.out]; rfl, HBB.out.trans ((hbel.trans (Joins.below_draws _ _ _)).mono (by omega))⟩
      · obtain rfl : k = n := by omega
        have HF : Hid (decide (la = lb) = true) := Lib.hid (decide_eq_true (list_same (by rw [← HN.out, ← HM.out]) (by rw [← HN.out]; exact HE.out)))
        go_wp2
        go_ret
        exact ⟨by rw [HF.out]; rfl, HBB.out.trans (hbel.mono (by omega))⟩
  · have HF : Hid (decide (la = lb) = false) := Lib.hid (decide_eq_false (fun e => hnm (by rw [HN.out, HM.out, e])))
    have hz : ((n : Int) != (m : Int)) = true := by simp; omega
    clear hnm
    go_enter Tryz.func26, Tryz.ntmps26
    go_wp2
    go_ret
    exact ⟨by rw [HF.out]; rfl, HBB.out⟩
theorem iEq (w : World) (a b : Option Addr) (la lb : List Int) (n cap m cap2 : Nat) (hn : n = la.length) (hm : m = lb.length) (hl : n ≤ 9223372036854775807) (hl2 : m ≤ 9223372036854775807) (ha : Ints w a la) (hb : Ints w b lb) :
    Calls Tryz.prog 37 #[.agg #[.slice a n cap], .agg #[.slice b m cap2]] w fun e w' => e = .returned (.bool (decide (la = lb))) ∧ Below w.heap.size w w' := by
  have HN := Lib.hid hn
  have HM := Lib.hid hm
  clear hn hm
  have HA := Lib.hid (ints_alloc (ints_alloc ha (.cells #[.slice a n cap] 26)) (.cells #[.slice b m cap2] 26))
  have HB := Lib.hid (ints_alloc (ints_alloc hb (.cells #[.slice a n cap] 26)) (.cells #[.slice b m cap2] 26))
  have C1 := keepC (Joins.below_alloc1 _ (.cells #[.slice b m cap2] 26)) (by simp) (newC w (.slice a n cap) 26 (n := w.heap.size) rfl)
  have C2 := newC (w.alloc (.cells #[.slice a n cap] 26)) (.slice b m cap2) 26 (n := w.heap.size + 1) (by simp)
  have HBB := Lib.hid (Joins.below_alloc2 w (.cells #[.slice a n cap] 26) (.cells #[.slice b m cap2] 26))
  clear ha hb
  go_enter Tryz.func37, Tryz.ntmps37
  go_wp2_with (go_at_call 92; refine (slEq _ _ _ la lb _ _ _ _ HN.out HM.out hl hl2 HA.out HB.out).mono ?_; rintro e w1 ⟨rfl, hb1⟩)
  go_ret
  exact ⟨rfl, HBB.out.trans (hb1.mono (by simp <;> omega))⟩
end Go.Proofs.YticgoodmfjjggaaGreatDoor
