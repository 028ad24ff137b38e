/- The contracts of the document's reading of groups (spec): IsGroup, the order, elements. -/
import Derived.Test.YtfkleihnafeoeaaGreatDoorGrpMath
namespace Go.Proofs.YtfkleihnafeoeaaGreatDoor
open Go.RowKit
set_option maxRecDepth 1000000
theorem sIn (w : World) (x lo hi : Int) (r : Bool) (h : r = (decide (lo ≤ x) && decide (x ≤ hi))) :
    Calls Tryz.prog 55 #[.int .i64 x, .int .i64 lo, .int .i64 hi] w fun e w' => e = .returned (.bool r) ∧ w = w' := by
  subst h
  by_cases h1 : lo ≤ x <;> by_cases h2 : x ≤ hi <;> simp only [h1, h2, decide_true, decide_false, Bool.and_true, Bool.and_false]
  all_goals
    go_enter Tryz.func55, Tryz.ntmps55
    go_wp2
    go_ret
    exact ⟨rfl, rfl⟩
theorem sIsGroup (w : World) (a : Option Addr) (l : List Int) (n cap : Nat) (hn : n = l.length) (hm : n ≤ 9223372036854775807) (hi : Ints w a l) :
    Calls Tryz.prog 66 #[.agg #[.slice a n cap]] w fun e w' => e = .returned (.bool (grpB l)) ∧ Below w.heap.size w w' := by
  have HI := Lib.hid hi
  have HN := Lib.hid hn
  clear hi hn
  have C1 := newC w (.slice a n cap) 26 (n := w.heap.size) rfl
  go_enter Tryz.func66, Tryz.ntmps66
  go_wp2
  go_loop [3, 4] (fun p i => ∃ k : Nat, k ≤ n ∧ k ≤ 3 ∧ i = .int .i64 k ∧ p = .int .i64 (PK l k) ∧ Hid (∀ j, j < k → 2 ≤ l.getD j 0 ∧ l.getD j 0 ≤ 24)) (fun _ i => n - (intOf i).toNat)
  case atStart => exact ⟨0, by omega, by omega, rfl, by rw [PK_zero], Lib.hid (fun j h => by omega)⟩
  case round =>
    obtain ⟨k, hk, hk3, rfl, rfl, HR⟩ := hrel
    have hkl : k ≤ l.length := by rw [← HN.out]; exact hk
    have hsm := PK_small l k hkl hk3 HR.out
    have HB := Lib.hid (Joins.below_alloc1 w (.cells #[.slice a n cap] 26))
    by_cases hlt : k < n
    · have hkl2 : k < l.length := by rw [← HN.out]; exact hlt
      rcases HI.out with h0 | ⟨b, off, h1, hbl, hc⟩
      · rw [h0] at hkl2; simp at hkl2
      · subst h1
        have r1 : (w.alloc (.cells #[.slice (some ⟨b, off, none⟩) n cap] 26)).cell? ⟨b, off + k, none⟩ = some (.int .i64 (l.getD k 0)) := keepC (Joins.below_alloc1 w _) (by simpa using hbl) (hc k hkl2)
        clear hc hkl
        have HS := Lib.hid (PK_succ l k hkl2)
        by_cases hin : 2 ≤ l.getD k 0 ∧ l.getD k 0 ≤ 24
        · obtain ⟨hi1, hi2⟩ := hin
          have HX := Lib.hid (And.intro hi1 hi2)
          by_cases h2 : k ≤ 2
          · have hP := mul_bnd hsm.1 hsm.2 (show 1 ≤ l.getD k 0 by omega) hi2
            have HR2 : Hid (∀ j, j < k + 1 → 2 ≤ l.getD j 0 ∧ l.getD j 0 ≤ 24) := Lib.hid (fun j hj => by
              rcases Nat.lt_or_ge j k with h | h
              · exact HR.out j h
              · rw [show j = k by omega]; exact HX.out)
            obtain ⟨hP1, hP2⟩ := hP
            clear hkl2 hsm HX HR
            generalize l.getD k 0 = c at *
            generalize PK l k = N at *
            have g1 : true = (decide ((2 : Int) ≤ c) && decide (c ≤ 24)) := by simp [hi1, hi2]
            have G1 := Lib.hid g1
            clear g1
            go_wp2_with (go_at_call 55; refine (sIn _ _ _ _ _ G1.out).mono ?_; rintro e w' ⟨rfl, rfl⟩)
            go_round
            case rel => exact ⟨k + 1, by omega, by omega, by go_num, by rw [HS.out], HR2⟩
            case measure => simp [intOf]; omega
          · have HF := Lib.hid (grpB_long (l := l) (by omega))
            clear hkl2 hsm HX HR HS
            generalize l.getD k 0 = c at *
            generalize PK l k = N at *
            have G1 : Hid (true = (decide ((2 : Int) ≤ c) && decide (c ≤ 24))) := Lib.hid (by simp [hi1, hi2])
            go_wp2_with (go_at_call 55; refine (sIn _ _ _ _ _ G1.out).mono ?_; rintro e w' ⟨rfl, rfl⟩)
            go_ret
            exact ⟨by rw [HF.out]; rfl, HB.out⟩
        · have HF := Lib.hid (grpB_out k hkl2 hin)
          have G1 : Hid (false = (decide ((2 : Int) ≤ l.getD k 0) && decide (l.getD k 0 ≤ 24))) := Lib.hid (by
            have : (decide ((2 : Int) ≤ l.getD k 0) && decide (l.getD k 0 ≤ 24)) = decide (2 ≤ l.getD k 0 ∧ l.getD k 0 ≤ 24) := by rw [Bool.decide_and]
            rw [this, decide_eq_false hin])
          clear hkl2 hsm HR HS hin
          generalize l.getD k 0 = c at *
          generalize PK l k = N at *
          go_wp2_with (go_at_call 55; refine (sIn _ _ _ _ _ G1.out).mono ?_; rintro e w' ⟨rfl, rfl⟩)
          go_ret
          exact ⟨by rw [HF.out]; rfl, HB.out⟩
    · obtain rfl : k = n := by omega
      have HF := Lib.hid (grpB_of (l := l) (by rw [← HN.out]; omega) (by rw [← HN.out]; exact HR.out))
      rw [← PK_full, ← HN.out] at HF
      clear hkl hsm HR
      generalize PK l k = N at *
      go_wp2
      go_ret
      exact ⟨by rw [HF.out]; rfl, HB.out⟩
end Go.Proofs.YtfkleihnafeoeaaGreatDoor
