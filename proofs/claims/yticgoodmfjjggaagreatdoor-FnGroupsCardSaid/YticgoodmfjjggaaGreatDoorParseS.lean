/- The contract of spec.ParseInt, and the law's own walk: FnExactParseInt answers true at every string. -/
import Derived.Test.YticgoodmfjjggaaGreatDoorParseI
namespace Go.Proofs.YticgoodmfjjggaaGreatDoor
open Go.RowKit
theorem sval10 (l : List UInt8) (h : l.length ≤ 10) : sval l < 10000000000 := Nat.lt_of_lt_of_le (sval_lt l) (pow10_le _ 10 h)
theorem sval11 (l : List UInt8) (h : l.length ≤ 11) : sval l < 100000000000 := Nat.lt_of_lt_of_le (sval_lt l) (pow10_le _ 11 h)
/-- What the text answers, by the number and the count of the digits that it has read. -/
theorem acc_far (l : List UInt8) (j : Nat) (h : 9 < cnt (l.take j)) : accB l = false := by
  have : cnt (l.take j) ≤ cnt l := by
    unfold cnt
    have e : l = l.take j ++ l.drop j := (List.take_append_drop j l).symm
    conv => rhs; rw [e]
    rw [List.filter_append, List.length_append]; omega
  unfold accB; simp; omega
theorem acc_long (l : List UInt8) (h : 10 < l.length) : accB l = false := by unfold accB; simp; omega
set_option maxHeartbeats 2000000 in
set_option maxRecDepth 1000000 in
theorem sparse_any (s : ByteArray) (w : World) (hs : s.size ≤ maxLen) :
    Calls Tryz.prog 84 #[.string s] w fun e w' => e = .returned (.tuple #[.int .i64 (resV s.data.toList), .bool (accB s.data.toList)]) ∧ Below w.heap.size w w' := by
  have hm := hs
  unfold maxLen at hm
  go_enter Tryz.func84, Tryz.ntmps84
  go_wp2
  go_loop [4, 5, 6] (fun n c i => ∃ k : Nat, k ≤ s.size ∧ k ≤ 11 ∧ i = .int .i64 k ∧ n = .int .i64 (sval (s.data.toList.take k)) ∧ c = .int .i64 (cnt (s.data.toList.take k))) (fun _ _ i => 11 - (intOf i).toNat)
  case atStart => exact ⟨0, Nat.zero_le _, by omega, rfl, rfl, rfl⟩
  case round =>
    obtain ⟨k, hk, hk11, rfl, rfl, rfl⟩ := hrel
    have hcl : cnt (s.data.toList.take k) ≤ 11 := Nat.le_trans (cnt_le _) (by simp; omega)
    have hv11 := sval11 (s.data.toList.take k) (by simp; omega)
    by_cases hlt : k < s.size ∧ k < 11
    · obtain ⟨hks, hk10⟩ := hlt
      have hv := sval10 (s.data.toList.take k) (by simp; omega)
      have hb : (s[k].toNat : Int) < 256 := by have := s[k].toNat_lt; omega
      by_cases hd : 48 ≤ s[k].toNat ∧ s[k].toNat ≤ 57
      · have hD : isD s[k] = true := (isD_iff _).2 hd
        have h1 : (48 : Int) ≤ s[k].toNat := by omega
        have h2 : (s[k].toNat : Int) ≤ 57 := by omega
        have HS : Hid ((sval (s.data.toList.take (k + 1)) : Int) = (sval (s.data.toList.take k) : Int) * 10 + ((s[k].toNat : Int) - 48)) := Lib.hid (by
          rw [take_snoc' s k hks, sval_snoc]; unfold stepN; rw [if_pos hD]; omega)
        have HC : Hid ((cnt (s.data.toList.take (k + 1)) : Int) = (cnt (s.data.toList.take k) : Int) + 1) := Lib.hid (by
          rw [take_snoc' s k hks, cnt_snoc, hD]; simp)
        clear hd hD
        go_wp2
        go_round
        case rel => exact ⟨k + 1, by omega, by omega, by go_num, by rw [HS.out], by rw [HC.out]⟩
        case measure => simp [intOf]; omega
      · have hD : isD s[k] = false := by cases h : isD s[k] with | false => rfl | true => exact absurd ((isD_iff _).1 h) hd
        have HS : Hid (sval (s.data.toList.take (k + 1)) = sval (s.data.toList.take k)) := Lib.hid (by
          rw [take_snoc' s k hks, sval_snoc]; unfold stepN; rw [if_neg (by rw [hD]; simp)])
        have HC : Hid (cnt (s.data.toList.take (k + 1)) = cnt (s.data.toList.take k)) := Lib.hid (by
          rw [take_snoc' s k hks, cnt_snoc, hD]; simp)
        by_cases h1 : s[k].toNat < 48
        · have h1' : (s[k].toNat : Int) < 48 := by omega
          clear hd hD h1
          go_wp2
          go_round
          case rel => exact ⟨k + 1, by omega, by omega, by go_num, by rw [HS.out], by rw [HC.out]⟩
          case measure => simp [intOf]; omega
        · have h1' : (48 : Int) ≤ s[k].toNat := by omega
          have h2' : (57 : Int) < s[k].toNat := by omega
          clear hd hD h1
          go_wp2
          go_round
          case rel => exact ⟨k + 1, by omega, by omega, by go_num, by rw [HS.out], by rw [HC.out]⟩
          case measure => simp [intOf]; omega
    · by_cases hks : k < s.size
      · have hk11' : 11 ≤ k := by omega
        have hpos : 0 < s.size := by omega
        have hfirst := negL_first s hpos
        clear hlt
        have HB := Lib.hid (acc_long s.data.toList (by rw [size_len]; omega))
        have h10' : (10 : Int) < (s.size : Int) := by omega
        cases hneg : negL s.data.toList with
        | true =>
          rw [hneg] at hfirst
          have hf : ((s[0].toNat : Int) == 45) = true := hfirst.symm
          clear hfirst hneg
          by_cases hc9 : 9 < cnt (s.data.toList.take k)
          · have hc9' : (9 : Int) < (cnt (s.data.toList.take k) : Int) := by omega
            go_wp2
            go_ret2
            exact ⟨by rw [resV, HB.out]; rfl, Below.refl _ _⟩
          · have hc9' : (cnt (s.data.toList.take k) : Int) ≤ 9 := by omega
            clear hc9
            go_wp2
            go_ret2
            exact ⟨by rw [resV, HB.out]; rfl, Below.refl _ _⟩
        | false =>
          rw [hneg] at hfirst
          have hf : ((s[0].toNat : Int) == 45) = false := hfirst.symm
          clear hfirst hneg
          by_cases hc9 : 9 < cnt (s.data.toList.take k)
          · have hc9' : (9 : Int) < (cnt (s.data.toList.take k) : Int) := by omega
            go_wp2
            go_ret2
            exact ⟨by rw [resV, HB.out]; rfl, Below.refl _ _⟩
          · have hc9' : (cnt (s.data.toList.take k) : Int) ≤ 9 := by omega
            clear hc9
            go_wp2
            go_ret2
            exact ⟨by rw [resV, HB.out]; rfl, Below.refl _ _⟩
      · have hks' : s.size ≤ k := by omega
        clear hlt hks
        by_cases hpos : 0 < s.size
        · have hfirst := negL_first s hpos
          cases hneg : negL s.data.toList with
          | true =>
            rw [hneg] at hfirst
            have hf : ((s[0].toNat : Int) == 45) = true := hfirst.symm
            have HN := Lib.hid hneg
            clear hfirst hneg
            by_cases hc9 : 9 < cnt (s.data.toList.take k)
            · have HB := Lib.hid (acc_far s.data.toList k hc9)
              have hc9' : (9 : Int) < (cnt (s.data.toList.take k) : Int) := by omega
              go_wp2
              go_ret2
              exact ⟨by rw [resV, HB.out]; rfl, Below.refl _ _⟩
            · by_cases h10 : 10 < s.size
              · have HB := Lib.hid (acc_long s.data.toList (by rw [size_len]; exact h10))
                have hc9' : (cnt (s.data.toList.take k) : Int) ≤ 9 := by omega
                have h10' : (10 : Int) < (s.size : Int) := by omega
                clear hc9
                go_wp2
                go_ret2
                exact ⟨by rw [resV, HB.out]; rfl, Below.refl _ _⟩
              · have hall : s.data.toList.take k = s.data.toList := List.take_of_length_le (by rw [size_len]; omega)
                have hc9' : (cnt (s.data.toList.take k) : Int) ≤ 9 := by omega
                have h10' : (s.size : Int) ≤ 10 := by omega
                have hvv : (-(sval (s.data.toList.take k) : Int)) = vOf s.data.toList := by rw [hall]; unfold vOf; rw [HN.out]; rfl
                have htx := text_eq (vOf s.data.toList) s
                have hacc : accB s.data.toList = (Lib.itoa (vOf s.data.toList) == s.data.toList) := by
                  have a1 : cnt s.data.toList ≤ 9 := by rw [hall] at hc9; omega
                  have a2 : s.data.toList.length ≤ 10 := by rw [size_len]; omega
                  unfold accB; rw [decide_eq_true a1, decide_eq_true a2]; rfl
                rw [← hacc] at htx
                obtain ⟨X, hX⟩ : ∃ X, X = bs (Lib.itoa (vOf s.data.toList)) := ⟨_, rfl⟩
                rw [← hX] at htx
                have HV : Hid (resV s.data.toList = if accB s.data.toList then (-(sval (s.data.toList.take k) : Int)) else 0) := Lib.hid (by unfold resV; rw [hvv])
                have HI : Hid (∀ w1, Calls Tryz.prog 85 #[.int .i64 (-(sval (s.data.toList.take k) : Int))] w1 fun e w' => e = .returned (.string X) ∧ Below w1.heap.size w1 w') := Lib.hid (fun w1 => by
                  rw [hX, ← hvv]; exact sfmt_any _ (by omega) (by omega) w1)
                clear hall hvv hX hacc hc9 h10
                cases ha : accB s.data.toList with
                | true =>
                  rw [ha] at htx
                  have HA := Lib.hid ha
                  clear ha
                  go_wp2_with (go_at_call 85; refine (HI.out _).mono ?_; rintro e w1 ⟨rfl, hb1⟩)
                  go_ret2
                  exact ⟨by rw [HV.out, HA.out]; rfl, by assumption⟩
                | false =>
                  rw [ha] at htx
                  have HA := Lib.hid ha
                  clear ha
                  go_wp2_with (go_at_call 85; refine (HI.out _).mono ?_; rintro e w1 ⟨rfl, hb1⟩)
                  go_ret2
                  exact ⟨by rw [HV.out, HA.out]; rfl, by assumption⟩
          | false =>
            rw [hneg] at hfirst
            have hf : ((s[0].toNat : Int) == 45) = false := hfirst.symm
            have HN := Lib.hid hneg
            clear hfirst hneg
            by_cases hc9 : 9 < cnt (s.data.toList.take k)
            · have HB := Lib.hid (acc_far s.data.toList k hc9)
              have hc9' : (9 : Int) < (cnt (s.data.toList.take k) : Int) := by omega
              go_wp2
              go_ret2
              exact ⟨by rw [resV, HB.out]; rfl, Below.refl _ _⟩
            · by_cases h10 : 10 < s.size
              · have HB := Lib.hid (acc_long s.data.toList (by rw [size_len]; exact h10))
                have hc9' : (cnt (s.data.toList.take k) : Int) ≤ 9 := by omega
                have h10' : (10 : Int) < (s.size : Int) := by omega
                clear hc9
                go_wp2
                go_ret2
                exact ⟨by rw [resV, HB.out]; rfl, Below.refl _ _⟩
              · have hall : s.data.toList.take k = s.data.toList := List.take_of_length_le (by rw [size_len]; omega)
                have hc9' : (cnt (s.data.toList.take k) : Int) ≤ 9 := by omega
                have h10' : (s.size : Int) ≤ 10 := by omega
                have hvv : ((sval (s.data.toList.take k) : Nat) : Int) = vOf s.data.toList := by rw [hall]; unfold vOf; rw [HN.out]; rfl
                have htx := text_eq (vOf s.data.toList) s
                have hacc : accB s.data.toList = (Lib.itoa (vOf s.data.toList) == s.data.toList) := by
                  have a1 : cnt s.data.toList ≤ 9 := by rw [hall] at hc9; omega
                  have a2 : s.data.toList.length ≤ 10 := by rw [size_len]; omega
                  unfold accB; rw [decide_eq_true a1, decide_eq_true a2]; rfl
                rw [← hacc] at htx
                obtain ⟨X, hX⟩ : ∃ X, X = bs (Lib.itoa (vOf s.data.toList)) := ⟨_, rfl⟩
                rw [← hX] at htx
                have HV : Hid (resV s.data.toList = if accB s.data.toList then ((sval (s.data.toList.take k) : Nat) : Int) else 0) := Lib.hid (by unfold resV; rw [hvv])
                have HI : Hid (∀ w1, Calls Tryz.prog 85 #[.int .i64 ((sval (s.data.toList.take k) : Nat) : Int)] w1 fun e w' => e = .returned (.string X) ∧ Below w1.heap.size w1 w') := Lib.hid (fun w1 => by
                  rw [hX, ← hvv]; exact sfmt_any _ (by omega) (by omega) w1)
                clear hall hvv hX hacc hc9 h10
                cases ha : accB s.data.toList with
                | true =>
                  rw [ha] at htx
                  have HA := Lib.hid ha
                  clear ha
                  go_wp2_with (go_at_call 85; refine (HI.out _).mono ?_; rintro e w1 ⟨rfl, hb1⟩)
                  go_ret2
                  exact ⟨by rw [HV.out, HA.out]; rfl, by assumption⟩
                | false =>
                  rw [ha] at htx
                  have HA := Lib.hid ha
                  clear ha
                  go_wp2_with (go_at_call 85; refine (HI.out _).mono ?_; rintro e w1 ⟨rfl, hb1⟩)
                  go_ret2
                  exact ⟨by rw [HV.out, HA.out]; rfl, by assumption⟩
        · have HN := Lib.hid (negL_none s (by omega))
          have h0 : s.size ≤ 0 := by omega
          clear hpos
          by_cases hc9 : 9 < cnt (s.data.toList.take k)
          · have HB := Lib.hid (acc_far s.data.toList k hc9)
            have hc9' : (9 : Int) < (cnt (s.data.toList.take k) : Int) := by omega
            go_wp2
            go_ret2
            exact ⟨by rw [resV, HB.out]; rfl, Below.refl _ _⟩
          · by_cases h10 : 10 < s.size
            · omega
            · have hall : s.data.toList.take k = s.data.toList := List.take_of_length_le (by rw [size_len]; omega)
              have hc9' : (cnt (s.data.toList.take k) : Int) ≤ 9 := by omega
              have h10' : (s.size : Int) ≤ 10 := by omega
              have hvv : ((sval (s.data.toList.take k) : Nat) : Int) = vOf s.data.toList := by rw [hall]; unfold vOf; rw [HN.out]; rfl
              have htx := text_eq (vOf s.data.toList) s
              have hacc : accB s.data.toList = (Lib.itoa (vOf s.data.toList) == s.data.toList) := by
                have a1 : cnt s.data.toList ≤ 9 := by rw [hall] at hc9; omega
                have a2 : s.data.toList.length ≤ 10 := by rw [size_len]; omega
                unfold accB; rw [decide_eq_true a1, decide_eq_true a2]; rfl
              rw [← hacc] at htx
              obtain ⟨X, hX⟩ : ∃ X, X = bs (Lib.itoa (vOf s.data.toList)) := ⟨_, rfl⟩
              rw [← hX] at htx
              have HV : Hid (resV s.data.toList = if accB s.data.toList then ((sval (s.data.toList.take k) : Nat) : Int) else 0) := Lib.hid (by unfold resV; rw [hvv])
              have HI : Hid (∀ w1, Calls Tryz.prog 85 #[.int .i64 ((sval (s.data.toList.take k) : Nat) : Int)] w1 fun e w' => e = .returned (.string X) ∧ Below w1.heap.size w1 w') := Lib.hid (fun w1 => by
                rw [hX, ← hvv]; exact sfmt_any _ (by omega) (by omega) w1)
              clear hall hvv hX hacc hc9 h10
              cases ha : accB s.data.toList with
              | true =>
                rw [ha] at htx
                have HA := Lib.hid ha
                clear ha
                go_wp2_with (go_at_call 85; refine (HI.out _).mono ?_; rintro e w1 ⟨rfl, hb1⟩)
                go_ret2
                exact ⟨by rw [HV.out, HA.out]; rfl, by assumption⟩
              | false =>
                rw [ha] at htx
                have HA := Lib.hid ha
                clear ha
                go_wp2_with (go_at_call 85; refine (HI.out _).mono ?_; rintro e w1 ⟨rfl, hb1⟩)
                go_ret2
                exact ⟨by rw [HV.out, HA.out]; rfl, by assumption⟩
end Go.Proofs.YticgoodmfjjggaaGreatDoor
