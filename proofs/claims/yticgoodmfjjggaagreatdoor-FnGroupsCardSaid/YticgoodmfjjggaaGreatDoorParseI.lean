/- The contracts of impl.ParseInt and spec.ParseInt. -/
import Derived.Test.YticgoodmfjjggaaGreatDoorParse
import Derived.Lib.Strings
import Derived.Lib.IndexBytes
namespace Go.Proofs.YticgoodmfjjggaaGreatDoor
open Go.RowKit
theorem size_len (s : ByteArray) : s.data.toList.length = s.size := by simp
theorem negL_first (s : ByteArray) (h : 0 < s.size) : negL s.data.toList = ((s[0].toNat : Int) == 45) := by
  have hl : s.data.toList = s[0] :: s.data.toList.tail := by
    cases hd : s.data.toList with
    | nil => have e := size_len s; rw [hd] at e; simp at e; omega
    | cons c l =>
      have : s.data.toList[0]'(by simpa using h) = s[0] := by rw [Array.getElem_toList]; rfl
      have e : s[0] = c := by rw [← this]; simp [hd]
      rw [e]; rfl
  rw [hl]
  show (s[0] == 45) = _
  rw [Bool.eq_iff_iff, beq_iff_eq, beq_iff_eq]
  constructor
  · intro e; rw [e]; rfl
  · intro e; apply UInt8.toNat_inj.1; have : (45 : UInt8).toNat = 45 := rfl
    omega
theorem negL_none (s : ByteArray) (h : s.size = 0) : negL s.data.toList = false := by
  cases hd : s.data.toList with
  | nil => rfl
  | cons c l => have e := size_len s; rw [hd] at e; simp at e; omega
theorem tail_of (s : ByteArray) : (s.extract 1 s.size).data.toList = s.data.toList.tail := by
  rw [Lib.extract_data, List.drop_one, List.take_of_length_le (by simp)]
theorem text_eq (n : Int) (s : ByteArray) : ((bs (Lib.itoa n)).toList == s.toList) = (Lib.itoa n == s.data.toList) := by
  have e1 : (bs (Lib.itoa n)).toList = Lib.itoa n := Lib.toList_data _
  rw [e1, Lib.toList_data]
/-- The number that the digits make, with its sign. -/
theorem vOf_bound (l : List UInt8) (h : pdB (digL l) = true) : -999999999 ≤ vOf l ∧ vOf l ≤ 999999999 := by
  have h1 : (digL l).length ≤ 9 := by simp [pdB] at h; omega
  have h2 := Nat.lt_of_lt_of_le (sval_lt (digL l)) (pow10_le _ 9 h1)
  rw [sval_digL] at h2
  have h3 : (10 : Nat) ^ 9 = 1000000000 := by decide
  unfold vOf; split <;> omega
set_option maxHeartbeats 1000000 in
set_option maxRecDepth 1000000 in
theorem iparse_no (s : ByteArray) (B : Nat) (w : World) (hB : B ≤ w.heap.size) (hs : s.size ≤ maxLen) (hb : pdB (digL s.data.toList) = false) :
    Calls Tryz.prog 119 #[.string s] w fun e w' => e = .returned (.tuple #[.int .i64 0, .bool false]) ∧ Below B w w' := by
  have hm := hs
  unfold maxLen at hm
  cases hneg : negL s.data.toList with
  | true =>
    have hpos : 0 < s.size := by
      rcases Nat.eq_zero_or_pos s.size with h | h
      · rw [negL_none s h] at hneg; cases hneg
      · exact h
    have hfirst := negL_first s hpos
    rw [hneg] at hfirst
    have hf : ((s[0].toNat : Int) == 45) = true := hfirst.symm
    have hsub : pdB (s.extract 1 s.size).data.toList = false := by rw [tail_of]; unfold digL at hb; rw [hneg] at hb; exact hb
    have F := pd_any (s.extract 1 s.size)
    rw [pdV, hsub] at F
    have hle : (s.extract 1 s.size).size ≤ maxLen := by simp [maxLen]; omega
    have HF := Lib.hid (fun w => F w hle)
    clear hfirst hneg hsub F hb
    go_enter Tryz.func119, Tryz.ntmps119
    go_wp2_with (go_at_call 142; refine (HF.out _).mono ?_; rintro e w1 ⟨rfl, hb1⟩)
    go_ret2
    exact ⟨rfl, Below.mono (by assumption) hB⟩
  | false =>
    have hsub : pdB s.data.toList = false := by unfold digL at hb; rw [hneg] at hb; exact hb
    have F := pd_any s
    rw [pdV, hsub] at F
    have HF := Lib.hid (fun w => F w hs)
    by_cases hpos : 0 < s.size
    · have hfirst := negL_first s hpos
      rw [hneg] at hfirst
      have hf : ((s[0].toNat : Int) == 45) = false := hfirst.symm
      clear hfirst hneg hsub F hb
      go_enter Tryz.func119, Tryz.ntmps119
      go_wp2_with (go_at_call 142; refine (HF.out _).mono ?_; rintro e w1 ⟨rfl, hb1⟩)
      go_ret2
      exact ⟨rfl, Below.mono (by assumption) hB⟩
    · have h0 : s.size ≤ 0 := by omega
      clear hneg hsub F hb hpos
      go_enter Tryz.func119, Tryz.ntmps119
      go_wp2_with (go_at_call 142; refine (HF.out _).mono ?_; rintro e w1 ⟨rfl, hb1⟩)
      go_ret2
      exact ⟨rfl, Below.mono (by assumption) hB⟩
set_option maxHeartbeats 1000000 in
set_option maxRecDepth 1000000 in
theorem iparse_yes (s : ByteArray) (B : Nat) (w : World) (hB : B ≤ w.heap.size) (ht : TabOn B w) (hs : s.size ≤ maxLen) (hb : pdB (digL s.data.toList) = true) :
    Calls Tryz.prog 119 #[.string s] w fun e w' => e = .returned (.tuple #[.int .i64 (resV s.data.toList), .bool (accB s.data.toList)]) ∧ Below B w w' := by
  have hm := hs
  unfold maxLen at hm
  obtain ⟨b0, b1⟩ := vOf_bound _ hb
  have hacc : accB s.data.toList = (Lib.itoa (vOf s.data.toList) == s.data.toList) := by rw [acc_iff, hb, Bool.true_and]
  have htx := text_eq (vOf s.data.toList) s
  rw [← hacc] at htx
  have HT := Lib.hid ht
  obtain ⟨v, hv⟩ : ∃ v, v = vOf s.data.toList := ⟨_, rfl⟩
  obtain ⟨X, hX⟩ : ∃ X, X = bs (Lib.itoa v) := ⟨_, rfl⟩
  rw [← hv] at b0 b1 htx
  rw [← hX] at htx
  have HV : Hid (resV s.data.toList = if accB s.data.toList then v else 0) := Lib.hid (by unfold resV; rw [hv])
  have HI : Hid (∀ w1, Below B w w1 → Calls Tryz.prog 116 #[.int .i64 v] w1 fun e w' => e = .returned (.string X) ∧ Below B w1 w') := Lib.hid (fun w1 h => by
    rw [hX]; exact ifmt_any v (by omega) (by omega) B w1 (by have := h.size; omega) (HT.out.on h))
  cases hneg : negL s.data.toList with
  | true =>
    have hpos : 0 < s.size := by
      rcases Nat.eq_zero_or_pos s.size with h | h
      · rw [negL_none s h] at hneg; cases hneg
      · exact h
    have hfirst := negL_first s hpos
    rw [hneg] at hfirst
    have hf : ((s[0].toNat : Int) == 45) = true := hfirst.symm
    have hsub : pdB (s.extract 1 s.size).data.toList = true := by rw [tail_of]; unfold digL at hb; rw [hneg] at hb; exact hb
    have F := pd_any (s.extract 1 s.size)
    have hvv : (sval (s.extract 1 s.size).data.toList : Int) = -v := by
      rw [tail_of, hv]; unfold vOf; rw [hneg, if_pos rfl]
      have := sval_digL s.data.toList
      unfold digL at this; rw [hneg, if_pos rfl] at this; rw [this]; omega
    rw [pdV, hsub, if_pos rfl, hvv] at F
    have hle : (s.extract 1 s.size).size ≤ maxLen := by simp [maxLen]; omega
    have HF := Lib.hid (fun w => F w hle)
    clear hfirst hneg hsub F hb hvv hv hX hacc ht
    cases ha : accB s.data.toList with
    | true =>
      rw [ha] at htx
      have HA := Lib.hid ha
      clear ha
      go_enter Tryz.func119, Tryz.ntmps119
      go_wp2_with (first | (go_at_call 142; refine (HF.out _).mono ?_; rintro e w1 ⟨rfl, hb1⟩; have hb1 := hb1.mono hB) | (go_at_call 116; refine (HI.out _ (by assumption)).mono ?_; rintro e w2 ⟨rfl, hb2⟩; have hb12 := Below.trans (by assumption) hb2))
      go_ret2
      exact ⟨by rw [HV.out, HA.out]; rfl, by assumption⟩
    | false =>
      rw [ha] at htx
      have HA := Lib.hid ha
      clear ha
      go_enter Tryz.func119, Tryz.ntmps119
      go_wp2_with (first | (go_at_call 142; refine (HF.out _).mono ?_; rintro e w1 ⟨rfl, hb1⟩; have hb1 := hb1.mono hB) | (go_at_call 116; refine (HI.out _ (by assumption)).mono ?_; rintro e w2 ⟨rfl, hb2⟩; have hb12 := Below.trans (by assumption) hb2))
      go_ret2
      exact ⟨by rw [HV.out, HA.out]; rfl, by assumption⟩
  | false =>
    have hsub : pdB s.data.toList = true := by unfold digL at hb; rw [hneg] at hb; exact hb
    have hpos : 0 < s.size := by have := size_len s; simp [pdB] at hsub; omega
    have hfirst := negL_first s hpos
    rw [hneg] at hfirst
    have hf : ((s[0].toNat : Int) == 45) = false := hfirst.symm
    have F := pd_any s
    have hvv : (sval s.data.toList : Int) = v := by rw [hv]; unfold vOf; rw [hneg]; rfl
    rw [pdV, hsub, if_pos rfl, hvv] at F
    have HF := Lib.hid (fun w => F w hs)
    clear hfirst hneg hsub F hb hvv hv hX hacc ht
    cases ha : accB s.data.toList with
    | true =>
      rw [ha] at htx
      have HA := Lib.hid ha
      clear ha
      go_enter Tryz.func119, Tryz.ntmps119
      go_wp2_with (first | (go_at_call 142; refine (HF.out _).mono ?_; rintro e w1 ⟨rfl, hb1⟩; have hb1 := hb1.mono hB) | (go_at_call 116; refine (HI.out _ (by assumption)).mono ?_; rintro e w2 ⟨rfl, hb2⟩; have hb12 := Below.trans (by assumption) hb2))
      go_ret2
      exact ⟨by rw [HV.out, HA.out]; rfl, by assumption⟩
    | false =>
      rw [ha] at htx
      have HA := Lib.hid ha
      clear ha
      go_enter Tryz.func119, Tryz.ntmps119
      go_wp2_with (first | (go_at_call 142; refine (HF.out _).mono ?_; rintro e w1 ⟨rfl, hb1⟩; have hb1 := hb1.mono hB) | (go_at_call 116; refine (HI.out _ (by assumption)).mono ?_; rintro e w2 ⟨rfl, hb2⟩; have hb12 := Below.trans (by assumption) hb2))
      go_ret2
      exact ⟨by rw [HV.out, HA.out]; rfl, by assumption⟩
end Go.Proofs.YticgoodmfjjggaaGreatDoor
