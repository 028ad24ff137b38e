/- The contracts of spec.FormatGroup and impl.FormatGroup: both answer the orders' numerals, separated by the letter x; 1 for the trivial group, nothing for no group. -/
import Derived.Test.YticgoodmfjjggaaGreatDoorGrpIs
import Derived.Test.YticgoodmfjjggaaGreatDoorItoa
namespace Go.Proofs.YticgoodmfjjggaaGreatDoor
open Go.RowKit
set_option maxRecDepth 1000000
/-- The text of the first k orders. -/
def txtK (l : List Int) (k : Nat) : List UInt8 := Lib.join ((l.take k).map Lib.itoa) [120]
theorem tail_snoc (r : List (List UInt8)) (y sep : List UInt8) : Lib.joinTail sep (r ++ [y]) = Lib.joinTail sep r ++ (sep ++ y) := by simp [Lib.joinTail]
theorem txt_zero (l : List Int) : txtK l 0 = [] := by simp [txtK, Lib.join]
theorem txt_one (l : List Int) (h : 0 < l.length) : txtK l 1 = Lib.itoa (l.getD 0 0) := by
  match l, h with
  | x :: t, _ => simp [txtK, Lib.join]
theorem txt_succ (l : List Int) (k : Nat) (hk : 0 < k) (h : k < l.length) : txtK l (k + 1) = txtK l k ++ [120] ++ Lib.itoa (l.getD k 0) := by
  unfold txtK
  rw [List.take_succ_eq_append_getElem h, List.map_append, List.map_cons, List.map_nil]
  have hg : l.getD k 0 = l[k] := by simp [List.getD, h]
  rw [hg]
  match hq : (l.take k).map Lib.itoa with
  | [] =>
    have hlen : ((l.take k).map Lib.itoa).length = k := by rw [List.length_map, List.length_take]; omega
    rw [hq] at hlen
    simp at hlen
    omega
  | x :: r => rw [List.cons_append, Lib.join_cons, Lib.join_cons, tail_snoc]; simp
/-- The document's text of a group. -/
def fmtG (l : List Int) : List UInt8 := if grpB l = true then (if l = [] then [49] else txtK l l.length) else []
theorem txt_len {l : List Int} (h : grpB l = true) (k : Nat) (hk : k ≤ l.length) : (txtK l k).length ≤ 22 * k := by
  induction k with
  | zero => rw [txt_zero]; simp
  | succ k ih =>
    have ho := ord_at h (k := k) (by omega)
    have hi := Lib.itoa_length_le (l.getD k 0) (by omega) (by omega)
    by_cases h0 : k = 0
    · subst h0; rw [txt_one _ (by omega)]; omega
    · rw [txt_succ _ _ (by omega) (by omega), List.length_append, List.length_append]
      have := ih (by omega)
      simp only [List.length_cons, List.length_nil]
      omega
theorem itoa_ne (n : Int) : Lib.itoa n ≠ [] := by
  unfold Lib.itoa
  split
  · simp
  · intro h
    have := congrArg List.length h
    rw [Lib.decDigits_length] at this
    have h2 := Lib.nDigits_pos n.toNat
    simp at this
    omega
theorem txt_ne {l : List Int} (k : Nat) (hk : 0 < k) (hl : k ≤ l.length) : txtK l k ≠ [] := by
  cases k with
  | zero => omega
  | succ k =>
    by_cases h0 : k = 0
    · subst h0; rw [txt_one _ (by omega)]; exact itoa_ne _
    · rw [txt_succ _ _ (by omega) (by omega)]; simp
set_option maxHeartbeats 1000000 in
theorem sFmtG (w : World) (a : Option Addr) (l : List Int) (n cap : Nat) (hn : n = l.length) (hm : n ≤ 9223372036854775807) (hi : Ints w a l) :
    Calls Tryz.prog 23 #[.agg #[.slice a n cap]] w fun e w' => e = .returned (strV (fmtG l)) ∧ Below w.heap.size w w' := by
  have HI := Lib.hid (ints_alloc hi (.cells #[.slice a n cap] 26))
  have HN := Lib.hid hn
  have C1 := newC w (.slice a n cap) 26 (n := w.heap.size) rfl
  have HB := Lib.hid (Joins.below_alloc1 w (.cells #[.slice a n cap] 26))
  have T0 := Lib.hid (Below.refl (w.alloc (.cells #[.slice a n cap] 26)).heap.size (w.alloc (.cells #[.slice a n cap] 26)))
  clear hi hn
  cases hg : grpB l with
  | false =>
    have HG := Lib.hid hg
    have hn0 : 0 < n := by
      rcases Nat.eq_zero_or_pos n with h | h
      · have hl : l = [] := List.eq_nil_of_length_eq_zero (by rw [← HN.out, h])
        rw [hl] at hg; exact absurd hg (by decide)
      · exact h
    rw [show fmtG l = [] by unfold fmtG; rw [if_neg (by simp [hg])]]
    clear hg
    go_enter Tryz.func23, Tryz.ntmps23
    go_wp2
    refine wp_loop_rounds 1 ?_
    rw [rounds_succ]
    go_wp2_with (first
      | (go_at_call 24; have hx_ := T1; clear hx_; refine (sIsGroup _ _ _ _ _ HN.out hm (HI.out.below rfl T1.out)).mono ?_; rw [HG.out]; rintro e w2 ⟨rfl, hb2⟩; have T2 := Lib.hid (T1.out.trans (hb2.mono T1.out.size)); have c2 := keepC T2.out (by simp) C1)
      | (go_at_call 24; refine (sIsGroup _ _ _ _ _ HN.out hm HI.out).mono ?_; rw [HG.out]; rintro e w1 ⟨rfl, hb1⟩; have T1 := Lib.hid (T0.out.trans (hb1.mono T0.out.size)); have c1 := keepC T1.out (by simp) C1))
    go_ret
    exact ⟨rfl, HB.out.trans (T2.out.mono (by simp))⟩
  | true =>
    have HG := Lib.hid hg
    have hn3 : n ≤ 3 := by rw [HN.out]; exact (grpB_true hg).1
    clear hg
    go_enter Tryz.func23, Tryz.ntmps23
    go_wp2
    go_loopw [3, 4] (fun s i wr => ∃ k : Nat, k ≤ n ∧ i = .int .i64 k ∧ s = strV (txtK l k) ∧ Below (w.heap.size + 1) (w.alloc (.cells #[.slice a n cap] 26)) wr) (fun _ i _ => n - (intOf i).toNat)
    case atStart => exact ⟨0, by omega, rfl, by rw [txt_zero]; rfl, by simpa using T0.out⟩
    case round =>
      obtain ⟨k, hk, rfl, rfl, hbel⟩ := hrel
      have c4 := keepC hbel (by simp) C1
      by_cases hlt : k < n
      · have hkl2 : k < l.length := by rw [← HN.out]; exact hlt
        rcases HI.out with h0 | ⟨b, off, h1, hbl, hc⟩
        · rw [h0] at hkl2; simp at hkl2
        · subst h1
          have r1 := keepC hbel (by simpa using hbl) (hc k hkl2)
          have ho := ord_at HG.out hkl2
          obtain ⟨o1, o2⟩ := ho
          have HL := Lib.hid (txt_len HG.out k (by omega))
          have hlen : (txtK l k).length ≤ 66 := by have := HL.out; omega
          have HII := Lib.hid (Lib.itoa_length_le (l.getD k 0) (by omega) (by omega))
          have hs1 : (bs (txtK l k)).size ≤ 66 := by rw [bs_size]; exact hlen
          have hs2 : (bs (Lib.itoa (l.getD k 0))).size ≤ 21 := by rw [bs_size]; exact HII.out
          have hs3 : (bs (txtK l k) ++ (⟨#[120]⟩ : ByteArray)).size ≤ 67 := by rw [ByteArray.size_append]; exact Nat.add_le_add hs1 (Nat.le_refl 1)
          have hs4 : (⟨#[120]⟩ : ByteArray).size ≤ 1 := Nat.le_refl _
          have HIr := Lib.hid (HI.out.below (by simp) hbel)
          have hbl2 : b < w.heap.size + 1 := by simpa using hbl
          have HBL := Lib.hid hbel
          clear hc hbl hbel
          by_cases h0 : k = 0
          · subst h0
            have HS := Lib.hid (txt_one l hkl2)
            have HZ := Lib.hid (txt_zero l)
            rw [Nat.add_zero] at r1
            generalize l.getD 0 0 = z at *
            go_wp2_with (first
              | (go_at_call 85; refine (sfmt_any z (by omega) (by omega) _).mono ?_; rintro e w6 ⟨rfl, hb6⟩; have T6 := Lib.hid (T5.out.trans (hb6.mono (by have := T5.out.size; simpa using this))))
              | (go_at_call 24; refine (sIsGroup _ _ _ _ _ HN.out hm HIr.out).mono ?_; rw [HG.out]; rintro e w5 ⟨rfl, hb5⟩; have T5 := Lib.hid (HBL.out.trans (hb5.mono (by have := HBL.out.size; simpa using this))); have c5 := keepC T5.out (by simp) C1; have r5 := keepD hb5 r1))
            go_roundw
            case rel => exact ⟨1, by omega, by go_num, by rw [HS.out, bs_append, HZ.out]; rfl, T6.out⟩
            case measure => simp [intOf]; omega
          · have HS := Lib.hid (txt_succ l k (by omega) hkl2)
            have HX : Hid (bs [120] = (⟨#[120]⟩ : ByteArray)) := Lib.hid rfl
            have hk0 : 0 < k := by omega
            clear h0
            generalize l.getD k 0 = z at *
            go_wp2_with (first
              | (go_at_call 85; refine (sfmt_any z (by omega) (by omega) _).mono ?_; rintro e w6 ⟨rfl, hb6⟩; have T6 := Lib.hid (T5.out.trans (hb6.mono (by have := T5.out.size; simpa using this))))
              | (go_at_call 24; refine (sIsGroup _ _ _ _ _ HN.out hm HIr.out).mono ?_; rw [HG.out]; rintro e w5 ⟨rfl, hb5⟩; have T5 := Lib.hid (HBL.out.trans (hb5.mono (by have := HBL.out.size; simpa using this))); have c5 := keepC T5.out (by simp) C1; have r5 := keepD hb5 r1))
            go_roundw
            case rel => exact ⟨k + 1, by omega, by go_num, by rw [HS.out, ← HX.out, bs_append, bs_append], T6.out⟩
            case measure => simp [intOf]; omega
      · obtain rfl : k = n := by omega
        have HIr := Lib.hid (HI.out.below (by simp) hbel)
        have HBL := Lib.hid hbel
        clear hbel
        by_cases h0 : k = 0
        · subst h0
          have hl : l = [] := List.eq_nil_of_length_eq_zero (by rw [← HN.out])
          have HF : Hid (fmtG l = [49]) := Lib.hid (by unfold fmtG; rw [if_pos HG.out, if_pos hl])
          have EE : (bs (txtK l 0)).toList.isEmpty = true := by rw [txt_zero, Lib.toList_data]; rfl
          clear hl
          go_wp2_with (go_at_call 24; refine (sIsGroup _ _ _ _ _ HN.out hm HIr.out).mono ?_; rw [HG.out]; rintro e w5 ⟨rfl, hb5⟩; have T5 := Lib.hid (HBL.out.trans (hb5.mono (by have := HBL.out.size; simpa using this))))
          go_ret
          exact ⟨by rw [HF.out]; rfl, HB.out.trans (T5.out.mono (by simp))⟩
        · have hl : l ≠ [] := fun e => h0 (by rw [HN.out, e]; rfl)
          have HF : Hid (fmtG l = txtK l k) := Lib.hid (by unfold fmtG; rw [if_pos HG.out, if_neg hl, HN.out])
          have EE : (bs (txtK l k)).toList.isEmpty = false := by
            have := txt_ne (l := l) k (by omega) (by rw [← HN.out]; exact Nat.le_refl _)
            cases hq : txtK l k with
            | nil => exact absurd hq this
            | cons x r => rw [Lib.toList_data]; rfl
          clear hl
          go_wp2
          go_ret
          exact ⟨by rw [HF.out]; rfl, HB.out.trans (HBL.out.mono (by simp))⟩
end Go.Proofs.YticgoodmfjjggaaGreatDoor
