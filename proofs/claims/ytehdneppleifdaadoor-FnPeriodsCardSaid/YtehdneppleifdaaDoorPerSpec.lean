/- The document's reading of chapter 6: stabilizers, filling, core parts, quotients. -/
import Derived.Test.YtehdneppleifdaaDoorMGAT
namespace Go.Proofs.YtehdneppleifdaaDoor
open Go.RowKit
set_option maxRecDepth 1000000
set_option maxHeartbeats 4000000 in
theorem sStabL (w : World) (a : Option Addr) (l : List Int) (n cap : Nat) (s : Nat) (hs : s < 2 ^ 24) (hn : n = l.length) (hg : grpB l = true) (hi : Ints w a l) :
    Calls Tryd.prog 36 #[.agg #[.slice a n cap], .int .i64 s] w fun e w' => e = .returned (.int .i64 (stN l s : Nat)) ∧ Below w.heap.size w w' := by
  have HI := Lib.hid (ints_alloc hi (.cells #[.slice a n cap] 26))
  have HN := Lib.hid hn
  have C1 := newC w (.slice a n cap) 26 (n := w.heap.size) rfl
  have HB := Lib.hid (Joins.below_alloc1 w (.cells #[.slice a n cap] 26))
  have T0 := Lib.hid (Below.refl (w.alloc (.cells #[.slice a n cap] 26)).heap.size (w.alloc (.cells #[.slice a n cap] 26)))
  clear hi hn
  have HA := Lib.hid hs
  have hP := (ords_grp hg).prod
  obtain ⟨P, hPe⟩ : ∃ P : Nat, prodI l = (P : Int) := ⟨(prodI l).toNat, by omega⟩
  rw [hPe] at hP
  rw [show stN l s = stK l s P by unfold stN; rw [hPe, Int.toNat_natCast]]
  have HP := Lib.hid hPe
  have hP24 : P ≤ 24 := by omega
  have HG := Lib.hid hg
  clear hs hg hP hPe
  go_enter Tryd.func36, Tryd.ntmps36
  go_wp2
  go_loopw [5, 6] (fun o i wr => ∃ k : Nat, k ≤ P ∧ i = .int .i64 k ∧ o = .int .i64 (stK l s k : Nat) ∧ Below (w.alloc (.cells #[.slice a n cap] 26)).heap.size (w.alloc (.cells #[.slice a n cap] 26)) wr) (fun _ i _ => P - (intOf i).toNat)
  case atStart => exact ⟨0, Nat.zero_le _, rfl, rfl, T0.out⟩
  case round =>
    obtain ⟨k, hk, rfl, rfl, hbel⟩ := hrel
    have c4 := keepC hbel (by simp) C1
    have HIr := Lib.hid (HI.out.below rfl hbel)
    have HBL := Lib.hid hbel
    clear hbel
    by_cases hlt : k < P
    · have hk23 : (k : Int) ≤ 23 := by omega
      have HY := Lib.hid (fun h => stK_yes (l := l) (s := s) (k := k) h)
      have HZ := Lib.hid (fun h => stK_no (l := l) (s := s) (k := k) h)
      have hS24 : stK l s k < 16777216 := stK_lt24 l s (by omega)
      obtain ⟨S, hSS⟩ : ∃ S, stK l s k = S := ⟨_, rfl⟩
      obtain ⟨V, hV⟩ : ∃ V, movN l s k = V := ⟨_, rfl⟩
      have HV := Lib.hid hV
      rw [hSS] at HY HZ hS24
      rw [hSS]
      rw [hV] at HY HZ
      have HOR := Lib.hid (or_step (O := S) (V := (k : Int)) hS24 (by omega) hk23)
      rw [Int.toNat_natCast] at HOR
      have HORS := HOR.out
      clear hSS hV hS24
      by_cases hvs : V = s
      · have E1 := Lib.hid (HY.out hvs)
        have HV := Lib.hid (HV.out.trans hvs)
        clear HY HZ hvs
        go_wp2_with (first
          | (go_at_call 62; refine (sMov _ _ l _ _ s k HA.out hk23 HN.out HG.out HI5.out).mono ?_; rw [HV.out]; rintro e w6 ⟨rfl, hb6⟩)
          | (go_at_call 61; refine (sOrder _ _ l _ _ HN.out HG.out HIr.out).mono ?_; rw [HP.out]; rintro e w5 ⟨rfl, hb5⟩; have HI5 := Lib.hid (HIr.out.below rfl hb5); have c5 := keepC hb5 (World.block_lt_of_cell? wr _ c4) c4))
        go_roundw
        case rel => exact ⟨k + 1, by omega, by go_num, by rw [E1.out], HBL.out.trans ((hb5.trans (hb6.mono hb5.size)).mono HBL.out.size)⟩
        case measure => simp [intOf]; omega
      · have E1 := Lib.hid (HZ.out hvs)
        have hne : ((V : Int) == (s : Int)) = false := by
          have : (V : Int) ≠ (s : Int) := by omega
          simpa using this
        clear HY HZ HOR HORS
        go_wp2_with (first
          | (go_at_call 62; refine (sMov _ _ l _ _ s k HA.out hk23 HN.out HG.out HI5.out).mono ?_; rw [HV.out]; rintro e w6 ⟨rfl, hb6⟩)
          | (go_at_call 61; refine (sOrder _ _ l _ _ HN.out HG.out HIr.out).mono ?_; rw [HP.out]; rintro e w5 ⟨rfl, hb5⟩; have HI5 := Lib.hid (HIr.out.below rfl hb5); have c5 := keepC hb5 (World.block_lt_of_cell? wr _ c4) c4))
        go_roundw
        case rel => exact ⟨k + 1, by omega, by go_num, by rw [E1.out], HBL.out.trans ((hb5.trans (hb6.mono hb5.size)).mono HBL.out.size)⟩
        case measure => simp [intOf]; omega
    · obtain rfl : k = P := by omega
      go_wp2_with (go_at_call 61; refine (sOrder _ _ l _ _ HN.out HG.out HIr.out).mono ?_; rw [HP.out]; rintro e w5 ⟨rfl, hb5⟩)
      go_ret
      exact ⟨rfl, HB.out.trans ((HBL.out.trans (hb5.mono HBL.out.size)).mono (by simp))⟩
set_option maxHeartbeats 4000000 in
theorem sStab (w : World) (a : Option Addr) (l : List Int) (n cap : Nat) (s : Int) (hn : n = l.length) (hm : n ≤ 9223372036854775807) (hi : Ints w a l) :
    Calls Tryd.prog 9 #[.agg #[.slice a n cap], .int .i64 s] w fun e w' => e = .returned (.int .i64 (stE l s)) ∧ Below w.heap.size w w' := by
  have HI := Lib.hid (ints_alloc hi (.cells #[.slice a n cap] 26))
  have HN := Lib.hid hn
  have C1 := newC w (.slice a n cap) 26 (n := w.heap.size) rfl
  have HB := Lib.hid (Joins.below_alloc1 w (.cells #[.slice a n cap] 26))
  have T0 := Lib.hid (Below.refl (w.alloc (.cells #[.slice a n cap] 26)).heap.size (w.alloc (.cells #[.slice a n cap] 26)))
  clear hi hn
  cases hs : isS l s with
  | false =>
    have HS := Lib.hid hs
    rw [show stE l s = -1 by unfold stE; rw [if_neg (by simp [hs])]]
    clear hs
    go_enter Tryd.func9, Tryd.ntmps9
    go_wp2_with (go_at_call 35; refine (sIsSet _ _ _ _ _ _ HN.out hm (HI.out.below rfl T0.out)).mono ?_; rw [HS.out]; rintro e w1 ⟨rfl, hb1⟩; have T1 := Lib.hid (T0.out.trans (hb1.mono T0.out.size)); have c1 := keepC T1.out (by simp) C1)
    go_ret
    exact ⟨rfl, HB.out.trans (T1.out.mono (by simp))⟩
  | true =>
    have HS := Lib.hid hs
    obtain ⟨hg, s, rfl, hsn, hs24⟩ := isS_true hs
    rw [show stE l (s : Int) = ((stN l s : Nat) : Int) by unfold stE; rw [if_pos hs, Int.toNat_natCast]]
    have HG := Lib.hid hg
    have HA := Lib.hid hs24
    clear hs hg hs24 hsn
    go_enter Tryd.func9, Tryd.ntmps9
    go_wp2_with (first
      | (go_at_call 36; refine (sStabL _ _ l _ _ s HA.out HN.out HG.out (HI.out.below rfl T1.out)).mono ?_; rintro e w2 ⟨rfl, hb2⟩; have T2 := Lib.hid (T1.out.trans (hb2.mono T1.out.size)); have c2 := keepC T2.out (by simp) C1)
      | (go_at_call 35; refine (sIsSet _ _ _ _ _ _ HN.out hm (HI.out.below rfl T0.out)).mono ?_; rw [HS.out]; rintro e w1 ⟨rfl, hb1⟩; have T1 := Lib.hid (T0.out.trans (hb1.mono T0.out.size)); have c1 := keepC T1.out (by simp) C1))
    go_ret
    exact ⟨rfl, HB.out.trans (T2.out.mono (by simp))⟩
set_option maxHeartbeats 4000000 in
theorem sPers (w : World) (a : Option Addr) (l : List Int) (n cap : Nat) (s : Int) (hn : n = l.length) (hm : n ≤ 9223372036854775807) (hi : Ints w a l) :
    Calls Tryd.prog 24 #[.agg #[.slice a n cap], .int .i64 s] w fun e w' => ∃ v, e = .returned v ∧ w'.ownsRow w.heap.size 3 1 v (perE l s).length ((perE l s).map (Value.int .i64)) ∧ Below w.heap.size w w' := by
  have HI := Lib.hid (ints_alloc hi (.cells #[.slice a n cap] 26))
  have HN := Lib.hid hn
  have C1 := newC w (.slice a n cap) 26 (n := w.heap.size) rfl
  have HB := Lib.hid (Joins.below_alloc1 w (.cells #[.slice a n cap] 26))
  have T0 := Lib.hid (Below.refl (w.alloc (.cells #[.slice a n cap] 26)).heap.size (w.alloc (.cells #[.slice a n cap] 26)))
  clear hi hn
  cases hs : isS l s with
  | false =>
    have HS := Lib.hid hs
    rw [show perE l s = [] by unfold perE; rw [if_neg (by simp [hs])]]
    clear hs
    go_enter Tryd.func24, Tryd.ntmps24
    go_wp2_with (go_at_call 35; refine (sIsSet _ _ _ _ _ _ HN.out hm (HI.out.below rfl T0.out)).mono ?_; rw [HS.out]; rintro e w1 ⟨rfl, hb1⟩; have T1 := Lib.hid (T0.out.trans (hb1.mono T0.out.size)); have c1 := keepC T1.out (by simp) C1)
    go_ret
    exact ⟨_, rfl, Joins.ownsRow_le (World.ownsRow_lit (base := w1.heap.size) (e := 3) (size := 1) w1 #[] 0 (by simp) (by simp [maxLen]) rfl) (Nat.le_trans (by simp) T1.out.size), HB.out.trans ((T1.out.mono (by simp)).alloc (Nat.le_trans (by simp) T1.out.size) _)⟩
  | true =>
    have HS := Lib.hid hs
    obtain ⟨hg, s, rfl, hsn, hs24⟩ := isS_true hs
    rw [show perE l (s : Int) = LI (stN l s - 1) by unfold perE; rw [if_pos hs, Int.toNat_natCast]]
    have HG := Lib.hid hg
    have HA := Lib.hid hs24
    have h1 := bit0_pos (stN_bit0 hg hsn)
    have h2 := stN_lt24 hg s
    obtain ⟨S, HSS⟩ : ∃ S, Hid (stN l s = S) := ⟨_, Lib.hid rfl⟩
    rw [HSS.out] at h1 h2
    rw [HSS.out]
    obtain ⟨t, rfl⟩ : ∃ t, S = t + 1 := ⟨S - 1, by omega⟩
    rw [Nat.add_sub_cancel]
    have ht : t < 2 ^ 24 := by omega
    have HT := Lib.hid ht
    have het : (((t + 1 : Nat) : Int) - 1) = (t : Int) := by omega
    have ht2 : t < 16777216 := ht
    clear hs hg hs24 hsn h1 h2 ht
    go_enter Tryd.func24, Tryd.ntmps24
    go_wp2_with (first
      | (go_at_call 50; refine (sL3I _ t HT.out).mono ?_; rintro e w3 ⟨v3, rfl, ho3, hb3⟩; have T3 := Lib.hid (T2.out.trans (hb3.mono T2.out.size)))
      | (go_at_call 36; refine (sStabL _ _ l _ _ s HA.out HN.out HG.out (HI.out.below rfl T1.out)).mono ?_; rw [HSS.out]; rintro e w2 ⟨rfl, hb2⟩; have T2 := Lib.hid (T1.out.trans (hb2.mono T1.out.size)); have c2 := keepC T2.out (by simp) C1)
      | (go_at_call 35; refine (sIsSet _ _ _ _ _ _ HN.out hm (HI.out.below rfl T0.out)).mono ?_; rw [HS.out]; rintro e w1 ⟨rfl, hb1⟩; have T1 := Lib.hid (T0.out.trans (hb1.mono T0.out.size)); have c1 := keepC T1.out (by simp) C1))
    go_ret
    exact ⟨_, rfl, Joins.ownsRow_le ho3 (Nat.le_trans (by simp) T2.out.size), HB.out.trans (T3.out.mono (by simp))⟩
set_option maxHeartbeats 4000000 in
theorem sFill (w : World) (a : Option Addr) (l : List Int) (n cap : Nat) (h s : Int) (hn : n = l.length) (hm : n ≤ 9223372036854775807) (hi : Ints w a l) :
    Calls Tryd.prog 19 #[.agg #[.slice a n cap], .int .i64 h, .int .i64 s] w fun e w' => e = .returned (.int .i64 (fillE l h s)) ∧ Below w.heap.size w w' := by
  have HI := Lib.hid (ints_alloc hi (.cells #[.slice a n cap] 26))
  have HN := Lib.hid hn
  have C1 := newC w (.slice a n cap) 26 (n := w.heap.size) rfl
  have HB := Lib.hid (Joins.below_alloc1 w (.cells #[.slice a n cap] 26))
  have T0 := Lib.hid (Below.refl (w.alloc (.cells #[.slice a n cap] 26)).heap.size (w.alloc (.cells #[.slice a n cap] 26)))
  clear hi hn
  cases hh : sgB l h with
  | false =>
    have HH := Lib.hid hh
    rw [show fillE l h s = -1 by unfold fillE; rw [if_neg (by simp [hh])]]
    clear hh
    go_enter Tryd.func19, Tryd.ntmps19
    go_wp2_with (go_at_call 48; refine (sIsSub _ _ _ _ _ _ HN.out hm (HI.out.below rfl T0.out)).mono ?_; rw [HH.out]; rintro e w1 ⟨rfl, hb1⟩; have T1 := Lib.hid (T0.out.trans (hb1.mono T0.out.size)); have c1 := keepC T1.out (by simp) C1)
    go_ret
    exact ⟨rfl, HB.out.trans (T1.out.mono (by simp))⟩
  | true =>
    have HH := Lib.hid hh
    obtain ⟨_, h, rfl, _, hh24⟩ := isS_true (sgB_set hh)
    cases hs : isS l s with
    | false =>
      have HS := Lib.hid hs
      rw [show fillE l h s = -1 by unfold fillE; rw [if_neg (by simp [hs])]]
      clear hs hh
      go_enter Tryd.func19, Tryd.ntmps19
      go_wp2_with (first
      | (go_at_call 35; refine (sIsSet _ _ _ _ _ _ HN.out hm (HI.out.below rfl T1.out)).mono ?_; rw [HS.out]; rintro e w2 ⟨rfl, hb2⟩; have T2 := Lib.hid (T1.out.trans (hb2.mono T1.out.size)); have c2 := keepC T2.out (by simp) C1)
      | (go_at_call 48; refine (sIsSub _ _ _ _ _ _ HN.out hm (HI.out.below rfl T0.out)).mono ?_; rw [HH.out]; rintro e w1 ⟨rfl, hb1⟩; have T1 := Lib.hid (T0.out.trans (hb1.mono T0.out.size)); have c1 := keepC T1.out (by simp) C1))
      go_ret
      exact ⟨rfl, HB.out.trans (T2.out.mono (by simp))⟩
    | true =>
      have HS := Lib.hid hs
      obtain ⟨hg, s, rfl, hsn, hs24⟩ := isS_true hs
      rw [show fillE l (h : Int) (s : Int) = ((sumN l s h : Nat) : Int) by unfold fillE; rw [if_pos ⟨hh, hs⟩, Int.toNat_natCast, Int.toNat_natCast]]
      have HG := Lib.hid hg
      have HA := Lib.hid hs24
      have HC := Lib.hid hh24
      clear hs hh hg hs24 hsn hh24
      go_enter Tryd.func19, Tryd.ntmps19
      go_wp2_with (first
      | (go_at_call 49; refine (sSumL _ _ l _ _ s h HA.out HC.out HN.out HG.out (HI.out.below rfl T2.out)).mono ?_; rintro e w3 ⟨rfl, hb3⟩; have T3 := Lib.hid (T2.out.trans (hb3.mono T2.out.size)); have c3 := keepC T3.out (by simp) C1)
      | (go_at_call 35; refine (sIsSet _ _ _ _ _ _ HN.out hm (HI.out.below rfl T1.out)).mono ?_; rw [HS.out]; rintro e w2 ⟨rfl, hb2⟩; have T2 := Lib.hid (T1.out.trans (hb2.mono T1.out.size)); have c2 := keepC T2.out (by simp) C1)
      | (go_at_call 48; refine (sIsSub _ _ _ _ _ _ HN.out hm (HI.out.below rfl T0.out)).mono ?_; rw [HH.out]; rintro e w1 ⟨rfl, hb1⟩; have T1 := Lib.hid (T0.out.trans (hb1.mono T0.out.size)); have c1 := keepC T1.out (by simp) C1))
      go_ret
      exact ⟨rfl, HB.out.trans (T3.out.mono (by simp))⟩
theorem cosE_no {l : List Int} {h : Int} (e : sgB l h = false) : cosE l h = [] := by unfold cosE; rw [if_neg (by simp [e])]
theorem cosE_yes {l : List Int} {h : Nat} (e : sgB l (h : Int) = true) : cosE l (h : Int) = cosL l h (repsK l h (prodI l).toNat) := by unfold cosE; rw [if_pos e, Int.toNat_natCast]
theorem reps24 {l : List Int} (hg : grpB l = true) (h : Nat) : (repsK l h (prodI l).toNat).length ≤ 24 := by
  have h1 := reps_len l h (prodI l).toNat
  have h2 := (ords_grp hg).prod
  omega
set_option maxHeartbeats 4000000 in
theorem sCore (w : World) (a : Option Addr) (l : List Int) (n cap : Nat) (h s : Int) (hn : n = l.length) (hm : n ≤ 9223372036854775807) (hi : Ints w a l) :
    Calls Tryd.prog 20 #[.agg #[.slice a n cap], .int .i64 h, .int .i64 s] w fun e w' => e = .returned (.int .i64 (coreE l h s)) ∧ Below w.heap.size w w' := by
  have HI := Lib.hid (ints_alloc hi (.cells #[.slice a n cap] 26))
  have HN := Lib.hid hn
  have C1 := newC w (.slice a n cap) 26 (n := w.heap.size) rfl
  have HB := Lib.hid (Joins.below_alloc1 w (.cells #[.slice a n cap] 26))
  have T0 := Lib.hid (Below.refl (w.alloc (.cells #[.slice a n cap] 26)).heap.size (w.alloc (.cells #[.slice a n cap] 26)))
  clear hi hn
  cases hh : sgB l h with
  | false =>
    have HH := Lib.hid hh
    have HE := Lib.hid (cosE_no hh)
    rw [show coreE l h s = -1 by unfold coreE; rw [if_neg (by simp [hh])]]
    clear hh
    go_enter Tryd.func20, Tryd.ntmps20
    go_wp2_with (go_at_call 47; refine (sCosets _ _ l _ _ _ HN.out hm (HI.out.below rfl T0.out)).mono ?_; rw [HH.out, HE.out]; rintro e w1 ⟨v1, rfl, ho1, hb1⟩; obtain ⟨a1, cap1, rfl⟩ := own_slice ho1; clear ho1; have S1 := Lib.hid (T0.out.trans (hb1.mono T0.out.size)); have N1 := Lib.hid S1.out.size; have T1 := S1; have c1 := keepC T1.out (by simp) C1)
    go_ret
    exact ⟨rfl, HB.out.trans (T1.out.mono (by simp))⟩
  | true =>
    have HH := Lib.hid hh
    obtain ⟨hg, h, rfl, _, hh24⟩ := isS_true (sgB_set hh)
    have HE := Lib.hid (cosE_yes hh)
    have HR24 := reps24 hg h
    cases hs : isS l s with
    | false =>
      have HS := Lib.hid hs
      rw [show coreE l h s = -1 by unfold coreE; rw [if_neg (by simp [hs])]]
      obtain ⟨R, hR⟩ : ∃ R, repsK l h (prodI l).toNat = R := ⟨_, rfl⟩
      rw [hR] at HE HR24
      clear hs hh hR hg hh24
      go_enter Tryd.func20, Tryd.ntmps20
      go_wp2_with (first
      | (go_at_call 35; refine (sIsSet _ _ _ _ _ _ HN.out hm (HI.out.below rfl T1.out)).mono ?_; rw [HS.out]; rintro e w2 ⟨rfl, hb2⟩; have T2 := Lib.hid (T1.out.trans (hb2.mono T1.out.size)); have c2 := keepC T2.out (by simp) C1)
      | (go_at_call 47; refine (sCosets _ _ l _ _ _ HN.out hm (HI.out.below rfl T0.out)).mono ?_; rw [HH.out, HE.out]; rintro e w1 ⟨v1, rfl, ho1, hb1⟩; obtain ⟨a1, cap1, rfl⟩ := own_slice ho1; clear ho1; have S1 := Lib.hid (T0.out.trans (hb1.mono T0.out.size)); have N1 := Lib.hid S1.out.size; have T1 := S1; have c1 := keepC T1.out (by simp) C1))
      go_ret
      exact ⟨rfl, HB.out.trans (T2.out.mono (by simp))⟩
    | true =>
      have HS := Lib.hid hs
      obtain ⟨_, s, rfl, _, hs24⟩ := isS_true hs
      rw [show coreE l (h : Int) (s : Int) = ((coreK l h s (repsK l h (prodI l).toNat) : Nat) : Int) by unfold coreE; rw [if_pos ⟨hh, hs⟩, Int.toNat_natCast, Int.toNat_natCast]]
      have HG := Lib.hid hg
      have HA := Lib.hid hs24
      obtain ⟨R, hR⟩ : ∃ R, repsK l h (prodI l).toNat = R := ⟨_, rfl⟩
      rw [hR] at HE HR24 ⊢
      clear hs hh hR hg hh24 hs24
      go_enter Tryd.func20, Tryd.ntmps20
      go_wp2_with (first
      | (go_at_call 35; refine (sIsSet _ _ _ _ _ _ HN.out hm (HI.out.below rfl T1.out)).mono ?_; rw [HS.out]; rintro e w2 ⟨rfl, hb2⟩; have T2 := Lib.hid (T1.out.trans (hb2.mono T1.out.size)); have c2 := keepC T2.out (by simp) C1; have I2 := Lib.hid (I1.out.below rfl hb2))
      | (go_at_call 47; refine (sCosets _ _ l _ _ _ HN.out hm (HI.out.below rfl T0.out)).mono ?_; rw [HH.out, HE.out]; rintro e w1 ⟨v1, rfl, ho1, hb1⟩; obtain ⟨a1, cap1, rfl⟩ := own_slice ho1; have HCL := cosL_len l h R; have I1 := Lib.hid (own_ints ho1); clear ho1; have S1 := Lib.hid (T0.out.trans (hb1.mono T0.out.size)); have N1 := Lib.hid S1.out.size; have T1 := S1; have c1 := keepC T1.out (by simp) C1))
      try rw [HCL]
      obtain ⟨m, hmm⟩ : ∃ m, R.length = m := ⟨_, rfl⟩
      have HMM := Lib.hid hmm
      rw [hmm] at HR24
      try rw [hmm]
      have HC := Lib.hid HCL
      clear HCL hmm
      go_loopw [9, 10] (fun o i wr => ∃ k : Nat, k ≤ m ∧ i = .int .i64 k ∧ o = .int .i64 (coreK l h s (R.take k) : Nat) ∧ Below w2.heap.size w2 wr) (fun _ i _ => m - (intOf i).toNat)
      case atStart => exact ⟨0, Nat.zero_le _, rfl, rfl, Below.refl _ _⟩
      case round =>
        obtain ⟨k, hk, rfl, rfl, hbel⟩ := hrel
        have c4 := keepC hbel (World.block_lt_of_cell? w2 _ c2) c2
        have T4 := Lib.hid (T2.out.trans (hbel.mono T2.out.size))
        by_cases hlt : k < m
        · have hkl : k < (cosL l h R).length := by rw [HC.out, HMM.out]; exact hlt
          have hkR : k < R.length := by rw [HMM.out]; exact hlt
          rcases I2.out with h0 | ⟨b, off, h1, hbl, hc⟩
          · rw [h0] at hkl; simp at hkl
          · subst h1
            have r1 := keepC hbel hbl (hc k hkl)
            rw [cosL_at hkR] at r1
            have hV24 : movN l h (R.getD k 0) < 16777216 := movN_lt24 HG.out h (R.getD k 0)
            have HY := Lib.hid (fun e => core_yes (l := l) (h := h) (a := s) hkR e)
            have HZ := Lib.hid (fun e => core_no (l := l) (h := h) (a := s) hkR e)
            have hC24 : coreK l h s (R.take k) < 16777216 := core_lt24 HG.out h s (R.take k)
            obtain ⟨V, hV⟩ : ∃ V, movN l h (R.getD k 0) = V := ⟨_, rfl⟩
            obtain ⟨C, hC⟩ : ∃ C, coreK l h s (R.take k) = C := ⟨_, rfl⟩
            rw [hV] at r1 hV24 HY HZ
            rw [hC] at hC24 HY HZ
            rw [hC]
            have hs24 : s < 16777216 := HA.out
            have HAN := andI V s (by omega) (by omega)
            have HOR := orI C V hC24 (Nat.le_of_lt hV24)
            have hle : V &&& s ≤ V := Nat.and_le_left
            have HBL := Lib.hid hbel
            clear hV hC hkl hkR hc hbel
            by_cases hp : s &&& V = V
            · have E1 := Lib.hid (HY.out hp)
              rw [Nat.and_comm] at hp
              rw [hp] at HAN
              clear HY HZ hp hle
              go_wp2
              go_region_with (fail)
              all_goals
                go_wp2
                go_roundw
                case rel => exact ⟨k + 1, by omega, by go_num, by rw [E1.out], HBL.out.drew⟩
                case measure => simp [intOf]; omega
            · have E1 := Lib.hid (HZ.out hp)
              rw [Nat.and_comm] at hp
              obtain ⟨M, hM⟩ : ∃ M, V &&& s = M := ⟨_, rfl⟩
              rw [hM] at HAN hp hle
              have hne : ((M : Int) == (V : Int)) = false := by
                have : (M : Int) ≠ (V : Int) := by omega
                simpa using this
              clear HY HZ hM HOR hp
              go_wp2
              go_region_with (fail)
              all_goals
                go_wp2
                go_roundw
                case rel => exact ⟨k + 1, by omega, by go_num, by rw [E1.out], HBL.out.drew⟩
                case measure => simp [intOf]; omega
        · obtain rfl : k = m := by omega
          clear hbel
          go_wp2
          go_ret
          exact ⟨by rw [← HMM.out, List.take_length]; rfl, HB.out.trans (T4.out.mono (by simp))⟩
theorem quoE_no {l : List Int} {h s : Int} (e : quoB l h s = false) : quoE l h s = [] := by unfold quoE; rw [if_neg (by simp [e])]
/-- The quotient's counts as numbers. -/
def quoL (l : List Int) (h s : Nat) (R : List Nat) : List Int := (quoK l h s R).map (fun (x : Nat) => (x : Int))
theorem quoL_len (l : List Int) (h s : Nat) (R : List Nat) : (quoL l h s R).length = R.length := by simp [quoL, quoK]
theorem quoL_next {l : List Int} {h s : Nat} {R : List Nat} {k : Nat} (hk : k < R.length) : quoL l h s (R.take (k + 1)) = quoL l h s (R.take k) ++ [(((bitsN (movN l h (R.getD k 0) &&& s)).length : Nat) : Int)] := by
  unfold quoL
  rw [quo_next hk, List.map_append]
  rfl
theorem quoE_yes {l : List Int} {h s : Nat} (e : quoB l (h : Int) (s : Int) = true) : quoE l (h : Int) (s : Int) = quoL l h s (repsK l h (prodI l).toNat) := by
  unfold quoE quoL
  rw [if_pos e, Int.toNat_natCast, Int.toNat_natCast]
set_option maxHeartbeats 4000000 in
theorem sQuo (w : World) (a : Option Addr) (l : List Int) (n cap : Nat) (h s : Int) (hn : n = l.length) (hm : n ≤ 9223372036854775807) (hi : Ints w a l) :
    Calls Tryd.prog 18 #[.agg #[.slice a n cap], .int .i64 h, .int .i64 s] w fun e w' => ∃ v, e = .returned (.tuple #[v, .bool (quoB l h s)]) ∧ w'.ownsRow w.heap.size 3 1 v (quoE l h s).length ((quoE l h s).map (Value.int .i64)) ∧ Below w.heap.size w w' := by
  have HI := Lib.hid (ints_alloc hi (.cells #[.slice a n cap] 26))
  have HN := Lib.hid hn
  have C1 := newC w (.slice a n cap) 26 (n := w.heap.size) rfl
  have HB := Lib.hid (Joins.below_alloc1 w (.cells #[.slice a n cap] 26))
  have T0 := Lib.hid (Below.refl (w.alloc (.cells #[.slice a n cap] 26)).heap.size (w.alloc (.cells #[.slice a n cap] 26)))
  clear hi hn
  obtain ⟨i0, hi0, hz0, hz1, hz2⟩ := info_parts intInfo
  cases hh : sgB l h with
  | false =>
    have HH := Lib.hid hh
    have HE := Lib.hid (cosE_no hh)
    have hq : quoB l h s = false := by unfold quoB; simp [hh]
    rw [quoE_no hq, hq]
    clear hq
    clear hh
    go_enter Tryd.func18, Tryd.ntmps18
    go_wp2_with (go_at_call 47; refine (sCosets _ _ l _ _ _ HN.out hm (HI.out.below rfl T0.out)).mono ?_; rw [HH.out, HE.out]; rintro e w1 ⟨v1, rfl, ho1, hb1⟩; obtain ⟨a1, cap1, rfl⟩ := own_slice ho1; clear ho1; have S1 := Lib.hid (T0.out.trans (hb1.mono T0.out.size)); have N1 := Lib.hid S1.out.size; have T1 := Lib.hid (S1.out.alloc S1.out.size (.cells #[] 3)); have L1 := Lib.hid (Joins.below_alloc1 w1 (.cells #[] 3)); have O1 := Lib.hid (show (w1.alloc (.cells #[] 3)).ownsRow w1.heap.size 3 1 (.slice (some ⟨w1.heap.size, 0, none⟩) 0 0) 0 [] from World.ownsRow_lit (base := w1.heap.size) (e := 3) (size := 1) w1 #[] 0 (by simp) (by simp [maxLen]) rfl); have c1 := keepC T1.out (by simp) C1)
    go_ret2
    exact ⟨_, rfl, Joins.ownsRow_le O1.out (Nat.le_trans (by simp) N1.out), HB.out.trans (T1.out.mono (by simp))⟩
  | true =>
    have HH := Lib.hid hh
    obtain ⟨hg, h, rfl, _, hh24⟩ := isS_true (sgB_set hh)
    have HE := Lib.hid (cosE_yes hh)
    have HR24 := reps24 hg h
    cases hs : isS l s with
    | false =>
      have HS := Lib.hid hs
      have hq : quoB l h s = false := by unfold quoB; simp [hs]
      rw [quoE_no hq, hq]
      clear hq
      obtain ⟨R, hR⟩ : ∃ R, repsK l h (prodI l).toNat = R := ⟨_, rfl⟩
      rw [hR] at HE HR24
      clear hs hh hR hg hh24
      go_enter Tryd.func18, Tryd.ntmps18
      go_wp2_with (first
      | (go_at_call 35; refine (sIsSet _ _ _ _ _ _ HN.out hm (HI.out.below rfl T1.out)).mono ?_; rw [HS.out]; rintro e w2 ⟨rfl, hb2⟩; have T2 := Lib.hid (T1.out.trans (hb2.mono T1.out.size)); have c2 := keepC T2.out (by simp) C1)
      | (go_at_call 47; refine (sCosets _ _ l _ _ _ HN.out hm (HI.out.below rfl T0.out)).mono ?_; rw [HH.out, HE.out]; rintro e w1 ⟨v1, rfl, ho1, hb1⟩; obtain ⟨a1, cap1, rfl⟩ := own_slice ho1; clear ho1; have S1 := Lib.hid (T0.out.trans (hb1.mono T0.out.size)); have N1 := Lib.hid S1.out.size; have T1 := Lib.hid (S1.out.alloc S1.out.size (.cells #[] 3)); have L1 := Lib.hid (Joins.below_alloc1 w1 (.cells #[] 3)); have O1 := Lib.hid (show (w1.alloc (.cells #[] 3)).ownsRow w1.heap.size 3 1 (.slice (some ⟨w1.heap.size, 0, none⟩) 0 0) 0 [] from World.ownsRow_lit (base := w1.heap.size) (e := 3) (size := 1) w1 #[] 0 (by simp) (by simp [maxLen]) rfl); have c1 := keepC T1.out (by simp) C1))
      go_ret2
      exact ⟨_, rfl, Joins.ownsRow_le (owns_below O1.out hb2) (Nat.le_trans (by simp) N1.out), HB.out.trans (T2.out.mono (by simp))⟩
    | true =>
      have HS := Lib.hid hs
      obtain ⟨_, s, rfl, _, hs24⟩ := isS_true hs
      have hq : quoB l (h : Int) (s : Int) = true := by unfold quoB; rw [hh, hs]; rfl
      rw [quoE_yes hq, hq]
      clear hq
      have HG := Lib.hid hg
      have HA := Lib.hid hs24
      obtain ⟨R, hR⟩ : ∃ R, repsK l h (prodI l).toNat = R := ⟨_, rfl⟩
      rw [hR] at HE HR24 ⊢
      clear hs hh hR hg hh24 hs24
      go_enter Tryd.func18, Tryd.ntmps18
      go_wp2_with (first
      | (go_at_call 35; refine (sIsSet _ _ _ _ _ _ HN.out hm (HI.out.below rfl T1.out)).mono ?_; rw [HS.out]; rintro e w2 ⟨rfl, hb2⟩; have T2 := Lib.hid (T1.out.trans (hb2.mono T1.out.size)); have c2 := keepC T2.out (by simp) C1; have I2 := Lib.hid (I1.out.below rfl (L1.out.trans (hb2.mono (by simp)))); have O2 := Lib.hid (owns_below O1.out hb2); have X2 := Lib.hid (show Below w1.heap.size w1 w2 from L1.out.trans (hb2.mono (by simp))))
      | (go_at_call 47; refine (sCosets _ _ l _ _ _ HN.out hm (HI.out.below rfl T0.out)).mono ?_; rw [HH.out, HE.out]; rintro e w1 ⟨v1, rfl, ho1, hb1⟩; obtain ⟨a1, cap1, rfl⟩ := own_slice ho1; have HCL := cosL_len l h R; have I1 := Lib.hid (own_ints ho1); clear ho1; have S1 := Lib.hid (T0.out.trans (hb1.mono T0.out.size)); have N1 := Lib.hid S1.out.size; have T1 := Lib.hid (S1.out.alloc S1.out.size (.cells #[] 3)); have L1 := Lib.hid (Joins.below_alloc1 w1 (.cells #[] 3)); have O1 := Lib.hid (show (w1.alloc (.cells #[] 3)).ownsRow w1.heap.size 3 1 (.slice (some ⟨w1.heap.size, 0, none⟩) 0 0) 0 [] from World.ownsRow_lit (base := w1.heap.size) (e := 3) (size := 1) w1 #[] 0 (by simp) (by simp [maxLen]) rfl); have c1 := keepC T1.out (by simp) C1))
      try rw [HCL]
      obtain ⟨m, hmm⟩ : ∃ m, R.length = m := ⟨_, rfl⟩
      have HMM := Lib.hid hmm
      rw [hmm] at HR24
      try rw [hmm]
      have HC := Lib.hid HCL
      clear HCL hmm
      go_loopw [10, 11] (fun v i wr => ∃ k : Nat, k ≤ m ∧ i = .int .i64 k ∧ wr.ownsRow w1.heap.size 3 1 v k ((quoL l h s (R.take k)).map (Value.int .i64)) ∧ Below w1.heap.size w2 wr) (fun _ i _ => m - (intOf i).toNat)
      case atStart => exact ⟨0, Nat.zero_le _, rfl, O2.out, Below.refl _ _⟩
      case round =>
        obtain ⟨k, hk, rfl, hown, hbel⟩ := hrel
        have HCK := Lib.hid (show Below (w.alloc (.cells #[.slice a n cap] 26)).heap.size (w.alloc (.cells #[.slice a n cap] 26)) wr from T2.out.trans (hbel.mono N1.out))
        have c4 := keepC HCK.out (by simp) C1
        have HOW := Lib.hid hown
        by_cases hlt : k < m
        · have hkl : k < (cosL l h R).length := by rw [HC.out, HMM.out]; exact hlt
          have hkR : k < R.length := by rw [HMM.out]; exact hlt
          rcases I1.out with h0 | ⟨b, off, h1, hbl, hc⟩
          · rw [h0] at hkl; simp at hkl
          · subst h1
            have r1 := keepC (X2.out.trans hbel) hbl (hc k hkl)
            rw [cosL_at hkR] at r1
            have hV24 : movN l h (R.getD k 0) < 16777216 := movN_lt24 HG.out h (R.getD k 0)
            have HN1 := Lib.hid (quoL_next (l := l) (h := h) (s := s) hkR)
            obtain ⟨V, hV⟩ : ∃ V, movN l h (R.getD k 0) = V := ⟨_, rfl⟩
            rw [hV] at r1 hV24 HN1
            obtain ⟨Q, hQ⟩ : ∃ Q, quoL l h s (R.take k) = Q := ⟨_, rfl⟩
            rw [hQ] at HN1 HOW
            have hs24 : s < 16777216 := HA.out
            have HAN := andI V s (by omega) (by omega)
            have hle : V &&& s ≤ V := Nat.and_le_left
            obtain ⟨M, hM⟩ : ∃ M, V &&& s = M := ⟨_, rfl⟩
            rw [hM] at HAN hle HN1
            have HM24 : Hid (M < 2 ^ 24) := Lib.hid (Nat.lt_of_le_of_lt hle hV24)
            have HBL := Lib.hid hbel
            have HSZ := Lib.hid (show w1.heap.size ≤ wr.heap.size from Nat.le_trans X2.out.size hbel.size)
            have hml := bits_le M
            obtain ⟨z, hz⟩ : ∃ z, (bitsN M).length = z := ⟨_, rfl⟩
            have HZL := Lib.hid hz
            rw [hz] at HN1 hml
            clear hV hM hQ hz hkl hkR hc hbel hle hown
            go_wp2_with (first
              | (at_builtin; refine wpList_append_own _ rfl _ _ 24 rfl w1.heap.size 3 i0 (.int .i64 0) 1 8 Tryd.underlying24 hi0 hz0 hz1 hz2 rfl (by decide) _ _ _ rfl (HOW.out.alloc _) ⟨wr.heap.size, 0, none⟩ 1 1 [.int .i64 (z : Nat)] rfl rfl ?c1 ?c2 ?c3 ?c4 ?c5 ?_)
              | (go_at_call 43; refine (sBits _ M HM24.out).mono ?_; rw [HZL.out]; rintro e w5 ⟨rfl, rfl⟩))
            case c1 =>
              intro q u2 hq
              match q, hq with
              | 0, hq => simp at hq; subst hq; simp [Addr.add]
            case c2 => intro u2 hu2; simp at hu2; subst hu2; rfl
            case c3 => unfold maxLen; omega
            case c4 => omega
            case c5 => have := HSZ.out; simp at *; omega
            intro v' w4 hown' hgrow _
            have HBW : Hid (Below w1.heap.size w2 w4) := Lib.hid ((HBL.out.alloc HSZ.out _).grown hgrow (by have := HSZ.out; simp at *; omega) (fun g hg => by have := (HOW.out.lt g hg).1; omega))
            have HOW4 : Hid (w4.ownsRow w1.heap.size 3 1 v' (k + 1) ((quoL l h s (R.take (k + 1))).map (Value.int .i64))) := Lib.hid (by
              rw [HN1.out]
              simpa using hown')
            clear hown' hgrow
            go_wp2
            go_roundw
            case rel => exact ⟨k + 1, by omega, by go_num, HOW4.out, HBW.out⟩
            case measure => simp [intOf]; omega
        · obtain rfl : k = m := by omega
          have HBL := Lib.hid hbel
          clear hown hbel
          go_wp2
          go_ret2
          exact ⟨_, rfl, by rw [quoL_len, HMM.out]; have h := HOW.out; rw [← HMM.out, List.take_length] at h; rw [← HMM.out]; exact Joins.ownsRow_le h (Nat.le_trans (by simp) N1.out), HB.out.trans (HCK.out.mono (by simp))⟩
end Go.Proofs.YtehdneppleifdaaDoor
