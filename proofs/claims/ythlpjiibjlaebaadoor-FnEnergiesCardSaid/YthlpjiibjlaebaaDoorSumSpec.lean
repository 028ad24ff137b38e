/- Sums of sets by the document's reading: the sum, the difference, multiples, the sums of parts. -/
import Derived.Test.YthlpjiibjlaebaaDoorSumMath
import Derived.Test.YthlpjiibjlaebaaDoorDilSpec
namespace Go.Proofs.YthlpjiibjlaebaaDoor
open Go.RowKit
set_option maxRecDepth 1000000
theorem take_nextG (G : Nat → Nat) (s k : Nat) (h : k < (bitsN s).length) : orG G ((bitsN s).take (k + 1)) = orG G ((bitsN s).take k) ||| G ((bitsN s).getD k 0) := by
  rw [List.take_add_one, List.getElem?_eq_getElem h]
  simp only [Option.toList_some]
  rw [orG_snoc]
  simp [List.getD, List.getElem?_eq_getElem h]
theorem lt24 {x : Nat} (h : x < 2 ^ 24) : x < 16777216 := h
theorem movN_lt24 {l : List Int} (hg : grpB l = true) (a x : Nat) : movN l a x < 2 ^ 24 := grp_pow hg (movN_lt hg a x)
theorem sMov (w : World) (a : Option Addr) (l : List Int) (n cap : Nat) (s y : Nat) (hs : s < 2 ^ 24) (hy : (y : Int) ≤ 23) (hn : n = l.length) (hg : grpB l = true) (hi : Ints w a l) :
    Calls Tryd.prog 81 #[.agg #[.slice a n cap], .int .i64 s, .int .i64 (y : Nat)] w fun e w' => e = .returned (.int .i64 (movN l s y : Nat)) ∧ Below w.heap.size w w' :=
  sShiftL w a l n cap s y hs (by omega) hy hn hg hi
theorem subK_next (l : List Int) (s k : Nat) (h : k < (bitsN s).length) : subK l ((bitsN s).take (k + 1)) = subK l ((bitsN s).take k) ||| movN l (subK l ((bitsN s).take k)) ((bitsN s).getD k 0) := by
  rw [List.take_add_one, List.getElem?_eq_getElem h]
  simp only [Option.toList_some]
  rw [subK_snoc]
  simp [List.getD, List.getElem?_eq_getElem h]
set_option maxHeartbeats 4000000 in
theorem sSumL (w : World) (a : Option Addr) (l : List Int) (n cap : Nat) (s t : Nat) (hs : s < 2 ^ 24) (ht : t < 2 ^ 24) (hn : n = l.length) (hg : grpB l = true) (hi : Ints w a l) :
    Calls Tryd.prog 65 #[.agg #[.slice a n cap], .int .i64 s, .int .i64 t] w fun e w' => e = .returned (.int .i64 (sumN l s t : Nat)) ∧ Below w.heap.size w w' := by
  have HS := Lib.hid hs
  have HC := Lib.hid ht
  have HG := Lib.hid hg
  clear hs ht hg
  have HI := Lib.hid (ints_alloc hi (.cells #[.slice a n cap] 26))
  have HN := Lib.hid hn
  have C1 := newC w (.slice a n cap) 26 (n := w.heap.size) rfl
  have HB := Lib.hid (Joins.below_alloc1 w (.cells #[.slice a n cap] 26))
  have T0 := Lib.hid (Below.refl (w.alloc (.cells #[.slice a n cap] 26)).heap.size (w.alloc (.cells #[.slice a n cap] 26)))
  clear hi hn
  go_enter Tryd.func65, Tryd.ntmps65
  go_wp2_with (go_at_call 66; refine (sL3I _ t HC.out).mono ?_; rintro e w2 ⟨v2, rfl, ho2, hb2⟩; obtain ⟨a2, cap2, rfl⟩ := own_slice ho2; have I2 := Lib.hid (own_ints ho2); have T2 := Lib.hid (T0.out.trans (hb2.mono T0.out.size)); have c2 := keepC T2.out (by simp) C1; clear ho2 hb2)
  go_loopw [7, 9] (fun o i wr => ∃ k : Nat, k ≤ (bitsN t).length ∧ i = .int .i64 k ∧ o = .int .i64 (orG (fun x => movN l s x) ((bitsN t).take k) : Nat) ∧ Below w2.heap.size w2 wr) (fun _ i _ => (bitsN t).length - (intOf i).toNat)
  case atStart => exact ⟨0, Nat.zero_le _, rfl, rfl, Below.refl _ _⟩
  case round =>
    obtain ⟨k, hk, rfl, rfl, hbel⟩ := hrel
    have c4 := keepC hbel (World.block_lt_of_cell? w2 _ c2) c2
    have T4 := Lib.hid (T2.out.trans (hbel.mono T2.out.size))
    have hO : orG (fun x => movN l s x) ((bitsN t).take k) < 2 ^ 24 := grp_pow HG.out (orG_lt _ _ _ (fun x _ => movN_lt HG.out s x))
    have h24 := bits_le t
    have HLN := Lib.hid (LI_len t)
    have hlen : ((LI t).length : Int) = ((bitsN t).length : Int) := by rw [HLN.out]
    by_cases hlt : k < (bitsN t).length
    · have hkl : k < (LI t).length := by rw [HLN.out]; exact hlt
      rcases I2.out with h0 | ⟨b, off, h1, hbl, hc⟩
      · rw [h0] at hkl; simp at hkl
      · subst h1
        have r1 := keepC hbel hbl (hc k hkl)
        rw [LI_at t k hlt] at r1
        have HTN := Lib.hid (take_nextG (fun x => movN l s x) t k hlt)
        have hy := bits_at t k hlt
        obtain ⟨y, HY⟩ : ∃ y, Hid ((bitsN t).getD k 0 = y) := ⟨_, Lib.hid rfl⟩
        rw [HY.out] at HTN hy r1
        obtain ⟨O, HOO⟩ : ∃ O, Hid (orG (fun x => movN l s x) ((bitsN t).take k) = O) := ⟨_, Lib.hid rfl⟩
        rw [HOO.out] at HTN hO
        rw [HOO.out]
        have HO := Lib.hid hO
        have HV0 : movN l s y < 2 ^ 24 := movN_lt24 HG.out s y
        obtain ⟨V, HV⟩ : ∃ V, Hid (movN l s y = V) := ⟨_, Lib.hid rfl⟩
        rw [HV.out] at HV0 HTN
        have HOR := Lib.hid (orI O V (lt24 hO) (Nat.le_of_lt (lt24 HV0)))
        have HORS := HOR.out
        have HBL := Lib.hid hbel
        have hy23 : (y : Int) ≤ 23 := by omega
        clear hc hkl hbel
        have TD := Lib.hid T4.out.drew
        clear hO HV0
        go_wp2
        (first | go_region_with (first | (go_at_call 81; refine (sMov _ _ l _ _ s y HS.out hy23 HN.out HG.out (HI.out.below rfl TD.out)).mono ?_; rw [HV.out]; rintro e w5 ⟨rfl, hb5⟩)) | fail)
        all_goals
          go_wp2
          go_roundw
          case rel => exact ⟨k + 1, by omega, by go_num, by rw [HTN.out], HBL.out.drew.trans (hb5.mono HBL.out.size)⟩
          case measure => simp [intOf]; omega
    · obtain rfl : k = (bitsN t).length := by omega
      have HBL := Lib.hid hbel
      clear hbel hO
      go_wp2
      go_ret
      exact ⟨by rw [List.take_length]; rfl, HB.out.trans ((T2.out.mono (by simp)).trans (HBL.out.mono (Nat.le_trans (by simp) T2.out.size)))⟩
set_option maxHeartbeats 4000000 in
theorem sSum (w : World) (a : Option Addr) (l : List Int) (n cap : Nat) (s t : Int) (hn : n = l.length) (hm : n ≤ 9223372036854775807) (hi : Ints w a l) :
    Calls Tryd.prog 14 #[.agg #[.slice a n cap], .int .i64 s, .int .i64 t] w fun e w' => e = .returned (.int .i64 (sumE l s t)) ∧ Below w.heap.size w w' := by
  have HI := Lib.hid (ints_alloc hi (.cells #[.slice a n cap] 26))
  have HN := Lib.hid hn
  have C1 := newC w (.slice a n cap) 26 (n := w.heap.size) rfl
  have HB := Lib.hid (Joins.below_alloc1 w (.cells #[.slice a n cap] 26))
  have T0 := Lib.hid (Below.refl (w.alloc (.cells #[.slice a n cap] 26)).heap.size (w.alloc (.cells #[.slice a n cap] 26)))
  clear hi hn
  cases hs : isS l s with
  | false =>
    have HS := Lib.hid hs
    rw [show sumE l s t = -1 by unfold sumE two; rw [hs]; rfl]
    clear hs
    go_enter Tryd.func14, Tryd.ntmps14
    go_wp2_with (first
      | (go_at_call 64; refine (sIsSet _ _ _ _ _ _ HN.out hm (HI.out.below rfl T0.out)).mono ?_; rw [HS.out]; rintro e w1 ⟨rfl, hb1⟩; have T1 := Lib.hid (T0.out.trans (hb1.mono T0.out.size)); have c1 := keepC T1.out (by simp) C1))
    go_ret
    exact ⟨rfl, HB.out.trans (T1.out.mono (by simp))⟩
  | true =>
    have HS := Lib.hid hs
    cases ht : isS l t with
    | false =>
      have HS2 := Lib.hid ht
      rw [show sumE l s t = -1 by unfold sumE two; rw [hs, ht]; rfl]
      clear hs ht
      go_enter Tryd.func14, Tryd.ntmps14
      go_wp2_with (first
        | (go_at_call 64; have hx_ := T1; clear hx_; refine (sIsSet _ _ _ _ _ _ HN.out hm (HI.out.below rfl T1.out)).mono ?_; rw [HS2.out]; rintro e w2 ⟨rfl, hb2⟩; have T2 := Lib.hid (T1.out.trans (hb2.mono T1.out.size)); have c2 := keepC T2.out (by simp) C1)
        | (go_at_call 64; refine (sIsSet _ _ _ _ _ _ HN.out hm (HI.out.below rfl T0.out)).mono ?_; rw [HS.out]; rintro e w1 ⟨rfl, hb1⟩; have T1 := Lib.hid (T0.out.trans (hb1.mono T0.out.size)); have c1 := keepC T1.out (by simp) C1))
      go_ret
      exact ⟨rfl, HB.out.trans (T2.out.mono (by simp))⟩
    | true =>
      have HS2 := Lib.hid ht
      obtain ⟨hg, s, rfl, _, hs24⟩ := isS_true hs
      obtain ⟨_, t, rfl, _, ht24⟩ := isS_true ht
      rw [show sumE l s t = (sumN l s t : Nat) by unfold sumE two; rw [hs, ht]; rfl]
      have HG := Lib.hid hg
      have HA := Lib.hid hs24
      have HC := Lib.hid ht24
      clear hs ht hg hs24 ht24
      go_enter Tryd.func14, Tryd.ntmps14
      go_wp2_with (first
        | (go_at_call 65; refine (sSumL _ _ l _ _ s t HA.out HC.out HN.out HG.out (HI.out.below rfl T2.out)).mono ?_; rintro e w3 ⟨rfl, hb3⟩; have T3 := Lib.hid (T2.out.trans (hb3.mono T2.out.size)); have c3 := keepC T3.out (by simp) C1)
        | (go_at_call 64; have hx_ := T1; clear hx_; refine (sIsSet _ _ _ _ _ _ HN.out hm (HI.out.below rfl T1.out)).mono ?_; rw [HS2.out]; rintro e w2 ⟨rfl, hb2⟩; have T2 := Lib.hid (T1.out.trans (hb2.mono T1.out.size)); have c2 := keepC T2.out (by simp) C1)
        | (go_at_call 64; refine (sIsSet _ _ _ _ _ _ HN.out hm (HI.out.below rfl T0.out)).mono ?_; rw [HS.out]; rintro e w1 ⟨rfl, hb1⟩; have T1 := Lib.hid (T0.out.trans (hb1.mono T0.out.size)); have c1 := keepC T1.out (by simp) C1))
      go_ret
      exact ⟨rfl, HB.out.trans (T3.out.mono (by simp))⟩
set_option maxHeartbeats 4000000 in
theorem sDif (w : World) (a : Option Addr) (l : List Int) (n cap : Nat) (s t : Int) (hn : n = l.length) (hm : n ≤ 9223372036854775807) (hi : Ints w a l) :
    Calls Tryd.prog 17 #[.agg #[.slice a n cap], .int .i64 s, .int .i64 t] w fun e w' => e = .returned (.int .i64 (difE l s t)) ∧ Below w.heap.size w w' := by
  have HI := Lib.hid (ints_alloc hi (.cells #[.slice a n cap] 26))
  have HN := Lib.hid hn
  have C1 := newC w (.slice a n cap) 26 (n := w.heap.size) rfl
  have HB := Lib.hid (Joins.below_alloc1 w (.cells #[.slice a n cap] 26))
  have T0 := Lib.hid (Below.refl (w.alloc (.cells #[.slice a n cap] 26)).heap.size (w.alloc (.cells #[.slice a n cap] 26)))
  clear hi hn
  cases hs : isS l s with
  | false =>
    have HS := Lib.hid hs
    rw [show difE l s t = -1 by unfold difE two; rw [hs]; rfl]
    clear hs
    go_enter Tryd.func17, Tryd.ntmps17
    go_wp2_with (first
      | (go_at_call 64; refine (sIsSet _ _ _ _ _ _ HN.out hm (HI.out.below rfl T0.out)).mono ?_; rw [HS.out]; rintro e w1 ⟨rfl, hb1⟩; have T1 := Lib.hid (T0.out.trans (hb1.mono T0.out.size)); have c1 := keepC T1.out (by simp) C1))
    go_ret
    exact ⟨rfl, HB.out.trans (T1.out.mono (by simp))⟩
  | true =>
    have HS := Lib.hid hs
    cases ht : isS l t with
    | false =>
      have HS2 := Lib.hid ht
      rw [show difE l s t = -1 by unfold difE two; rw [hs, ht]; rfl]
      clear hs ht
      go_enter Tryd.func17, Tryd.ntmps17
      go_wp2_with (first
        | (go_at_call 64; have hx_ := T1; clear hx_; refine (sIsSet _ _ _ _ _ _ HN.out hm (HI.out.below rfl T1.out)).mono ?_; rw [HS2.out]; rintro e w2 ⟨rfl, hb2⟩; have T2 := Lib.hid (T1.out.trans (hb2.mono T1.out.size)); have c2 := keepC T2.out (by simp) C1)
        | (go_at_call 64; refine (sIsSet _ _ _ _ _ _ HN.out hm (HI.out.below rfl T0.out)).mono ?_; rw [HS.out]; rintro e w1 ⟨rfl, hb1⟩; have T1 := Lib.hid (T0.out.trans (hb1.mono T0.out.size)); have c1 := keepC T1.out (by simp) C1))
      go_ret
      exact ⟨rfl, HB.out.trans (T2.out.mono (by simp))⟩
    | true =>
      have HS2 := Lib.hid ht
      obtain ⟨hg, s, rfl, _, hs24⟩ := isS_true hs
      obtain ⟨_, t, rfl, _, ht24⟩ := isS_true ht
      rw [show difE l s t = (sumN l s (ngN l t) : Nat) by unfold difE two; rw [hs, ht]; rfl]
      have HG := Lib.hid hg
      have HA := Lib.hid hs24
      have HC := Lib.hid ht24
      clear hs ht hg hs24 ht24
      have HNL : Hid (ngN l t < 2 ^ 24) := Lib.hid (grp_pow HG.out (ngN_lt HG.out t))
      have HNG : Hid (orF (fun y => negN l (y : Int)) (bitsN t) = ngN l t) := Lib.hid rfl
      obtain ⟨u, HU⟩ : ∃ u, Hid (ngN l t = u) := ⟨_, Lib.hid rfl⟩
      rw [HU.out] at HNL HNG
      rw [HU.out]
      go_enter Tryd.func17, Tryd.ntmps17
      go_wp2_with (first
        | (go_at_call 64; have hx_ := T1; clear hx_; refine (sIsSet _ _ _ _ _ _ HN.out hm (HI.out.below rfl T1.out)).mono ?_; rw [HS2.out]; rintro e w2 ⟨rfl, hb2⟩; have T2 := Lib.hid (T1.out.trans (hb2.mono T1.out.size)); have c2 := keepC T2.out (by simp) C1)
        | (go_at_call 64; refine (sIsSet _ _ _ _ _ _ HN.out hm (HI.out.below rfl T0.out)).mono ?_; rw [HS.out]; rintro e w1 ⟨rfl, hb1⟩; have T1 := Lib.hid (T0.out.trans (hb1.mono T0.out.size)); have c1 := keepC T1.out (by simp) C1))
      go_region_held3 (fun W => W.cell? ⟨w.heap.size, 0, none⟩ = some (.slice a n cap)) (first | exact c4 | exact c3 | exact c2)
        (first
        | (go_at_call 65; refine (sSumL _ _ l _ _ s u HA.out HNL.out HN.out HG.out (HI.out.below rfl T3.out)).mono ?_; rintro e w4 ⟨rfl, hb4⟩; have T4 := Lib.hid (T3.out.trans (hb4.mono T3.out.size)); have c4 := keepC T4.out (by simp) C1)
        | (go_at_call 68; refine (sNegL _ _ l _ _ t HC.out HN.out HG.out (HI.out.below rfl T2.out.drew)).mono ?_; rw [HNG.out]; rintro e w3 ⟨rfl, hb3⟩; have T3 := Lib.hid (T2.out.drew.trans (hb3.mono T2.out.drew.size)); have c3 := keepC T3.out (by simp) C1))
      go_wp2
      go_ret
      exact ⟨rfl, HB.out.trans (T4.out.mono (by simp))⟩
set_option maxHeartbeats 4000000 in
theorem sSub (w : World) (a : Option Addr) (l : List Int) (n cap : Nat) (s : Int) (hn : n = l.length) (hm : n ≤ 9223372036854775807) (hi : Ints w a l) :
    Calls Tryd.prog 28 #[.agg #[.slice a n cap], .int .i64 s] w fun e w' => e = .returned (.int .i64 (subE l s)) ∧ Below w.heap.size w w' := by
  have HI := Lib.hid (ints_alloc hi (.cells #[.slice a n cap] 26))
  have HN := Lib.hid hn
  have C1 := newC w (.slice a n cap) 26 (n := w.heap.size) rfl
  have HB := Lib.hid (Joins.below_alloc1 w (.cells #[.slice a n cap] 26))
  have T0 := Lib.hid (Below.refl (w.alloc (.cells #[.slice a n cap] 26)).heap.size (w.alloc (.cells #[.slice a n cap] 26)))
  clear hi hn
  cases hs : isS l s with
  | false =>
    have HS := Lib.hid hs
    rw [show subE l s = -1 by unfold subE; rw [if_neg (by simp [hs])]]
    clear hs
    go_enter Tryd.func28, Tryd.ntmps28
    go_wp2_with (first
      | (go_at_call 64; refine (sIsSet _ _ _ _ _ _ HN.out hm (HI.out.below rfl T0.out)).mono ?_; rw [HS.out]; rintro e w1 ⟨rfl, hb1⟩; have T1 := Lib.hid (T0.out.trans (hb1.mono T0.out.size)); have c1 := keepC T1.out (by simp) C1))
    go_ret
    exact ⟨rfl, HB.out.trans (T1.out.mono (by simp))⟩
  | true =>
    have HSS := Lib.hid hs
    obtain ⟨hg, t, rfl, _, ht24⟩ := isS_true hs
    rw [show subE l t = (subK l (bitsN t) : Nat) by unfold subE; rw [if_pos hs]; rfl]
    have HG := Lib.hid hg
    have HC := Lib.hid ht24
    clear hs hg ht24
    go_enter Tryd.func28, Tryd.ntmps28
    go_wp2_with (first
      | (go_at_call 66; refine (sL3I _ t HC.out).mono ?_; rintro e w2 ⟨v2, rfl, ho2, hb2⟩; obtain ⟨a2, cap2, rfl⟩ := own_slice ho2; have I2 := Lib.hid (own_ints ho2); have T2 := Lib.hid (T1.out.trans (hb2.mono T1.out.size)); have c2 := keepC T2.out (by simp) C1; clear ho2 hb2)
      | (go_at_call 64; refine (sIsSet _ _ _ _ _ _ HN.out hm (HI.out.below rfl T0.out)).mono ?_; rw [HSS.out]; rintro e w1 ⟨rfl, hb1⟩; have T1 := Lib.hid (T0.out.trans (hb1.mono T0.out.size)); have c1 := keepC T1.out (by simp) C1))
    go_loopw [5, 7] (fun o i wr => ∃ k : Nat, k ≤ (bitsN t).length ∧ i = .int .i64 k ∧ o = .int .i64 (subK l ((bitsN t).take k) : Nat) ∧ Below w2.heap.size w2 wr) (fun _ i _ => (bitsN t).length - (intOf i).toNat)
    case atStart => exact ⟨0, Nat.zero_le _, rfl, rfl, Below.refl _ _⟩
    case round =>
      obtain ⟨k, hk, rfl, rfl, hbel⟩ := hrel
      have c4 := keepC hbel (World.block_lt_of_cell? w2 _ c2) c2
      have T4 := Lib.hid (T2.out.trans (hbel.mono T2.out.size))
      have hO : subK l ((bitsN t).take k) < 2 ^ 24 := grp_pow HG.out (subK_lt HG.out _)
      have h24 := bits_le t
      have HLN := Lib.hid (LI_len t)
      have hlen : ((LI t).length : Int) = ((bitsN t).length : Int) := by rw [HLN.out]
      by_cases hlt : k < (bitsN t).length
      · have hkl : k < (LI t).length := by rw [HLN.out]; exact hlt
        rcases I2.out with h0 | ⟨b, off, h1, hbl, hc⟩
        · rw [h0] at hkl; simp at hkl
        · subst h1
          have r1 := keepC hbel hbl (hc k hkl)
          rw [LI_at t k hlt] at r1
          have HTN := Lib.hid (subK_next l t k hlt)
          have hy := bits_at t k hlt
          obtain ⟨y, HY⟩ : ∃ y, Hid ((bitsN t).getD k 0 = y) := ⟨_, Lib.hid rfl⟩
          rw [HY.out] at HTN hy r1
          obtain ⟨O, HOO⟩ : ∃ O, Hid (subK l ((bitsN t).take k) = O) := ⟨_, Lib.hid rfl⟩
          rw [HOO.out] at HTN hO
          rw [HOO.out]
          have HO := Lib.hid hO
          have HV0 : movN l O y < 2 ^ 24 := movN_lt24 HG.out O y
          obtain ⟨V, HV⟩ : ∃ V, Hid (movN l O y = V) := ⟨_, Lib.hid rfl⟩
          rw [HV.out] at HV0 HTN
          have HOR := Lib.hid (orI O V (lt24 hO) (Nat.le_of_lt (lt24 HV0)))
          have HORS := HOR.out
          have HBL := Lib.hid hbel
          have hy23 : (y : Int) ≤ 23 := by omega
          clear hc hkl hbel
          have TD := Lib.hid T4.out.drew
          clear hO HV0
          go_wp2
          (first | go_region_with (first | (go_at_call 81; refine (sMov _ _ l _ _ O y HO.out hy23 HN.out HG.out (HI.out.below rfl TD.out)).mono ?_; rw [HV.out]; rintro e w5 ⟨rfl, hb5⟩)) | fail)
          all_goals
            go_wp2
            go_roundw
            case rel => exact ⟨k + 1, by omega, by go_num, by rw [HTN.out], HBL.out.drew.trans (hb5.mono HBL.out.size)⟩
            case measure => simp [intOf]; omega
      · obtain rfl : k = (bitsN t).length := by omega
        have HBL := Lib.hid hbel
        clear hbel hO
        go_wp2
        go_ret
        exact ⟨by rw [List.take_length]; rfl, HB.out.trans ((T2.out.mono (by simp)).trans (HBL.out.mono (Nat.le_trans (by simp) T2.out.size)))⟩
set_option maxHeartbeats 4000000 in
theorem sMult (w : World) (a : Option Addr) (l : List Int) (n cap : Nat) (s t : Int) (hn : n = l.length) (hm : n ≤ 9223372036854775807) (hi : Ints w a l) :
    Calls Tryd.prog 22 #[.agg #[.slice a n cap], .int .i64 s, .int .i64 t] w fun e w' => e = .returned (.int .i64 (mltE l s t)) ∧ Below w.heap.size w w' := by
  have HI := Lib.hid (ints_alloc hi (.cells #[.slice a n cap] 26))
  have HN := Lib.hid hn
  have C1 := newC w (.slice a n cap) 26 (n := w.heap.size) rfl
  have HB := Lib.hid (Joins.below_alloc1 w (.cells #[.slice a n cap] 26))
  have T0 := Lib.hid (Below.refl (w.alloc (.cells #[.slice a n cap] 26)).heap.size (w.alloc (.cells #[.slice a n cap] 26)))
  clear hi hn
  cases hs : isS l s with
  | false =>
    have HS := Lib.hid hs
    rw [show mltE l s t = -1 by unfold mltE; rw [if_neg (by simp [hs])]]
    clear hs
    go_enter Tryd.func22, Tryd.ntmps22
    go_wp2_with (first
      | (go_at_call 64; refine (sIsSet _ _ _ _ _ _ HN.out hm (HI.out.below rfl T0.out)).mono ?_; rw [HS.out]; rintro e w1 ⟨rfl, hb1⟩; have T1 := Lib.hid (T0.out.trans (hb1.mono T0.out.size)); have c1 := keepC T1.out (by simp) C1))
    go_ret
    exact ⟨rfl, HB.out.trans (T1.out.mono (by simp))⟩
  | true =>
    have HS := Lib.hid hs
    by_cases hk : 0 ≤ t ∧ t ≤ 30
    · obtain ⟨hg, s, rfl, _, hs24⟩ := isS_true hs
      obtain ⟨t, rfl⟩ : ∃ u : Nat, t = (u : Int) := ⟨t.toNat, by omega⟩
      rw [show mltE l s t = (powS l s t : Nat) by unfold mltE; rw [if_pos hs, if_pos hk]; rfl]
      have HK : Hid (true = (decide ((0 : Int) ≤ t) && decide ((t : Int) ≤ 30))) := Lib.hid (by simp [hk.2])
      have hk30 : (t : Int) ≤ 30 := hk.2
      have HG := Lib.hid hg
      have HA := Lib.hid hs24
      clear hs hg hs24 hk
      go_enter Tryd.func22, Tryd.ntmps22
      go_wp2_with (first
        | (go_at_call 73; refine (sIn _ _ _ _ _ HK.out).mono ?_; rintro e w2 ⟨rfl, rfl⟩)
        | (go_at_call 64; refine (sIsSet _ _ _ _ _ _ HN.out hm (HI.out.below rfl T0.out)).mono ?_; rw [HS.out]; rintro e w1 ⟨rfl, hb1⟩; have T1 := Lib.hid (T0.out.trans (hb1.mono T0.out.size)); have c1 := keepC T1.out (by simp) C1))
      go_loopw [7, 8] (fun o i wr => ∃ k : Nat, k ≤ t ∧ i = .int .i64 k ∧ o = .int .i64 (powS l s k : Nat) ∧ Below w1.heap.size w1 wr) (fun _ i _ => t - (intOf i).toNat)
      case atStart => exact ⟨0, Nat.zero_le _, rfl, rfl, Below.refl _ _⟩
      case round =>
        obtain ⟨k, hk, rfl, rfl, hbel⟩ := hrel
        have c4 := keepC hbel (World.block_lt_of_cell? w1 _ c1) c1
        have T4 := Lib.hid (T1.out.trans (hbel.mono T1.out.size))
        have HBL := Lib.hid hbel
        by_cases hlt : k < t
        · have HO := Lib.hid (grp_pow HG.out (powS_lt HG.out s k))
          have HNX : Hid (sumN l (powS l s k) s = powS l s (k + 1)) := Lib.hid rfl
          obtain ⟨O, HOO⟩ : ∃ O, Hid (powS l s k = O) := ⟨_, Lib.hid rfl⟩
          rw [HOO.out] at HO HNX
          rw [HOO.out]
          clear hbel
          go_wp2_with (go_at_call 65; refine (sSumL _ _ l _ _ O s HO.out HA.out HN.out HG.out (HI.out.below rfl T4.out)).mono ?_; rw [HNX.out]; rintro e w5 ⟨rfl, hb5⟩)
          go_roundw
          case rel => exact ⟨k + 1, by omega, by go_num, rfl, HBL.out.trans (hb5.mono HBL.out.size)⟩
          case measure => simp [intOf]; omega
        · obtain rfl : k = t := by omega
          clear hbel
          go_wp2
          go_ret
          exact ⟨rfl, HB.out.trans (T4.out.mono (by simp))⟩
    · rw [show mltE l s t = -1 by unfold mltE; rw [if_pos hs, if_neg hk]]
      have HK : Hid (false = (decide (0 ≤ t) && decide (t ≤ 30))) := Lib.hid (by
        by_cases h1 : 0 ≤ t
        · have h2 : ¬ t ≤ 30 := fun h => hk ⟨h1, h⟩
          simp [h2]
        · simp [h1])
      clear hs hk
      go_enter Tryd.func22, Tryd.ntmps22
      go_wp2_with (first
        | (go_at_call 73; refine (sIn _ _ _ _ _ HK.out).mono ?_; rintro e w2 ⟨rfl, rfl⟩)
        | (go_at_call 64; refine (sIsSet _ _ _ _ _ _ HN.out hm (HI.out.below rfl T0.out)).mono ?_; rw [HS.out]; rintro e w1 ⟨rfl, hb1⟩; have T1 := Lib.hid (T0.out.trans (hb1.mono T0.out.size)); have c1 := keepC T1.out (by simp) C1))
      go_ret
      exact ⟨rfl, HB.out.trans (T1.out.mono (by simp))⟩
end Go.Proofs.YthlpjiibjlaebaaDoor
