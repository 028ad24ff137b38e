/- The document's reading of chapter 9: the bounds of Cauchy and of Chowla. -/
import Derived.Test.YtaacofbmbpkeoaaGreatDoorKnSpec
import Derived.Test.YtaacofbmbpkeoaaGreatDoorMGAC
namespace Go.Proofs.YtaacofbmbpkeoaaGreatDoor
open Go.RowKit
set_option maxRecDepth 1000000
theorem tmod_nat (m n : Nat) : (m : Int).tmod (n : Int) = ((m % n : Nat) : Int) := by
  rw [Int.tmod_eq_emod_of_nonneg (by omega)]
  rfl
theorem ldS_yes {P i : Nat} (h : P % (P - i) = 0) : ldS P (i + 1) = P - i := by
  show (if P % (P - i) = 0 then P - i else ldS P i) = _
  rw [if_pos h]
theorem ldS_no {P i : Nat} (h : P % (P - i) ≠ 0) : ldS P (i + 1) = ldS P i := by
  show (if P % (P - i) = 0 then P - i else ldS P i) = _
  rw [if_neg h]
set_option maxHeartbeats 4000000 in
theorem sCau (w : World) (a : Option Addr) (l : List Int) (n cap : Nat) (s t : Int) (hn : n = l.length) (hm : n ≤ 9223372036854775807) (hi : Ints w a l) :
    Calls Tryz.prog 26 #[.agg #[.slice a n cap], .int .i64 s, .int .i64 t] w fun e w' => e = .returned (.int .i64 (cauE l s t)) ∧ Below w.heap.size w w' := by
  have HI := Lib.hid (ints_alloc hi (.cells #[.slice a n cap] 26))
  have HN := Lib.hid hn
  have C1 := newC w (.slice a n cap) 26 (n := w.heap.size) rfl
  have HB := Lib.hid (Joins.below_alloc1 w (.cells #[.slice a n cap] 26))
  have T0 := Lib.hid (Below.refl (w.alloc (.cells #[.slice a n cap] 26)).heap.size (w.alloc (.cells #[.slice a n cap] 26)))
  clear hi hn
  cases hs : isS l s with
  | false =>
    have HS := Lib.hid hs
    have hne : neB l s t = false := by unfold neB two; rw [hs]; rfl
    rw [show cauE l s t = -1 by unfold cauE; rw [hne]; rfl]
    clear hs hne
    go_enter Tryz.func26, Tryz.ntmps26
    go_wp2_with (go_at_call 42; refine (sIsSet _ _ _ _ _ _ HN.out hm (HI.out.below rfl T0.out)).mono ?_; rw [HS.out]; rintro e w1 ⟨rfl, hb1⟩; have T1 := Lib.hid (T0.out.trans (hb1.mono T0.out.size)); have c1 := keepC T1.out (by simp) C1; have K1 := True.intro)
    go_ret
    exact ⟨rfl, HB.out.trans (T1.out.mono (by simp))⟩
  | true =>
    have HS := Lib.hid hs
    cases ht : isS l t with
    | false =>
      have HS2 := Lib.hid ht
      have hne : neB l s t = false := by unfold neB two; rw [hs, ht]; rfl
      rw [show cauE l s t = -1 by unfold cauE; rw [hne]; rfl]
      clear hs ht hne
      go_enter Tryz.func26, Tryz.ntmps26
      go_wp2_with (first
        | (go_at_call 42; have hx_ := K1; clear hx_; refine (sIsSet _ _ _ _ _ _ HN.out hm (HI.out.below rfl T1.out)).mono ?_; rw [HS2.out]; rintro e w2 ⟨rfl, hb2⟩; have T2 := Lib.hid (T1.out.trans (hb2.mono T1.out.size)); have c2 := keepC T2.out (by simp) C1; have K2 := True.intro)
        | (go_at_call 42; refine (sIsSet _ _ _ _ _ _ HN.out hm (HI.out.below rfl T0.out)).mono ?_; rw [HS.out]; rintro e w1 ⟨rfl, hb1⟩; have T1 := Lib.hid (T0.out.trans (hb1.mono T0.out.size)); have c1 := keepC T1.out (by simp) C1; have K1 := True.intro))
      go_ret
      exact ⟨rfl, HB.out.trans (T2.out.mono (by simp))⟩
    | true =>
      have HS2 := Lib.hid ht
      by_cases hs0 : s = 0
      · have hne : neB l s t = false := by unfold neB; rw [hs0]; simp
        rw [show cauE l s t = -1 by unfold cauE; rw [hne]; rfl]
        subst hs0
        clear hs ht hne
        go_enter Tryz.func26, Tryz.ntmps26
        go_wp2_with (first
          | (go_at_call 42; have hx_ := K1; clear hx_; refine (sIsSet _ _ _ _ _ _ HN.out hm (HI.out.below rfl T1.out)).mono ?_; rw [HS2.out]; rintro e w2 ⟨rfl, hb2⟩; have T2 := Lib.hid (T1.out.trans (hb2.mono T1.out.size)); have c2 := keepC T2.out (by simp) C1; have K2 := True.intro)
          | (go_at_call 42; refine (sIsSet _ _ _ _ _ _ HN.out hm (HI.out.below rfl T0.out)).mono ?_; rw [HS.out]; rintro e w1 ⟨rfl, hb1⟩; have T1 := Lib.hid (T0.out.trans (hb1.mono T0.out.size)); have c1 := keepC T1.out (by simp) C1; have K1 := True.intro))
        go_ret
        exact ⟨rfl, HB.out.trans (T2.out.mono (by simp))⟩
      by_cases ht0 : t = 0
      · have hne : neB l s t = false := by unfold neB; rw [ht0]; simp
        rw [show cauE l s t = -1 by unfold cauE; rw [hne]; rfl]
        have es : (s == 0) = false := by simpa using hs0
        subst ht0
        clear hs ht hne hs0
        go_enter Tryz.func26, Tryz.ntmps26
        go_wp2_with (first
          | (go_at_call 42; have hx_ := K1; clear hx_; refine (sIsSet _ _ _ _ _ _ HN.out hm (HI.out.below rfl T1.out)).mono ?_; rw [HS2.out]; rintro e w2 ⟨rfl, hb2⟩; have T2 := Lib.hid (T1.out.trans (hb2.mono T1.out.size)); have c2 := keepC T2.out (by simp) C1; have K2 := True.intro)
          | (go_at_call 42; refine (sIsSet _ _ _ _ _ _ HN.out hm (HI.out.below rfl T0.out)).mono ?_; rw [HS.out]; rintro e w1 ⟨rfl, hb1⟩; have T1 := Lib.hid (T0.out.trans (hb1.mono T0.out.size)); have c1 := keepC T1.out (by simp) C1; have K1 := True.intro))
        go_ret
        exact ⟨rfl, HB.out.trans (T2.out.mono (by simp))⟩
      have hne : neB l s t = true := by unfold neB two; rw [hs, ht]; simp [hs0, ht0]
      obtain ⟨hg, p, rfl, hp, hp24⟩ := isS_true hs
      obtain ⟨_, q, rfl, hq, hq24⟩ := isS_true ht
      have es : ((p : Int) == 0) = false := by simpa using hs0
      have et : ((q : Int) == 0) = false := by simpa using ht0
      have HG := Lib.hid hg
      have HP := Lib.hid hp24
      have HQ := Lib.hid hq24
      have hpr := (ords_grp hg).prod
      obtain ⟨P, hPe⟩ : ∃ P : Nat, prodI l = (P : Int) := ⟨(prodI l).toNat, by omega⟩
      have hP1 : 1 ≤ P := by omega
      have hP24 : P ≤ 24 := by omega
      have HPP := Lib.hid hPe
      obtain ⟨cp, Hcp⟩ : ∃ z, Hid ((bitsN p).length = z) := ⟨_, Lib.hid rfl⟩
      have bcp : cp ≤ 24 := by have := bits_le p; have := Hcp.out; omega
      obtain ⟨cq, Hcq⟩ : ∃ z, Hid ((bitsN q).length = z) := ⟨_, Lib.hid rfl⟩
      have bcq : cq ≤ 24 := by have := bits_le q; have := Hcq.out; omega
      rw [show cauE l (p : Int) (q : Int) = min ((ldS P (P - 1) : Nat) : Int) ((cp : Int) + (cq : Int) - 1) by unfold cauE ldN; rw [if_pos hne, hPe]; simp only [Int.toNat_natCast]; rw [Hcp.out, Hcq.out]]
      have HD := Lib.hid (fun i hi => ldS_div hP1 i hi)
      clear hs ht hs0 ht0 hne hg hp hp24 hq hq24 hpr hPe
      go_enter Tryz.func26, Tryz.ntmps26
      go_upto_region 3 with (first
        | (go_at_call 42; have hx_ := K1; clear hx_; refine (sIsSet _ _ _ _ _ _ HN.out hm (HI.out.below rfl T1.out)).mono ?_; rw [HS2.out]; rintro e w2 ⟨rfl, hb2⟩; have T2 := Lib.hid (T1.out.trans (hb2.mono T1.out.size)); have c2 := keepC T2.out (by simp) C1; have K2 := True.intro)
        | (go_at_call 42; refine (sIsSet _ _ _ _ _ _ HN.out hm (HI.out.below rfl T0.out)).mono ?_; rw [HS.out]; rintro e w1 ⟨rfl, hb1⟩; have T1 := Lib.hid (T0.out.trans (hb1.mono T0.out.size)); have c1 := keepC T1.out (by simp) C1; have K1 := True.intro))
      go_wp2_with (go_at_call 44; refine (sOrder _ _ l _ _ HN.out HG.out (HI.out.below rfl T2.out)).mono ?_; rw [HPP.out]; rintro e w3 ⟨rfl, hb3⟩; have T3 := Lib.hid (T2.out.trans (hb3.mono T2.out.size)); have c3 := keepC T3.out (by simp) C1)
      go_loopw [7, 8] (fun o i wr => ∃ j : Nat, j ≤ P - 1 ∧ i = .int .i64 (P - j : Nat) ∧ o = .int .i64 (ldS P j : Nat) ∧ Below w3.heap.size w3 wr) (fun _ i _ => (intOf i).toNat)
      case atStart => exact ⟨0, Nat.zero_le _, rfl, rfl, Below.refl _ _⟩
      case round =>
        obtain ⟨j, hj, rfl, rfl, hbel⟩ := hrel
        have c4 := keepC hbel (World.block_lt_of_cell? w3 _ c3) c3
        have T4 := Lib.hid (T3.out.trans (hbel.mono T3.out.size))
        have HBL := Lib.hid hbel
        clear hbel
        obtain ⟨_, v1, v2, _, _⟩ := HD.out j hj
        by_cases hlt : j < P - 1
        · have HY := Lib.hid (fun h => ldS_yes (P := P) (i := j) h)
          have HZ := Lib.hid (fun h => ldS_no (P := P) (i := j) h)
          obtain ⟨d, hd⟩ : ∃ d, P - j = d := ⟨_, rfl⟩
          have hd2 : 2 ≤ d := by omega
          have hdP : d ≤ P := by omega
          have hd0 : ((d : Int) == 0) = false := by simp; omega
          have HDJ := Lib.hid hd
          have HM := Lib.hid (tmod_nat P d)
          rw [hd] at HY HZ
          rw [hd]
          obtain ⟨V, hV⟩ : ∃ V, ldS P j = V := ⟨_, rfl⟩
          rw [hV] at HZ v1 v2
          rw [hV]
          clear hd hV
          by_cases hz : P % d = 0
          · have E1 := Lib.hid (HY.out hz)
            have hm0 : (P : Int).tmod (d : Int) = 0 := by rw [HM.out, hz]; rfl
            clear HY HZ
            go_wp2_with (go_at_call 44; refine (sOrder _ _ l _ _ HN.out HG.out (HI.out.below rfl T4.out)).mono ?_; rw [HPP.out]; rintro e w5 ⟨rfl, hb5⟩; skip)
            go_roundw
            case rel => exact ⟨j + 1, by omega, by have := HDJ.out; first | go_num | (simp [IntKind.wrap, IntKind.signed, IntKind.bits]; omega), by rw [E1.out], HBL.out.trans (hb5.mono HBL.out.size)⟩
            case measure => simp [intOf]; omega
          · have E1 := Lib.hid (HZ.out hz)
            have hm0 : ((P : Int).tmod (d : Int) == 0) = false := by rw [HM.out]; simp; omega
            clear HY HZ
            go_wp2_with (go_at_call 44; refine (sOrder _ _ l _ _ HN.out HG.out (HI.out.below rfl T4.out)).mono ?_; rw [HPP.out]; rintro e w5 ⟨rfl, hb5⟩; skip)
            go_roundw
            case rel => exact ⟨j + 1, by omega, by have := HDJ.out; first | go_num | (simp [IntKind.wrap, IntKind.signed, IntKind.bits]; omega), by rw [E1.out], HBL.out.trans (hb5.mono HBL.out.size)⟩
            case measure => simp [intOf]; omega
        · obtain rfl : j = P - 1 := by omega
          obtain ⟨V, hV⟩ : ∃ V, ldS P (P - 1) = V := ⟨_, rfl⟩
          rw [hV] at v1 v2
          rw [hV]
          have h1 : P - (P - 1) = 1 := by omega
          rw [h1]
          have HVV := Lib.hid hV
          clear HD hV
          go_wp2_with (first
            | (go_at_call 49; have hx_ := K3; clear hx_; refine (sBits _ q HQ.out).mono ?_; rw [Hcq.out]; rintro e w_ ⟨rfl, rfl⟩; have K4 := True.intro)
            | (go_at_call 49; refine (sBits _ p HP.out).mono ?_; rw [Hcp.out]; rintro e w_ ⟨rfl, rfl⟩; have K3 := True.intro))
          all_goals
            go_ret
            exact ⟨by have := HVV.out; go_num, HB.out.trans (T4.out.mono (by simp))⟩
/-- The elements of a set that has 0: 0, and others. -/
theorem bits_zero {q : Nat} (h : q.testBit 0 = true) : ∃ L, bitsN q = 0 :: L ∧ ∀ x ∈ L, x ≠ 0 := by
  refine ⟨((List.range 23).map Nat.succ).filter (fun i => q.testBit i), ?_, fun x hx => ?_⟩
  · unfold bitsN upK
    rw [show (24 : Nat) = 23 + 1 from rfl, List.range_succ_eq_map, List.filter_cons, if_pos h]
  · obtain ⟨y, _, rfl⟩ := List.mem_map.1 (List.mem_filter.1 hx).1
    exact Nat.succ_ne_zero y
theorem cho_form {l : List Int} {p q : Nat} (h2 : two l (p : Int) (q : Int) = true) (hp : p ≠ 0) (hq : q.testBit 0 = true) : choB l (p : Int) (q : Int) = true ↔ ∀ i, 1 ≤ i → i < (bitsN q).length → fullO l ((bitsN q).getD i 0) = true := by
  obtain ⟨L, hL, h0⟩ := bits_zero hq
  have hp2 : ((p : Int) == 0) = false := by simp; omega
  unfold choB
  rw [h2, hp2, Int.toNat_natCast, hq, hL]
  simp only [Bool.not_false, Bool.true_and, List.all_eq_true]
  constructor
  · intro h i h1 hi
    obtain ⟨j, rfl⟩ : ∃ j, i = j + 1 := ⟨i - 1, by omega⟩
    have hj : j < L.length := by simpa using hi
    have hm : L[j] ∈ L := List.getElem_mem hj
    have h3 := h L[j] (by simp)
    rw [Bool.or_eq_true, beq_iff_eq] at h3
    have h4 := h3.resolve_left (h0 _ hm)
    simpa [List.getD, List.getElem?_eq_getElem hj] using h4
  · intro h x hx
    rcases List.mem_cons.1 hx with rfl | hx
    · simp
    · obtain ⟨j, hj, rfl⟩ := List.getElem_of_mem hx
      have := h (j + 1) (by omega) (by simp; omega)
      rw [Bool.or_eq_true]
      right
      simpa [List.getD, List.getElem?_eq_getElem hj] using this
theorem and_one (q : Nat) (h : q < 2 ^ 24) : bits .and .i64 (q : Int) 1 = ((q % 2 : Nat) : Int) := by
  have e := andI q 1 (by omega) (by omega)
  rw [Nat.and_one_is_mod] at e
  exact e
set_option maxHeartbeats 4000000 in
theorem sCho (w : World) (a : Option Addr) (l : List Int) (n cap : Nat) (s t : Int) (hn : n = l.length) (hm : n ≤ 9223372036854775807) (hi : Ints w a l) :
    Calls Tryz.prog 29 #[.agg #[.slice a n cap], .int .i64 s, .int .i64 t] w fun e w' => e = .returned (.bool (choB l s t)) ∧ Below w.heap.size w w' := by
  have HI := Lib.hid (ints_alloc hi (.cells #[.slice a n cap] 26))
  have HN := Lib.hid hn
  have C1 := newC w (.slice a n cap) 26 (n := w.heap.size) rfl
  have HB := Lib.hid (Joins.below_alloc1 w (.cells #[.slice a n cap] 26))
  have T0 := Lib.hid (Below.refl (w.alloc (.cells #[.slice a n cap] 26)).heap.size (w.alloc (.cells #[.slice a n cap] 26)))
  clear hi hn
  cases hs : isS l s with
  | false =>
    have HS := Lib.hid hs
    rw [show choB l s t = false by unfold choB two; rw [hs]; rfl]
    clear hs
    go_enter Tryz.func29, Tryz.ntmps29
    go_wp2_with (go_at_call 42; refine (sIsSet _ _ _ _ _ _ HN.out hm (HI.out.below rfl T0.out)).mono ?_; rw [HS.out]; rintro e w1 ⟨rfl, hb1⟩; have T1 := Lib.hid (T0.out.trans (hb1.mono T0.out.size)); have c1 := keepC T1.out (by simp) C1; have K1 := True.intro)
    go_ret
    exact ⟨rfl, HB.out.trans (T1.out.mono (by simp))⟩
  | true =>
    have HS := Lib.hid hs
    cases ht : isS l t with
    | false =>
      have HS2 := Lib.hid ht
      rw [show choB l s t = false by unfold choB two; rw [hs, ht]; rfl]
      clear hs ht
      go_enter Tryz.func29, Tryz.ntmps29
      go_wp2_with (first
        | (go_at_call 42; have hx_ := K1; clear hx_; refine (sIsSet _ _ _ _ _ _ HN.out hm (HI.out.below rfl T1.out)).mono ?_; rw [HS2.out]; rintro e w2 ⟨rfl, hb2⟩; have T2 := Lib.hid (T1.out.trans (hb2.mono T1.out.size)); have c2 := keepC T2.out (by simp) C1; have K2 := True.intro)
        | (go_at_call 42; refine (sIsSet _ _ _ _ _ _ HN.out hm (HI.out.below rfl T0.out)).mono ?_; rw [HS.out]; rintro e w1 ⟨rfl, hb1⟩; have T1 := Lib.hid (T0.out.trans (hb1.mono T0.out.size)); have c1 := keepC T1.out (by simp) C1; have K1 := True.intro))
      go_ret
      exact ⟨rfl, HB.out.trans (T2.out.mono (by simp))⟩
    | true =>
      have HS2 := Lib.hid ht
      by_cases hs0 : s = 0
      · rw [show choB l s t = false by unfold choB two; rw [hs0]; simp]
        subst hs0
        clear hs ht
        go_enter Tryz.func29, Tryz.ntmps29
        go_wp2_with (first
          | (go_at_call 42; have hx_ := K1; clear hx_; refine (sIsSet _ _ _ _ _ _ HN.out hm (HI.out.below rfl T1.out)).mono ?_; rw [HS2.out]; rintro e w2 ⟨rfl, hb2⟩; have T2 := Lib.hid (T1.out.trans (hb2.mono T1.out.size)); have c2 := keepC T2.out (by simp) C1; have K2 := True.intro)
          | (go_at_call 42; refine (sIsSet _ _ _ _ _ _ HN.out hm (HI.out.below rfl T0.out)).mono ?_; rw [HS.out]; rintro e w1 ⟨rfl, hb1⟩; have T1 := Lib.hid (T0.out.trans (hb1.mono T0.out.size)); have c1 := keepC T1.out (by simp) C1; have K1 := True.intro))
        go_ret
        exact ⟨rfl, HB.out.trans (T2.out.mono (by simp))⟩
      have htw : two l s t = true := by unfold two; rw [hs, ht]; rfl
      obtain ⟨hg, p, rfl, hp, hp24⟩ := isS_true hs
      obtain ⟨_, q, rfl, hq, hq24⟩ := isS_true ht
      have es : ((p : Int) == 0) = false := by simpa using hs0
      have hp0 : p ≠ 0 := by omega
      have HA1 := and_one q hq24
      cases hb0 : q.testBit 0 with
      | false =>
        rw [show choB l (p : Int) (q : Int) = false by unfold choB; rw [Int.toNat_natCast, hb0]; simp]
        have hq2 : q % 2 = 0 := by have h := hb0; rw [Nat.testBit_zero] at h; simpa using h
        rw [hq2] at HA1
        clear hs ht hs0 htw hg hp hp24 hq hq24 hb0 hq2 hp0
        go_enter Tryz.func29, Tryz.ntmps29
        go_wp2_with (first
          | (go_at_call 42; have hx_ := K1; clear hx_; refine (sIsSet _ _ _ _ _ _ HN.out hm (HI.out.below rfl T1.out)).mono ?_; rw [HS2.out]; rintro e w2 ⟨rfl, hb2⟩; have T2 := Lib.hid (T1.out.trans (hb2.mono T1.out.size)); have c2 := keepC T2.out (by simp) C1; have K2 := True.intro)
          | (go_at_call 42; refine (sIsSet _ _ _ _ _ _ HN.out hm (HI.out.below rfl T0.out)).mono ?_; rw [HS.out]; rintro e w1 ⟨rfl, hb1⟩; have T1 := Lib.hid (T0.out.trans (hb1.mono T0.out.size)); have c1 := keepC T1.out (by simp) C1; have K1 := True.intro))
        go_ret
        exact ⟨rfl, HB.out.trans (T2.out.mono (by simp))⟩
      | true =>
        have hq2 : q % 2 = 1 := by have h := hb0; rw [Nat.testBit_zero] at h; simpa using h
        rw [hq2] at HA1
        have HF := Lib.hid (cho_form htw hp0 hb0)
        obtain ⟨Z, HZZ⟩ : ∃ Z, Hid (choB l (p : Int) (q : Int) = Z) := ⟨_, Lib.hid rfl⟩
        rw [HZZ.out] at HF
        rw [HZZ.out]
        have HG := Lib.hid hg
        have HQ := Lib.hid hq24
        have hpr := (ords_grp hg).prod
        obtain ⟨P, hPe⟩ : ∃ P : Nat, prodI l = (P : Int) := ⟨(prodI l).toNat, by omega⟩
        have HPP := Lib.hid hPe
        have HEL := Lib.hid (fun x (hx : x ∈ bitsN q) => grp_elt hg hq hx)
        obtain ⟨L0, hL0, _⟩ := bits_zero hb0
        have HL1 : Hid (1 ≤ (bitsN q).length) := Lib.hid (by rw [hL0]; simp)
        have h24 := bits_le q
        clear hs ht hs0 htw hg hp hp24 hq hq24 hb0 hq2 hp0 hpr hPe hL0
        go_enter Tryz.func29, Tryz.ntmps29
        go_upto_region 3 with (first
          | (go_at_call 42; have hx_ := K1; clear hx_; refine (sIsSet _ _ _ _ _ _ HN.out hm (HI.out.below rfl T1.out)).mono ?_; rw [HS2.out]; rintro e w2 ⟨rfl, hb2⟩; have T2 := Lib.hid (T1.out.trans (hb2.mono T1.out.size)); have c2 := keepC T2.out (by simp) C1; have K2 := True.intro)
          | (go_at_call 42; refine (sIsSet _ _ _ _ _ _ HN.out hm (HI.out.below rfl T0.out)).mono ?_; rw [HS.out]; rintro e w1 ⟨rfl, hb1⟩; have T1 := Lib.hid (T0.out.trans (hb1.mono T0.out.size)); have c1 := keepC T1.out (by simp) C1; have K1 := True.intro))
        go_wp2_with (go_at_call 45; refine (sL3I _ q HQ.out).mono ?_; rintro e w3 ⟨v3, rfl, ho3, hb3⟩; obtain ⟨a3, cap3, rfl⟩ := own_slice ho3; have I3 := Lib.hid (own_ints ho3); have T3 := Lib.hid (T2.out.trans (hb3.mono T2.out.size)); have c3 := keepC T3.out (by simp) C1; clear ho3 hb3)
        go_loopw [8] (fun i wr => ∃ k : Nat, 1 ≤ k ∧ k ≤ (bitsN q).length ∧ i = .int .i64 k ∧ (∀ j, 1 ≤ j → j < k → fullO l ((bitsN q).getD j 0) = true) ∧ Below w3.heap.size w3 wr) (fun i _ => (bitsN q).length - (intOf i).toNat)
        case atStart => exact ⟨1, Nat.le_refl _, HL1.out, rfl, fun j h1 h2 => absurd h2 (by omega), Below.refl _ _⟩
        case round =>
          obtain ⟨k, hk1, hk, rfl, hall, hbel⟩ := hrel
          have HALL := Lib.hid hall
          have c4 := keepC hbel (World.block_lt_of_cell? w3 _ c3) c3
          have T4 := Lib.hid (T3.out.trans (hbel.mono T3.out.size))
          have HBL := Lib.hid hbel
          have HLN := Lib.hid (LI_len q)
          have hlen : ((LI q).length : Int) = ((bitsN q).length : Int) := by rw [HLN.out]
          clear hall
          by_cases hlt : k < (bitsN q).length
          · have hkl : k < (LI q).length := by rw [HLN.out]; exact hlt
            rcases I3.out with h0 | ⟨b, off, h1, hbl, hc⟩
            · rw [h0] at hkl; simp at hkl
            · subst h1
              have d4 := keepC hbel hbl (hc k hkl)
              rw [LI_at q k hlt] at d4
              have hy := bits_at q k hlt
              have hmem : (bitsN q).getD k 0 ∈ bitsN q := by
                rw [List.getD, List.getElem?_eq_getElem hlt]
                exact List.getElem_mem hlt
              have hyP := HEL.out _ hmem
              obtain ⟨y, HY⟩ : ∃ y, Hid ((bitsN q).getD k 0 = y) := ⟨_, Lib.hid rfl⟩
              rw [HY.out] at hy d4 hyP
              have hyE : isE l (y : Int) = true := by
                simp only [isE, ordN_grp HG.out, Bool.and_eq_true, decide_eq_true_eq]
                omega
              have HYE := Lib.hid hyE
              obtain ⟨m, hm1⟩ := isOrd_ex (ords_grp HG.out) ((y : Nat) : Int)
              have HM1 := Lib.hid hm1
              have HFU := Lib.hid (fullO_one HG.out hm1)
              rw [HPP.out] at HFU
              clear hc hkl hbel hmem hyP hyE hm1
              cases hmp : ((m : Int) == (P : Int)) with
              | true =>
                have HFT := Lib.hid (HFU.out.trans hmp)
                go_wp2
                go_region_held3 (fun W => W.cell? ⟨w.heap.size, 0, none⟩ = some (.slice a n cap) ∧ W.cell? ⟨b, off + k, none⟩ = some (.int .i64 (y : Nat))) (first | exact ⟨c6, d6⟩ | exact ⟨c5, d5⟩ | exact ⟨c4, d4⟩)
                  (first
                  | (go_at_call 44; have hx_ := K5; clear hx_; refine (sOrder _ _ l _ _ HN.out HG.out (HI.out.below rfl T5.out)).mono ?_; rw [HPP.out]; rintro e w6 ⟨rfl, hb6⟩; have T6 := Lib.hid (T5.out.trans (hb6.mono T5.out.size)); have c6 := keepC T6.out (by simp) C1; have d6 := keepC hb6 (World.block_lt_of_cell? w5 _ d5) d5)
                  | (go_at_call 70; refine (sOrd_yes _ _ l _ _ (y : Int) m HN.out hm (HI.out.below rfl T4.out.drew) HYE.out HM1.out).mono ?_; rintro e w5 ⟨rfl, hb5⟩; have T5 := Lib.hid (T4.out.drew.trans (hb5.mono T4.out.size)); have c5 := keepC T5.out (by simp) C1; have d5 := keepC hb5 (World.block_lt_of_cell? _ _ d4) d4; have K5 := True.intro))
                all_goals
                  go_wp2
                  go_roundw
                  case rel => exact ⟨k + 1, by omega, by omega, by go_num, fun j h1 h2 => by
                    by_cases e : j = k
                    · rw [e, HY.out]; exact HFT.out
                    · exact HALL.out j h1 (by omega), HBL.out.drew.trans ((hb5.trans (hb6.mono hb5.size)).mono HBL.out.size)⟩
                  case measure => simp [intOf]; omega
              | false =>
                have HFT := Lib.hid (HFU.out.trans hmp)
                have HZF : Hid (Z = false) := Lib.hid (by
                  cases hz : Z with
                  | false => rfl
                  | true =>
                    have := HF.out.1 hz k hk1 hlt
                    rw [HY.out, HFT.out] at this
                    cases this)
                go_wp2
                go_region_held3 (fun W => W.cell? ⟨w.heap.size, 0, none⟩ = some (.slice a n cap) ∧ W.cell? ⟨b, off + k, none⟩ = some (.int .i64 (y : Nat))) (first | exact ⟨c6, d6⟩ | exact ⟨c5, d5⟩ | exact ⟨c4, d4⟩)
                  (first
                  | (go_at_call 44; have hx_ := K5; clear hx_; refine (sOrder _ _ l _ _ HN.out HG.out (HI.out.below rfl T5.out)).mono ?_; rw [HPP.out]; rintro e w6 ⟨rfl, hb6⟩; have T6 := Lib.hid (T5.out.trans (hb6.mono T5.out.size)); have c6 := keepC T6.out (by simp) C1; have d6 := keepC hb6 (World.block_lt_of_cell? w5 _ d5) d5)
                  | (go_at_call 70; refine (sOrd_yes _ _ l _ _ (y : Int) m HN.out hm (HI.out.below rfl T4.out.drew) HYE.out HM1.out).mono ?_; rintro e w5 ⟨rfl, hb5⟩; have T5 := Lib.hid (T4.out.drew.trans (hb5.mono T4.out.size)); have c5 := keepC T5.out (by simp) C1; have d5 := keepC hb5 (World.block_lt_of_cell? _ _ d4) d4; have K5 := True.intro))
                all_goals
                  go_wp2
                  go_ret
                  exact ⟨by rw [HZF.out]; rfl, HB.out.trans (T6.out.mono (by simp))⟩
          · obtain rfl : k = (bitsN q).length := by omega
            have HZT : Hid (Z = true) := Lib.hid (HF.out.2 HALL.out)
            clear hbel
            go_wp2
            go_ret
            exact ⟨by rw [HZT.out]; rfl, HB.out.trans (T4.out.mono (by simp))⟩
end Go.Proofs.YtaacofbmbpkeoaaGreatDoor
