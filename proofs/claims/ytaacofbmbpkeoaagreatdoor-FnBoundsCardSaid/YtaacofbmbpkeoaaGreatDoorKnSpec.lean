/- The document's reading of chapter 9: the bound of Kneser and what stands beside it. -/
import Derived.Test.YtaacofbmbpkeoaaGreatDoorMGAQ
import Derived.Test.YtaacofbmbpkeoaaGreatDoorPerSpec
import Derived.Deep.RegionHeld3
import Derived.Deep.DeepCutAuto
namespace Go.Proofs.YtaacofbmbpkeoaaGreatDoor
open Go.RowKit
set_option maxRecDepth 1000000
/-- Four results in temporaries. -/
theorem results_four {fn : Func} {t u v x : Tmp} (h : fn.results = #[.tmp t, .tmp u, .tmp v, .tmp x]) (tmps : Array Value) (P : Program) (w : World) :
    (results fn tmps).run P w = .ok (.tuple #[tmps.getD t undef, tmps.getD u undef, tmps.getD v undef, tmps.getD x undef]) w := by
  simp [results, h]
set_option maxHeartbeats 4000000 in
theorem sKn (w : World) (a : Option Addr) (l : List Int) (n cap : Nat) (s t : Int) (hn : n = l.length) (hm : n ≤ 9223372036854775807) (hi : Ints w a l) :
    Calls Tryz.prog 13 #[.agg #[.slice a n cap], .int .i64 s, .int .i64 t] w fun e w' => e = .returned (.int .i64 (knE l s t)) ∧ Below w.heap.size w w' := by
  have HI := Lib.hid (ints_alloc hi (.cells #[.slice a n cap] 26))
  have HN := Lib.hid hn
  have C1 := newC w (.slice a n cap) 26 (n := w.heap.size) rfl
  have HB := Lib.hid (Joins.below_alloc1 w (.cells #[.slice a n cap] 26))
  have T0 := Lib.hid (Below.refl (w.alloc (.cells #[.slice a n cap] 26)).heap.size (w.alloc (.cells #[.slice a n cap] 26)))
  clear hi hn
  cases hs : isS l s with
  | false =>
    have HS := Lib.hid hs
    have hne : neB l s t = false := by unfold neB two; rw [hs]; rfl
    rw [show knE l s t = -1 by unfold knE; rw [hne]; rfl]
    clear hs hne
    go_enter Tryz.func13, Tryz.ntmps13
    go_wp2_with (go_at_call 42; refine (sIsSet _ _ _ _ _ _ HN.out hm (HI.out.below rfl T0.out)).mono ?_; rw [HS.out]; rintro e w1 ⟨rfl, hb1⟩; have T1 := Lib.hid (T0.out.trans (hb1.mono T0.out.size)); have c1 := keepC T1.out (by simp) C1; have K1 := True.intro)
    go_ret
    exact ⟨rfl, HB.out.trans (T1.out.mono (by simp))⟩
  | true =>
    have HS := Lib.hid hs
    cases ht : isS l t with
    | false =>
      have HS2 := Lib.hid ht
      have hne : neB l s t = false := by unfold neB two; rw [hs, ht]; rfl
      rw [show knE l s t = -1 by unfold knE; rw [hne]; rfl]
      clear hs ht hne
      go_enter Tryz.func13, Tryz.ntmps13
      go_wp2_with (first
        | (go_at_call 42; have hx_ := K1; clear hx_; refine (sIsSet _ _ _ _ _ _ HN.out hm (HI.out.below rfl T1.out)).mono ?_; rw [HS2.out]; rintro e w2 ⟨rfl, hb2⟩; have T2 := Lib.hid (T1.out.trans (hb2.mono T1.out.size)); have c2 := keepC T2.out (by simp) C1; have K2 := True.intro)
        | (go_at_call 42; refine (sIsSet _ _ _ _ _ _ HN.out hm (HI.out.below rfl T0.out)).mono ?_; rw [HS.out]; rintro e w1 ⟨rfl, hb1⟩; have T1 := Lib.hid (T0.out.trans (hb1.mono T0.out.size)); have c1 := keepC T1.out (by simp) C1; have K1 := True.intro))
      go_ret
      exact ⟨rfl, HB.out.trans (T2.out.mono (by simp))⟩
    | true =>
      have HS2 := Lib.hid ht
      by_cases hs0 : s = 0
      · have hne : neB l s t = false := by unfold neB; rw [hs0]; simp
        rw [show knE l s t = -1 by unfold knE; rw [hne]; rfl]
        subst hs0
        clear hs ht hne
        go_enter Tryz.func13, Tryz.ntmps13
        go_wp2_with (first
          | (go_at_call 42; have hx_ := K1; clear hx_; refine (sIsSet _ _ _ _ _ _ HN.out hm (HI.out.below rfl T1.out)).mono ?_; rw [HS2.out]; rintro e w2 ⟨rfl, hb2⟩; have T2 := Lib.hid (T1.out.trans (hb2.mono T1.out.size)); have c2 := keepC T2.out (by simp) C1; have K2 := True.intro)
          | (go_at_call 42; refine (sIsSet _ _ _ _ _ _ HN.out hm (HI.out.below rfl T0.out)).mono ?_; rw [HS.out]; rintro e w1 ⟨rfl, hb1⟩; have T1 := Lib.hid (T0.out.trans (hb1.mono T0.out.size)); have c1 := keepC T1.out (by simp) C1; have K1 := True.intro))
        go_ret
        exact ⟨rfl, HB.out.trans (T2.out.mono (by simp))⟩
      by_cases ht0 : t = 0
      · have hne : neB l s t = false := by unfold neB; rw [ht0]; simp
        rw [show knE l s t = -1 by unfold knE; rw [hne]; rfl]
        have es : (s == 0) = false := by simpa using hs0
        subst ht0
        clear hs ht hne hs0
        go_enter Tryz.func13, Tryz.ntmps13
        go_wp2_with (first
          | (go_at_call 42; have hx_ := K1; clear hx_; refine (sIsSet _ _ _ _ _ _ HN.out hm (HI.out.below rfl T1.out)).mono ?_; rw [HS2.out]; rintro e w2 ⟨rfl, hb2⟩; have T2 := Lib.hid (T1.out.trans (hb2.mono T1.out.size)); have c2 := keepC T2.out (by simp) C1; have K2 := True.intro)
          | (go_at_call 42; refine (sIsSet _ _ _ _ _ _ HN.out hm (HI.out.below rfl T0.out)).mono ?_; rw [HS.out]; rintro e w1 ⟨rfl, hb1⟩; have T1 := Lib.hid (T0.out.trans (hb1.mono T0.out.size)); have c1 := keepC T1.out (by simp) C1; have K1 := True.intro))
        go_ret
        exact ⟨rfl, HB.out.trans (T2.out.mono (by simp))⟩
      have hne : neB l s t = true := by unfold neB two; rw [hs, ht]; simp [hs0, ht0]
      obtain ⟨hg, p, rfl, hp, hp24⟩ := isS_true hs
      obtain ⟨_, q, rfl, hq, hq24⟩ := isS_true ht
      have es : ((p : Int) == 0) = false := by simpa using hs0
      have et : ((q : Int) == 0) = false := by simpa using ht0
      have HG := Lib.hid hg
      have HP := Lib.hid hp24
      have HQ := Lib.hid hq24
      obtain ⟨A, HA⟩ : ∃ z, Hid (sumN l p q = z) := ⟨_, Lib.hid rfl⟩
      have BA : Hid (A < 2 ^ 24) := Lib.hid (by rw [← HA.out]; exact sumN24 hg p q)
      obtain ⟨H, HH⟩ : ∃ z, Hid (stN l A = z) := ⟨_, Lib.hid rfl⟩
      have BH : Hid (H < 2 ^ 24) := Lib.hid (by rw [← HH.out]; exact stN_lt24 hg A)
      obtain ⟨X, HX⟩ : ∃ z, Hid (sumN l p H = z) := ⟨_, Lib.hid rfl⟩
      have BX : Hid (X < 2 ^ 24) := Lib.hid (by rw [← HX.out]; exact sumN24 hg p H)
      obtain ⟨Y, HY⟩ : ∃ z, Hid (sumN l q H = z) := ⟨_, Lib.hid rfl⟩
      have BY : Hid (Y < 2 ^ 24) := Lib.hid (by rw [← HY.out]; exact sumN24 hg q H)
      obtain ⟨cx, Hcx⟩ : ∃ z, Hid ((bitsN X).length = z) := ⟨_, Lib.hid rfl⟩
      have bcx : cx ≤ 24 := by have := bits_le X; have := Hcx.out; omega
      obtain ⟨cy, Hcy⟩ : ∃ z, Hid ((bitsN Y).length = z) := ⟨_, Lib.hid rfl⟩
      have bcy : cy ≤ 24 := by have := bits_le Y; have := Hcy.out; omega
      obtain ⟨ch, Hch⟩ : ∃ z, Hid ((bitsN H).length = z) := ⟨_, Lib.hid rfl⟩
      have bch : ch ≤ 24 := by have := bits_le H; have := Hch.out; omega
      rw [show knE l (p : Int) (q : Int) = (cx : Int) + (cy : Int) - (ch : Int) by unfold knE knN; rw [if_pos hne]; simp only [Int.toNat_natCast]; rw [HA.out, HH.out, HX.out, HY.out, Hcx.out, Hcy.out, Hch.out]]
      clear hs ht hs0 ht0 hne hg hp hp24 hq hq24
      go_enter Tryz.func13, Tryz.ntmps13
      go_upto_region 3 with (first
        | (go_at_call 42; have hx_ := K1; clear hx_; refine (sIsSet _ _ _ _ _ _ HN.out hm (HI.out.below rfl T1.out)).mono ?_; rw [HS2.out]; rintro e w2 ⟨rfl, hb2⟩; have T2 := Lib.hid (T1.out.trans (hb2.mono T1.out.size)); have c2 := keepC T2.out (by simp) C1; have K2 := True.intro)
        | (go_at_call 42; refine (sIsSet _ _ _ _ _ _ HN.out hm (HI.out.below rfl T0.out)).mono ?_; rw [HS.out]; rintro e w1 ⟨rfl, hb1⟩; have T1 := Lib.hid (T0.out.trans (hb1.mono T0.out.size)); have c1 := keepC T1.out (by simp) C1; have K1 := True.intro))
      go_region_held3 (fun W => W.cell? ⟨w.heap.size, 0, none⟩ = some (.slice a n cap)) (first | exact c4 | exact c3 | exact c2)
        (first
        | (go_at_call 48; have hx_ := K3; clear hx_; refine (sStabL _ _ l _ _ A BA.out HN.out HG.out (HI.out.below rfl T3.out)).mono ?_; rw [HH.out]; rintro e w4 ⟨rfl, hb4⟩; have T4 := Lib.hid (T3.out.trans (hb4.mono T3.out.size)); have c4 := keepC T4.out (by simp) C1; have K4 := True.intro)
        | (go_at_call 43; have hx_ := K2; clear hx_; refine (sSumL _ _ l _ _ p q HP.out HQ.out HN.out HG.out (HI.out.below rfl T2.out.drew)).mono ?_; rw [HA.out]; rintro e w3 ⟨rfl, hb3⟩; have T3 := Lib.hid (T2.out.drew.trans (hb3.mono T2.out.size)); have c3 := keepC T3.out (by simp) C1; have K3 := True.intro))
      all_goals
        go_wp2
        go_region_held3 (fun W => W.cell? ⟨w.heap.size, 0, none⟩ = some (.slice a n cap)) (first | exact c6 | exact c5 | exact c4)
          (first
          | (go_at_call 49; have hx_ := K8; clear hx_; refine (sBits _ H BH.out).mono ?_; rw [Hch.out]; rintro e w_ ⟨rfl, rfl⟩; have K9 := True.intro)
          | (go_at_call 49; have hx_ := K7; clear hx_; refine (sBits _ Y BY.out).mono ?_; rw [Hcy.out]; rintro e w_ ⟨rfl, rfl⟩; have K8 := True.intro)
          | (go_at_call 43; have hx_ := K6; clear hx_; refine (sSumL _ _ l _ _ q H HQ.out BH.out HN.out HG.out (HI.out.below rfl T5.out)).mono ?_; rw [HY.out]; rintro e w6 ⟨rfl, hb6⟩; have T6 := Lib.hid (T5.out.trans (hb6.mono T5.out.size)); have c6 := keepC T6.out (by simp) C1; have K7 := True.intro)
          | (go_at_call 49; have hx_ := K5; clear hx_; refine (sBits _ X BX.out).mono ?_; rw [Hcx.out]; rintro e w_ ⟨rfl, rfl⟩; have K6 := True.intro)
          | (go_at_call 43; have hx_ := K4; clear hx_; refine (sSumL _ _ l _ _ p H HP.out BH.out HN.out HG.out (HI.out.below rfl T4.out.drew)).mono ?_; rw [HX.out]; rintro e w5 ⟨rfl, hb5⟩; have T5 := Lib.hid (T4.out.drew.trans (hb5.mono T4.out.size)); have c5 := keepC T5.out (by simp) C1; have K5 := True.intro))
        all_goals
          go_wp2
          go_ret
          exact ⟨by first | go_num | (simp [IntKind.wrap, IntKind.signed, IntKind.bits]; omega), HB.out.trans (T6.out.mono (by simp))⟩
set_option maxHeartbeats 4000000 in
theorem sDfc (w : World) (a : Option Addr) (l : List Int) (n cap : Nat) (s t : Int) (hn : n = l.length) (hm : n ≤ 9223372036854775807) (hi : Ints w a l) :
    Calls Tryz.prog 36 #[.agg #[.slice a n cap], .int .i64 s, .int .i64 t] w fun e w' => e = .returned (.int .i64 (dfcE l s t)) ∧ Below w.heap.size w w' := by
  have HI := Lib.hid (ints_alloc hi (.cells #[.slice a n cap] 26))
  have HN := Lib.hid hn
  have C1 := newC w (.slice a n cap) 26 (n := w.heap.size) rfl
  have HB := Lib.hid (Joins.below_alloc1 w (.cells #[.slice a n cap] 26))
  have T0 := Lib.hid (Below.refl (w.alloc (.cells #[.slice a n cap] 26)).heap.size (w.alloc (.cells #[.slice a n cap] 26)))
  clear hi hn
  cases hs : isS l s with
  | false =>
    have HS := Lib.hid hs
    have hne : neB l s t = false := by unfold neB two; rw [hs]; rfl
    rw [show dfcE l s t = -100 by unfold dfcE; rw [hne]; rfl]
    clear hs hne
    go_enter Tryz.func36, Tryz.ntmps36
    go_wp2_with (go_at_call 42; refine (sIsSet _ _ _ _ _ _ HN.out hm (HI.out.below rfl T0.out)).mono ?_; rw [HS.out]; rintro e w1 ⟨rfl, hb1⟩; have T1 := Lib.hid (T0.out.trans (hb1.mono T0.out.size)); have c1 := keepC T1.out (by simp) C1; have K1 := True.intro)
    go_ret
    exact ⟨rfl, HB.out.trans (T1.out.mono (by simp))⟩
  | true =>
    have HS := Lib.hid hs
    cases ht : isS l t with
    | false =>
      have HS2 := Lib.hid ht
      have hne : neB l s t = false := by unfold neB two; rw [hs, ht]; rfl
      rw [show dfcE l s t = -100 by unfold dfcE; rw [hne]; rfl]
      clear hs ht hne
      go_enter Tryz.func36, Tryz.ntmps36
      go_wp2_with (first
        | (go_at_call 42; have hx_ := K1; clear hx_; refine (sIsSet _ _ _ _ _ _ HN.out hm (HI.out.below rfl T1.out)).mono ?_; rw [HS2.out]; rintro e w2 ⟨rfl, hb2⟩; have T2 := Lib.hid (T1.out.trans (hb2.mono T1.out.size)); have c2 := keepC T2.out (by simp) C1; have K2 := True.intro)
        | (go_at_call 42; refine (sIsSet _ _ _ _ _ _ HN.out hm (HI.out.below rfl T0.out)).mono ?_; rw [HS.out]; rintro e w1 ⟨rfl, hb1⟩; have T1 := Lib.hid (T0.out.trans (hb1.mono T0.out.size)); have c1 := keepC T1.out (by simp) C1; have K1 := True.intro))
      go_ret
      exact ⟨rfl, HB.out.trans (T2.out.mono (by simp))⟩
    | true =>
      have HS2 := Lib.hid ht
      by_cases hs0 : s = 0
      · have hne : neB l s t = false := by unfold neB; rw [hs0]; simp
        rw [show dfcE l s t = -100 by unfold dfcE; rw [hne]; rfl]
        subst hs0
        clear hs ht hne
        go_enter Tryz.func36, Tryz.ntmps36
        go_wp2_with (first
          | (go_at_call 42; have hx_ := K1; clear hx_; refine (sIsSet _ _ _ _ _ _ HN.out hm (HI.out.below rfl T1.out)).mono ?_; rw [HS2.out]; rintro e w2 ⟨rfl, hb2⟩; have T2 := Lib.hid (T1.out.trans (hb2.mono T1.out.size)); have c2 := keepC T2.out (by simp) C1; have K2 := True.intro)
          | (go_at_call 42; refine (sIsSet _ _ _ _ _ _ HN.out hm (HI.out.below rfl T0.out)).mono ?_; rw [HS.out]; rintro e w1 ⟨rfl, hb1⟩; have T1 := Lib.hid (T0.out.trans (hb1.mono T0.out.size)); have c1 := keepC T1.out (by simp) C1; have K1 := True.intro))
        go_ret
        exact ⟨rfl, HB.out.trans (T2.out.mono (by simp))⟩
      by_cases ht0 : t = 0
      · have hne : neB l s t = false := by unfold neB; rw [ht0]; simp
        rw [show dfcE l s t = -100 by unfold dfcE; rw [hne]; rfl]
        have es : (s == 0) = false := by simpa using hs0
        subst ht0
        clear hs ht hne hs0
        go_enter Tryz.func36, Tryz.ntmps36
        go_wp2_with (first
          | (go_at_call 42; have hx_ := K1; clear hx_; refine (sIsSet _ _ _ _ _ _ HN.out hm (HI.out.below rfl T1.out)).mono ?_; rw [HS2.out]; rintro e w2 ⟨rfl, hb2⟩; have T2 := Lib.hid (T1.out.trans (hb2.mono T1.out.size)); have c2 := keepC T2.out (by simp) C1; have K2 := True.intro)
          | (go_at_call 42; refine (sIsSet _ _ _ _ _ _ HN.out hm (HI.out.below rfl T0.out)).mono ?_; rw [HS.out]; rintro e w1 ⟨rfl, hb1⟩; have T1 := Lib.hid (T0.out.trans (hb1.mono T0.out.size)); have c1 := keepC T1.out (by simp) C1; have K1 := True.intro))
        go_ret
        exact ⟨rfl, HB.out.trans (T2.out.mono (by simp))⟩
      have hne : neB l s t = true := by unfold neB two; rw [hs, ht]; simp [hs0, ht0]
      obtain ⟨hg, p, rfl, hp, hp24⟩ := isS_true hs
      obtain ⟨_, q, rfl, hq, hq24⟩ := isS_true ht
      have es : ((p : Int) == 0) = false := by simpa using hs0
      have et : ((q : Int) == 0) = false := by simpa using ht0
      have HG := Lib.hid hg
      have HP := Lib.hid hp24
      have HQ := Lib.hid hq24
      obtain ⟨A, HA⟩ : ∃ z, Hid (sumN l p q = z) := ⟨_, Lib.hid rfl⟩
      have BA : Hid (A < 2 ^ 24) := Lib.hid (by rw [← HA.out]; exact sumN24 hg p q)
      obtain ⟨ca, Hca⟩ : ∃ z, Hid ((bitsN A).length = z) := ⟨_, Lib.hid rfl⟩
      have bca : ca ≤ 24 := by have := bits_le A; have := Hca.out; omega
      obtain ⟨cp, Hcp⟩ : ∃ z, Hid ((bitsN p).length = z) := ⟨_, Lib.hid rfl⟩
      have bcp : cp ≤ 24 := by have := bits_le p; have := Hcp.out; omega
      obtain ⟨cq, Hcq⟩ : ∃ z, Hid ((bitsN q).length = z) := ⟨_, Lib.hid rfl⟩
      have bcq : cq ≤ 24 := by have := bits_le q; have := Hcq.out; omega
      rw [show dfcE l (p : Int) (q : Int) = (ca : Int) - (cp : Int) - (cq : Int) + 1 by unfold dfcE; rw [if_pos hne]; simp only [Int.toNat_natCast]; rw [HA.out, Hca.out, Hcp.out, Hcq.out]]
      clear hs ht hs0 ht0 hne hg hp hp24 hq hq24
      go_enter Tryz.func36, Tryz.ntmps36
      go_wp2_with (first
        | (go_at_call 49; have hx_ := K5; clear hx_; refine (sBits _ q HQ.out).mono ?_; rw [Hcq.out]; rintro e w_ ⟨rfl, rfl⟩; have K6 := True.intro)
        | (go_at_call 49; have hx_ := K4; clear hx_; refine (sBits _ p HP.out).mono ?_; rw [Hcp.out]; rintro e w_ ⟨rfl, rfl⟩; have K5 := True.intro)
        | (go_at_call 49; have hx_ := K3; clear hx_; refine (sBits _ A BA.out).mono ?_; rw [Hca.out]; rintro e w_ ⟨rfl, rfl⟩; have K4 := True.intro)
        | (go_at_call 43; have hx_ := K2; clear hx_; refine (sSumL _ _ l _ _ p q HP.out HQ.out HN.out HG.out (HI.out.below rfl T2.out)).mono ?_; rw [HA.out]; rintro e w3 ⟨rfl, hb3⟩; have T3 := Lib.hid (T2.out.trans (hb3.mono T2.out.size)); have c3 := keepC T3.out (by simp) C1; have K3 := True.intro)
        | (go_at_call 42; have hx_ := K1; clear hx_; refine (sIsSet _ _ _ _ _ _ HN.out hm (HI.out.below rfl T1.out)).mono ?_; rw [HS2.out]; rintro e w2 ⟨rfl, hb2⟩; have T2 := Lib.hid (T1.out.trans (hb2.mono T1.out.size)); have c2 := keepC T2.out (by simp) C1; have K2 := True.intro)
        | (go_at_call 42; refine (sIsSet _ _ _ _ _ _ HN.out hm (HI.out.below rfl T0.out)).mono ?_; rw [HS.out]; rintro e w1 ⟨rfl, hb1⟩; have T1 := Lib.hid (T0.out.trans (hb1.mono T0.out.size)); have c1 := keepC T1.out (by simp) C1; have K1 := True.intro))
      go_ret
      exact ⟨by go_num, HB.out.trans (T3.out.mono (by simp))⟩
set_option maxHeartbeats 4000000 in
theorem sTgt (w : World) (a : Option Addr) (l : List Int) (n cap : Nat) (s t : Int) (hn : n = l.length) (hm : n ≤ 9223372036854775807) (hi : Ints w a l) :
    Calls Tryz.prog 37 #[.agg #[.slice a n cap], .int .i64 s, .int .i64 t] w fun e w' => e = .returned (.bool (tgtB l s t)) ∧ Below w.heap.size w w' := by
  have HI := Lib.hid (ints_alloc hi (.cells #[.slice a n cap] 26))
  have HN := Lib.hid hn
  have C1 := newC w (.slice a n cap) 26 (n := w.heap.size) rfl
  have HB := Lib.hid (Joins.below_alloc1 w (.cells #[.slice a n cap] 26))
  have T0 := Lib.hid (Below.refl (w.alloc (.cells #[.slice a n cap] 26)).heap.size (w.alloc (.cells #[.slice a n cap] 26)))
  clear hi hn
  cases hne : neB l s t with
  | false =>
    have HK : Hid (knE l s t = -1) := Lib.hid (by unfold knE; rw [hne]; rfl)
    rw [show tgtB l s t = false by unfold tgtB; rw [hne]; rfl]
    clear hne
    go_enter Tryz.func37, Tryz.ntmps37
    go_wp2_with (go_at_call 13; refine (sKn _ _ _ _ _ _ _ HN.out hm (HI.out.below rfl T0.out)).mono ?_; rw [HK.out]; rintro e w1 ⟨rfl, hb1⟩; have T1 := Lib.hid (T0.out.trans (hb1.mono T0.out.size)); have c1 := keepC T1.out (by simp) C1; have K1 := True.intro)
    go_ret
    exact ⟨rfl, HB.out.trans (T1.out.mono (by simp))⟩
  | true =>
    have hk0 := knE_nonneg.2 hne
    have hne2 := hne
    obtain ⟨hg, p, q, rfl, rfl, hp0, hq0, hp, hq⟩ := neB_yes hne2
    have hp24 := grp_pow hg hp
    have hq24 := grp_pow hg hq
    have HG := Lib.hid hg
    have HP := Lib.hid hp24
    have HQ := Lib.hid hq24
    obtain ⟨k, HK⟩ : ∃ k, Hid (knE l (p : Int) (q : Int) = k) := ⟨_, Lib.hid rfl⟩
    rw [HK.out] at hk0
    obtain ⟨A, HA⟩ : ∃ z, Hid (sumN l p q = z) := ⟨_, Lib.hid rfl⟩
    have BA : Hid (A < 2 ^ 24) := Lib.hid (by rw [← HA.out]; exact sumN24 hg p q)
    obtain ⟨ca, Hca⟩ : ∃ z, Hid ((bitsN A).length = z) := ⟨_, Lib.hid rfl⟩
    have bca : ca ≤ 24 := by have := bits_le A; have := Hca.out; omega
    rw [show tgtB l (p : Int) (q : Int) = ((ca : Int) == k) by rw [← HK.out]; unfold tgtB knE; rw [hne, if_pos rfl, Bool.true_and]; simp only [Int.toNat_natCast]; rw [HA.out, Hca.out]]
    clear hne hne2 hp0 hq0 hg hp hq hp24 hq24
    go_enter Tryz.func37, Tryz.ntmps37
    go_wp2_with (first
      | (go_at_call 49; have hx_ := K2; clear hx_; refine (sBits _ A BA.out).mono ?_; rw [Hca.out]; rintro e w_ ⟨rfl, rfl⟩; have K3 := True.intro)
      | (go_at_call 43; have hx_ := K1; clear hx_; refine (sSumL _ _ l _ _ p q HP.out HQ.out HN.out HG.out (HI.out.below rfl T1.out)).mono ?_; rw [HA.out]; rintro e w2 ⟨rfl, hb2⟩; have T2 := Lib.hid (T1.out.trans (hb2.mono T1.out.size)); have c2 := keepC T2.out (by simp) C1; have K2 := True.intro)
      | (go_at_call 13; refine (sKn _ _ _ _ _ _ _ HN.out hm (HI.out.below rfl T0.out)).mono ?_; rw [HK.out]; rintro e w1 ⟨rfl, hb1⟩; have T1 := Lib.hid (T0.out.trans (hb1.mono T0.out.size)); have c1 := keepC T1.out (by simp) C1; have K1 := True.intro))
    go_ret
    exact ⟨by first | rfl | go_num, HB.out.trans (T2.out.mono (by simp))⟩
set_option maxHeartbeats 4000000 in
theorem sKp (w : World) (a : Option Addr) (l : List Int) (n cap : Nat) (s t : Int) (hn : n = l.length) (hm : n ≤ 9223372036854775807) (hi : Ints w a l) :
    Calls Tryz.prog 34 #[.agg #[.slice a n cap], .int .i64 s, .int .i64 t] w fun e w' => e = .returned (.tuple #[.int .i64 (kpH l s t), .int .i64 (kpA l s t), .int .i64 (kpB l s t), .bool (neB l s t)]) ∧ Below w.heap.size w w' := by
  have HI := Lib.hid (ints_alloc hi (.cells #[.slice a n cap] 26))
  have HN := Lib.hid hn
  have C1 := newC w (.slice a n cap) 26 (n := w.heap.size) rfl
  have HB := Lib.hid (Joins.below_alloc1 w (.cells #[.slice a n cap] 26))
  have T0 := Lib.hid (Below.refl (w.alloc (.cells #[.slice a n cap] 26)).heap.size (w.alloc (.cells #[.slice a n cap] 26)))
  clear hi hn
  cases hne : neB l s t with
  | false =>
    have HK : Hid (knE l s t = -1) := Lib.hid (by unfold knE; rw [hne]; rfl)
    rw [show kpH l s t = 0 by unfold kpH; rw [hne]; rfl]
    rw [show kpA l s t = 0 by unfold kpA; rw [hne]; rfl]
    rw [show kpB l s t = 0 by unfold kpB; rw [hne]; rfl]
    clear hne
    go_enter Tryz.func34, Tryz.ntmps34
    go_wp2_with (go_at_call 13; refine (sKn _ _ _ _ _ _ _ HN.out hm (HI.out.below rfl T0.out)).mono ?_; rw [HK.out]; rintro e w1 ⟨rfl, hb1⟩; have T1 := Lib.hid (T0.out.trans (hb1.mono T0.out.size)); have c1 := keepC T1.out (by simp) C1; have K1 := True.intro)
    (try simp only [Exit.inBlock, Exit.then]); refine bodyPost_ret (results_four rfl _ _ _) rfl ?_
    exact ⟨rfl, HB.out.trans (T1.out.mono (by simp))⟩
  | true =>
    have hk0 := knE_nonneg.2 hne
    have hne2 := hne
    obtain ⟨hg, p, q, rfl, rfl, hp0, hq0, hp, hq⟩ := neB_yes hne2
    have hp24 := grp_pow hg hp
    have hq24 := grp_pow hg hq
    have HG := Lib.hid hg
    have HP := Lib.hid hp24
    have HQ := Lib.hid hq24
    obtain ⟨k, HK⟩ : ∃ k, Hid (knE l (p : Int) (q : Int) = k) := ⟨_, Lib.hid rfl⟩
    rw [HK.out] at hk0
    obtain ⟨A, HA⟩ : ∃ z, Hid (sumN l p q = z) := ⟨_, Lib.hid rfl⟩
    have BA : Hid (A < 2 ^ 24) := Lib.hid (by rw [← HA.out]; exact sumN24 hg p q)
    obtain ⟨H, HH⟩ : ∃ z, Hid (stN l A = z) := ⟨_, Lib.hid rfl⟩
    have BH : Hid (H < 2 ^ 24) := Lib.hid (by rw [← HH.out]; exact stN_lt24 hg A)
    obtain ⟨X, HX⟩ : ∃ z, Hid (sumN l p H = z) := ⟨_, Lib.hid rfl⟩
    have BX : Hid (X < 2 ^ 24) := Lib.hid (by rw [← HX.out]; exact sumN24 hg p H)
    obtain ⟨Y, HY⟩ : ∃ z, Hid (sumN l q H = z) := ⟨_, Lib.hid rfl⟩
    have BY : Hid (Y < 2 ^ 24) := Lib.hid (by rw [← HY.out]; exact sumN24 hg q H)
    rw [show kpH l (p : Int) (q : Int) = (H : Int) by unfold kpH; rw [if_pos hne]; simp only [Int.toNat_natCast]; rw [HA.out, HH.out]]
    rw [show kpA l (p : Int) (q : Int) = (X : Int) by unfold kpA; rw [if_pos hne]; simp only [Int.toNat_natCast]; rw [HA.out, HH.out, HX.out]]
    rw [show kpB l (p : Int) (q : Int) = (Y : Int) by unfold kpB; rw [if_pos hne]; simp only [Int.toNat_natCast]; rw [HA.out, HH.out, HY.out]]
    clear hne hne2 hp0 hq0 hg hp hq hp24 hq24
    go_enter Tryz.func34, Tryz.ntmps34
    go_upto_region 3 with (first
      | (go_at_call 13; refine (sKn _ _ _ _ _ _ _ HN.out hm (HI.out.below rfl T0.out)).mono ?_; rw [HK.out]; rintro e w1 ⟨rfl, hb1⟩; have T1 := Lib.hid (T0.out.trans (hb1.mono T0.out.size)); have c1 := keepC T1.out (by simp) C1; have K1 := True.intro))
    go_region_held3 (fun W => W.cell? ⟨w.heap.size, 0, none⟩ = some (.slice a n cap)) (first | exact c3 | exact c2 | exact c1)
      (first
      | (go_at_call 48; have hx_ := K2; clear hx_; refine (sStabL _ _ l _ _ A BA.out HN.out HG.out (HI.out.below rfl T2.out)).mono ?_; rw [HH.out]; rintro e w3 ⟨rfl, hb3⟩; have T3 := Lib.hid (T2.out.trans (hb3.mono T2.out.size)); have c3 := keepC T3.out (by simp) C1; have K3 := True.intro)
      | (go_at_call 43; have hx_ := K1; clear hx_; refine (sSumL _ _ l _ _ p q HP.out HQ.out HN.out HG.out (HI.out.below rfl T1.out.drew)).mono ?_; rw [HA.out]; rintro e w2 ⟨rfl, hb2⟩; have T2 := Lib.hid (T1.out.drew.trans (hb2.mono T1.out.size)); have c2 := keepC T2.out (by simp) C1; have K2 := True.intro))
    all_goals
      go_wp2
      go_region_held3 (fun W => W.cell? ⟨w.heap.size, 0, none⟩ = some (.slice a n cap)) (first | exact c5 | exact c4 | exact c3)
        (first
        | (go_at_call 43; have hx_ := K4; clear hx_; refine (sSumL _ _ l _ _ q H HQ.out BH.out HN.out HG.out (HI.out.below rfl T4.out)).mono ?_; rw [HY.out]; rintro e w5 ⟨rfl, hb5⟩; have T5 := Lib.hid (T4.out.trans (hb5.mono T4.out.size)); have c5 := keepC T5.out (by simp) C1; have K5 := True.intro)
        | (go_at_call 43; have hx_ := K3; clear hx_; refine (sSumL _ _ l _ _ p H HP.out BH.out HN.out HG.out (HI.out.below rfl T3.out.drew)).mono ?_; rw [HX.out]; rintro e w4 ⟨rfl, hb4⟩; have T4 := Lib.hid (T3.out.drew.trans (hb4.mono T3.out.size)); have c4 := keepC T4.out (by simp) C1; have K4 := True.intro))
      all_goals
        go_wp2
        (try simp only [Exit.inBlock, Exit.then]); refine bodyPost_ret (results_four rfl _ _ _) rfl ?_
        exact ⟨rfl, HB.out.trans (T5.out.mono (by simp))⟩
end Go.Proofs.YtaacofbmbpkeoaaGreatDoor
