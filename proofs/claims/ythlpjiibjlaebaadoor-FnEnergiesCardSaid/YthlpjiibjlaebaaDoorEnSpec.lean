/- The document's reading of energies, popular sums, triples and correlations. -/
import Derived.Test.YthlpjiibjlaebaaDoorSumTab
import Derived.Test.YthlpjiibjlaebaaDoorEnMath
import Derived.Deep.RegionHeld3
import Derived.Deep.DeepCutAuto
import Derived.Deep.RegionWith
import Derived.Deep.RegionLaw
namespace Go.Proofs.YthlpjiibjlaebaaDoor
open Go.RowKit
set_option maxRecDepth 1000000
theorem sq_bnd {x : Int} (x1 : 0 ≤ x) (x2 : x ≤ 576) : 0 ≤ x * x ∧ x * x ≤ 331776 := by
  refine ⟨Int.mul_nonneg x1 x1, ?_⟩
  have := Int.mul_le_mul x2 x2 x1 (by omega)
  omega
theorem acc_mid {f : Nat → Int} {c : Int} {n : Nat} (h : ∀ i, i < n → 0 ≤ f i ∧ f i ≤ c) {k : Nat} (hk : k ≤ n) : 0 ≤ accN f k ∧ accN f k ≤ (k : Int) * c := by
  have := accN_bnd (n := k) (a := 0) (b := c) (fun i hi => h i (by omega))
  omega
set_option maxHeartbeats 4000000 in
theorem sEng (w : World) (a : Option Addr) (l : List Int) (n cap : Nat) (s t : Int) (hn : n = l.length) (hm : n ≤ 9223372036854775807) (hi : Ints w a l) :
    Calls Tryd.prog 49 #[.agg #[.slice a n cap], .int .i64 s, .int .i64 t] w fun e w' => e = .returned (.int .i64 (engE l s t)) ∧ Below w.heap.size w w' := by
  have HI := Lib.hid (ints_alloc hi (.cells #[.slice a n cap] 26))
  have HN := Lib.hid hn
  have C1 := newC w (.slice a n cap) 26 (n := w.heap.size) rfl
  have HB := Lib.hid (Joins.below_alloc1 w (.cells #[.slice a n cap] 26))
  have T0 := Lib.hid (Below.refl (w.alloc (.cells #[.slice a n cap] 26)).heap.size (w.alloc (.cells #[.slice a n cap] 26)))
  clear hi hn
  cases hs : two l s t with
  | false =>
    have HTE := Lib.hid (tabE_no hs)
    have HLEN : Hid ((tabE l s t).length = 0) := Lib.hid (by rw [HTE.out]; rfl)
    rw [show engE l s t = -1 by unfold engE; rw [if_neg (by simp [hs])]]
    clear hs
    go_enter Tryd.func49, Tryd.ntmps49
    go_wp2_with (go_at_call 51; refine (sTab _ _ _ _ _ _ _ HN.out hm HI.out).mono ?_; rintro e w1 ⟨v1, rfl, ho1, hb1⟩; rw [HLEN.out] at ho1; obtain ⟨a1, cap1, rfl⟩ := own_sl ho1; have I1 := Lib.hid (own_in ho1); have T1 := Lib.hid (T0.out.trans (hb1.mono T0.out.size)); clear ho1)
    go_ret
    exact ⟨rfl, HB.out.trans (T1.out.mono (by simp))⟩
  | true =>
    have hg : grpB l = true := by unfold two at hs; rw [Bool.and_eq_true] at hs; exact (isS_true hs.1).1
    have hpr := (ords_grp hg).prod
    obtain ⟨N, HNN⟩ : ∃ N : Nat, Hid ((prodI l).toNat = N) := ⟨_, Lib.hid rfl⟩
    have hN24 : N ≤ 24 := by have := HNN.out; omega
    have hN1 : 1 ≤ N := by have := HNN.out; omega
    have hN0 : ((N : Int) == 0) = false := by simp; omega
    have HTE := Lib.hid (tabE_two hs)
    have HLEN : Hid ((tabN l s.toNat t.toNat).length = N) := Lib.hid (by rw [tabN_len, HNN.out])
    have HBD : Hid (∀ k, k < N → 0 ≤ (tabN l s.toNat t.toNat).getD k 0 ∧ (tabN l s.toNat t.toNat).getD k 0 ≤ 576) := Lib.hid (fun k hk => tabN_bnd l _ _ (by rw [HNN.out]; exact hk))
    have HRES : Hid (engE l s t = accN (fun i => (tabN l s.toNat t.toNat).getD i 0 * (tabN l s.toNat t.toNat).getD i 0) N) := Lib.hid (by unfold engE; rw [if_pos hs, HNN.out])
    rw [HRES.out]
    obtain ⟨M, HMM⟩ : ∃ M, Hid (tabN l s.toNat t.toNat = M) := ⟨_, Lib.hid rfl⟩
    rw [HMM.out] at HTE HLEN HBD
    rw [HMM.out]
    have HAB : Hid (∀ k, k ≤ N → 0 ≤ accN (fun i => M.getD i 0 * M.getD i 0) k ∧ accN (fun i => M.getD i 0 * M.getD i 0) k ≤ 7962624) := Lib.hid (fun k hk => by
      have := acc_mid (f := fun i => M.getD i 0 * M.getD i 0) (c := 331776) (n := N) (fun i hi => sq_bnd (HBD.out i hi).1 (HBD.out i hi).2) hk
      have : (k : Int) * 331776 ≤ 24 * 331776 := Int.mul_le_mul_of_nonneg_right (by omega) (by decide)
      omega)
    have HSTEP : Hid (∀ k, accN (fun i => M.getD i 0 * M.getD i 0) (k + 1) = accN (fun i => M.getD i 0 * M.getD i 0) k + M.getD k 0 * M.getD k 0) := Lib.hid (fun k => rfl)
    have HZ : Hid (accN (fun i => M.getD i 0 * M.getD i 0) 0 = 0) := Lib.hid rfl
    obtain ⟨A, HA⟩ : ∃ A, Hid (accN (fun i => M.getD i 0 * M.getD i 0) = A) := ⟨_, Lib.hid rfl⟩
    rw [HA.out] at HAB HSTEP HZ
    rw [HA.out]
    clear hs hg hpr
    go_enter Tryd.func49, Tryd.ntmps49
    go_wp2_with (go_at_call 51; refine (sTab _ _ _ _ _ _ _ HN.out hm HI.out).mono ?_; rw [HTE.out]; rintro e w1 ⟨v1, rfl, ho1, hb1⟩; rw [HLEN.out] at ho1; obtain ⟨a1, cap1, rfl⟩ := own_sl ho1; have I1 := Lib.hid (own_in ho1); have T1 := Lib.hid (T0.out.trans (hb1.mono T0.out.size)); have c1 := keepC T1.out (by simp) C1; clear ho1)
    go_loopw [8, 9] (fun o i wr => ∃ k : Nat, k ≤ N ∧ i = .int .i64 k ∧ o = .int .i64 (A k) ∧ Below w1.heap.size w1 wr) (fun _ i _ => N - (intOf i).toNat)
    case atStart => exact ⟨0, Nat.zero_le _, rfl, by first | (rw [HZ.out]; done) | (rw [HZ.out]; rfl), Below.refl _ _⟩
    case round =>
      obtain ⟨k, hk, rfl, rfl, hb2⟩ := hrel
      have HB2 := Lib.hid hb2
      clear hb2
      obtain ⟨y1, y2⟩ := HAB.out k hk
      by_cases hlt : k < N
      · have hkl : k < M.length := by rw [HLEN.out]; exact hlt
        rcases I1.out with h0 | ⟨b, off, h1, hbl, hc⟩
        · rw [h0] at hkl; simp at hkl
        · subst h1
          have r1 := hc k hkl
          obtain ⟨x1, x2⟩ := HBD.out k hlt
          have HST := Lib.hid (HSTEP.out k)
          obtain ⟨x, HX⟩ : ∃ x, Hid (M.getD k 0 = x) := ⟨_, Lib.hid rfl⟩
          rw [HX.out] at r1 x1 x2 HST
          have HBLX := Lib.hid hbl
          clear hc hbl hkl
          obtain ⟨m1, m2⟩ := sq_bnd x1 x2
          obtain ⟨ak, HAK⟩ : ∃ ak, Hid (A k = ak) := ⟨_, Lib.hid rfl⟩
          rw [HAK.out] at y1 y2 HST
          rw [HAK.out]
          have d1 := keepC HB2.out.drew HBLX.out r1
          have r1 := keepC HB2.out HBLX.out r1
          go_wp2
          go_region_with (fail)
          all_goals
            go_wp2
            go_roundw
            case rel => exact ⟨k + 1, by omega, by go_num, by rw [HST.out], HB2.out.drew⟩
            case measure => simp [intOf]; omega
      · obtain rfl : k = N := by omega
        go_wp2
        go_ret
        exact ⟨rfl, HB.out.trans ((T1.out.trans (HB2.out.mono T1.out.size)).mono (by simp))⟩
set_option maxHeartbeats 4000000 in
theorem sPop (w : World) (a : Option Addr) (l : List Int) (n cap : Nat) (s t u : Int) (hn : n = l.length) (hm : n ≤ 9223372036854775807) (hi : Ints w a l) :
    Calls Tryd.prog 36 #[.agg #[.slice a n cap], .int .i64 s, .int .i64 t, .int .i64 u] w fun e w' => e = .returned (.int .i64 (popE l s t u)) ∧ Below w.heap.size w w' := by
  have HI := Lib.hid (ints_alloc hi (.cells #[.slice a n cap] 26))
  have HN := Lib.hid hn
  have C1 := newC w (.slice a n cap) 26 (n := w.heap.size) rfl
  have HB := Lib.hid (Joins.below_alloc1 w (.cells #[.slice a n cap] 26))
  have T0 := Lib.hid (Below.refl (w.alloc (.cells #[.slice a n cap] 26)).heap.size (w.alloc (.cells #[.slice a n cap] 26)))
  clear hi hn
  cases hs : two l s t with
  | false =>
    have HTE := Lib.hid (tabE_no hs)
    have HLEN : Hid ((tabE l s t).length = 0) := Lib.hid (by rw [HTE.out]; rfl)
    rw [show popE l s t u = -1 by unfold popE popB; rw [if_neg (by simp [hs])]]
    clear hs
    go_enter Tryd.func36, Tryd.ntmps36
    go_wp2_with (go_at_call 51; refine (sTab _ _ _ _ _ _ _ HN.out hm HI.out).mono ?_; rintro e w1 ⟨v1, rfl, ho1, hb1⟩; rw [HLEN.out] at ho1; obtain ⟨a1, cap1, rfl⟩ := own_sl ho1; have I1 := Lib.hid (own_in ho1); have T1 := Lib.hid (T0.out.trans (hb1.mono T0.out.size)); clear ho1)
    go_ret
    exact ⟨rfl, HB.out.trans (T1.out.mono (by simp))⟩
  | true =>
    have hg : grpB l = true := by unfold two at hs; rw [Bool.and_eq_true] at hs; exact (isS_true hs.1).1
    have hpr := (ords_grp hg).prod
    obtain ⟨N, HNN⟩ : ∃ N : Nat, Hid ((prodI l).toNat = N) := ⟨_, Lib.hid rfl⟩
    have hN24 : N ≤ 24 := by have := HNN.out; omega
    have hN1 : 1 ≤ N := by have := HNN.out; omega
    have hN0 : ((N : Int) == 0) = false := by simp; omega
    have HTE := Lib.hid (tabE_two hs)
    have HLEN : Hid ((tabN l s.toNat t.toNat).length = N) := Lib.hid (by rw [tabN_len, HNN.out])
    have HBD : Hid (∀ k, k < N → 0 ≤ (tabN l s.toNat t.toNat).getD k 0 ∧ (tabN l s.toNat t.toNat).getD k 0 ≤ 576) := Lib.hid (fun k hk => tabN_bnd l _ _ (by rw [HNN.out]; exact hk))
    cases hu : (decide (1 ≤ u) && decide (u ≤ 24)) with
    | false =>
      have HK : Hid (false = (decide (1 ≤ u) && decide (u ≤ 24))) := Lib.hid hu.symm
      rw [show popE l s t u = -1 by unfold popE popB; rw [if_neg (by simp [hu])]]
      clear hs hg hpr hu
      obtain ⟨M, HMM⟩ : ∃ M, Hid (tabN l s.toNat t.toNat = M) := ⟨_, Lib.hid rfl⟩
      rw [HMM.out] at HTE HLEN HBD
      go_enter Tryd.func36, Tryd.ntmps36
      go_wp2_with (first
        | (go_at_call 51; refine (sTab _ _ _ _ _ _ _ HN.out hm HI.out).mono ?_; rw [HTE.out]; rintro e w1 ⟨v1, rfl, ho1, hb1⟩; rw [HLEN.out] at ho1; obtain ⟨a1, cap1, rfl⟩ := own_sl ho1; have I1 := Lib.hid (own_in ho1); have T1 := Lib.hid (T0.out.trans (hb1.mono T0.out.size)); have c1 := keepC T1.out (by simp) C1; clear ho1)
        | (go_at_call 73; refine (sIn _ _ _ _ _ HK.out).mono ?_; rintro e w2 ⟨rfl, rfl⟩))
      go_ret
      exact ⟨rfl, HB.out.trans (T1.out.mono (by simp))⟩
    | true =>
      have HK : Hid (true = (decide (1 ≤ u) && decide (u ≤ 24))) := Lib.hid hu.symm
      have HRES : Hid (popE l s t u = ((selK (fun i => decide (u ≤ (tabN l s.toNat t.toNat).getD i 0)) N : Nat) : Int)) := Lib.hid (by unfold popE popB; rw [if_pos (by rw [hs, hu]; rfl), HNN.out])
      rw [HRES.out]
      obtain ⟨M, HMM⟩ : ∃ M, Hid (tabN l s.toNat t.toNat = M) := ⟨_, Lib.hid rfl⟩
      rw [HMM.out] at HTE HLEN HBD
      rw [HMM.out]
      have HSTEP : Hid (∀ k, (u ≤ M.getD k 0 → selK (fun i => decide (u ≤ M.getD i 0)) (k + 1) = selK (fun i => decide (u ≤ M.getD i 0)) k ||| 2 ^ k) ∧ (¬ u ≤ M.getD k 0 → selK (fun i => decide (u ≤ M.getD i 0)) (k + 1) = selK (fun i => decide (u ≤ M.getD i 0)) k)) := Lib.hid (fun k => ⟨fun h => selK_yes (by simpa using h), fun h => selK_no (by simpa using h)⟩)
      have HAB : Hid (∀ k, k ≤ N → selK (fun i => decide (u ≤ M.getD i 0)) k < 16777216) := Lib.hid (fun k hk => selK_lt24 _ (by omega))
      have HZ : Hid (selK (fun i => decide (u ≤ M.getD i 0)) 0 = 0) := Lib.hid rfl
      obtain ⟨A, HA⟩ : ∃ A, Hid (selK (fun i => decide (u ≤ M.getD i 0)) = A) := ⟨_, Lib.hid rfl⟩
      rw [HA.out] at HAB HSTEP HZ
      rw [HA.out]
      clear hs hg hpr hu
      go_enter Tryd.func36, Tryd.ntmps36
      go_wp2_with (first
        | (go_at_call 51; refine (sTab _ _ _ _ _ _ _ HN.out hm HI.out).mono ?_; rw [HTE.out]; rintro e w1 ⟨v1, rfl, ho1, hb1⟩; rw [HLEN.out] at ho1; obtain ⟨a1, cap1, rfl⟩ := own_sl ho1; have I1 := Lib.hid (own_in ho1); have T1 := Lib.hid (T0.out.trans (hb1.mono T0.out.size)); have c1 := keepC T1.out (by simp) C1; clear ho1)
        | (go_at_call 73; refine (sIn _ _ _ _ _ HK.out).mono ?_; rintro e w2 ⟨rfl, rfl⟩))
      go_loopw [10, 11] (fun o i wr => ∃ k : Nat, k ≤ N ∧ i = .int .i64 k ∧ o = .int .i64 (A k : Nat) ∧ w1 = wr) (fun _ i _ => N - (intOf i).toNat)
      case atStart => exact ⟨0, Nat.zero_le _, rfl, by first | (rw [HZ.out]; done) | (rw [HZ.out]; rfl), rfl⟩
      case round =>
        obtain ⟨k, hk, rfl, rfl, rfl⟩ := hrel
        have hS24 := HAB.out k hk
        by_cases hlt : k < N
        · have hkl : k < M.length := by rw [HLEN.out]; exact hlt
          rcases I1.out with h0 | ⟨b, off, h1, hbl, hc⟩
          · rw [h0] at hkl; simp at hkl
          · subst h1
            have r1 := hc k hkl
            obtain ⟨x1, x2⟩ := HBD.out k hlt
            have HST := Lib.hid (HSTEP.out k)
            obtain ⟨x, HX⟩ : ∃ x, Hid (M.getD k 0 = x) := ⟨_, Lib.hid rfl⟩
            rw [HX.out] at r1 x1 x2 HST
            clear hc hbl hkl
            have hk23 : (k : Int) ≤ 23 := by omega
            obtain ⟨S, HSS⟩ : ∃ S, Hid (A k = S) := ⟨_, Lib.hid rfl⟩
            rw [HSS.out] at hS24 HST
            rw [HSS.out]
            have HOR := Lib.hid (or_step (O := S) (V := (k : Int)) hS24 (by omega) hk23)
            rw [Int.toNat_natCast] at HOR
            have HORS := HOR.out
            by_cases hux : u ≤ x
            · have E1 := Lib.hid (HST.out.1 hux)
              go_wp2
              go_roundw
              case rel => exact ⟨k + 1, by omega, by go_num, by rw [E1.out], by first | trivial | rfl⟩
              case measure => simp [intOf]; omega
            · have E1 := Lib.hid (HST.out.2 (by omega))
              clear HOR HORS
              go_wp2
              go_roundw
              case rel => exact ⟨k + 1, by omega, by go_num, by rw [E1.out], by first | trivial | rfl⟩
              case measure => simp [intOf]; omega
        · obtain rfl : k = N := by omega
          go_wp2
          go_ret
          exact ⟨rfl, HB.out.trans (T1.out.mono (by simp))⟩
set_option maxHeartbeats 4000000 in
theorem sTri (w : World) (a : Option Addr) (l : List Int) (n cap : Nat) (s t u : Int) (hn : n = l.length) (hm : n ≤ 9223372036854775807) (hi : Ints w a l) :
    Calls Tryd.prog 39 #[.agg #[.slice a n cap], .int .i64 s, .int .i64 t, .int .i64 u] w fun e w' => e = .returned (.int .i64 (triE l s t u)) ∧ Below w.heap.size w w' := by
  have HI := Lib.hid (ints_alloc hi (.cells #[.slice a n cap] 26))
  have HN := Lib.hid hn
  have C1 := newC w (.slice a n cap) 26 (n := w.heap.size) rfl
  have HB := Lib.hid (Joins.below_alloc1 w (.cells #[.slice a n cap] 26))
  have T0 := Lib.hid (Below.refl (w.alloc (.cells #[.slice a n cap] 26)).heap.size (w.alloc (.cells #[.slice a n cap] 26)))
  clear hi hn
  cases hs : two l s t with
  | false =>
    have HTE := Lib.hid (tabE_no hs)
    have HLEN : Hid ((tabE l s t).length = 0) := Lib.hid (by rw [HTE.out]; rfl)
    rw [show triE l s t u = -1 by unfold triE triB; rw [if_neg (by simp [hs])]]
    clear hs
    go_enter Tryd.func39, Tryd.ntmps39
    go_wp2_with (go_at_call 51; refine (sTab _ _ _ _ _ _ _ HN.out hm HI.out).mono ?_; rintro e w1 ⟨v1, rfl, ho1, hb1⟩; rw [HLEN.out] at ho1; obtain ⟨a1, cap1, rfl⟩ := own_sl ho1; have I1 := Lib.hid (own_in ho1); have T1 := Lib.hid (T0.out.trans (hb1.mono T0.out.size)); clear ho1)
    go_ret
    exact ⟨rfl, HB.out.trans (T1.out.mono (by simp))⟩
  | true =>
    have hg : grpB l = true := by unfold two at hs; rw [Bool.and_eq_true] at hs; exact (isS_true hs.1).1
    have hpr := (ords_grp hg).prod
    obtain ⟨N, HNN⟩ : ∃ N : Nat, Hid ((prodI l).toNat = N) := ⟨_, Lib.hid rfl⟩
    have hN24 : N ≤ 24 := by have := HNN.out; omega
    have hN1 : 1 ≤ N := by have := HNN.out; omega
    have hN0 : ((N : Int) == 0) = false := by simp; omega
    have HTE := Lib.hid (tabE_two hs)
    have HLEN : Hid ((tabN l s.toNat t.toNat).length = N) := Lib.hid (by rw [tabN_len, HNN.out])
    have HBD : Hid (∀ k, k < N → 0 ≤ (tabN l s.toNat t.toNat).getD k 0 ∧ (tabN l s.toNat t.toNat).getD k 0 ≤ 576) := Lib.hid (fun k hk => tabN_bnd l _ _ (by rw [HNN.out]; exact hk))
    cases hu : isS l u with
    | false =>
      have HU := Lib.hid hu
      rw [show triE l s t u = -1 by unfold triE triB; rw [if_neg (by simp [hu])]]
      clear hs hg hpr hu
      obtain ⟨M, HMM⟩ : ∃ M, Hid (tabN l s.toNat t.toNat = M) := ⟨_, Lib.hid rfl⟩
      rw [HMM.out] at HTE HLEN HBD
      go_enter Tryd.func39, Tryd.ntmps39
      go_wp2_with (first
        | (go_at_call 51; refine (sTab _ _ _ _ _ _ _ HN.out hm HI.out).mono ?_; rw [HTE.out]; rintro e w1 ⟨v1, rfl, ho1, hb1⟩; rw [HLEN.out] at ho1; obtain ⟨a1, cap1, rfl⟩ := own_sl ho1; have I1 := Lib.hid (own_in ho1); have T1 := Lib.hid (T0.out.trans (hb1.mono T0.out.size)); have c1 := keepC T1.out (by simp) C1; clear ho1)
        | (go_at_call 64; refine (sIsSet _ _ _ _ _ _ HN.out hm (HI.out.below rfl T1.out)).mono ?_; rw [HU.out]; rintro e w2 ⟨rfl, hb2⟩; have T2 := Lib.hid (T1.out.trans (hb2.mono T1.out.size)); have I2 := Lib.hid (I1.out.below rfl hb2); have c2 := keepC T2.out (by simp) C1))
      go_ret
      exact ⟨rfl, HB.out.trans (T2.out.mono (by simp))⟩
    | true =>
      have HU := Lib.hid hu
      obtain ⟨_, u, rfl, _, hu24⟩ := isS_true hu
      have HRES : Hid (triE l s t u = accN (fun i => bitI u i * (tabN l s.toNat t.toNat).getD i 0) N) := Lib.hid (by unfold triE triB; rw [if_pos (by rw [hs, hu]; rfl), HNN.out]; rfl)
      rw [HRES.out]
      obtain ⟨M, HMM⟩ : ∃ M, Hid (tabN l s.toNat t.toNat = M) := ⟨_, Lib.hid rfl⟩
      rw [HMM.out] at HTE HLEN HBD
      rw [HMM.out]
      have HAB : Hid (∀ k, k ≤ N → 0 ≤ accN (fun i => bitI u i * M.getD i 0) k ∧ accN (fun i => bitI u i * M.getD i 0) k ≤ 13824) := Lib.hid (fun k hk => by
        have := acc_mid (f := fun i => bitI u i * M.getD i 0) (c := 576) (n := N) (fun i hi => by
          have h1 := HBD.out i hi
          show 0 ≤ bitI u i * M.getD i 0 ∧ bitI u i * M.getD i 0 ≤ 576
          unfold bitI
          split <;> omega) hk
        have : (k : Int) * 576 ≤ 24 * 576 := Int.mul_le_mul_of_nonneg_right (by omega) (by decide)
        omega)
      have HSTEP : Hid (∀ k, (u.testBit k = true → accN (fun i => bitI u i * M.getD i 0) (k + 1) = accN (fun i => bitI u i * M.getD i 0) k + M.getD k 0) ∧ (¬ u.testBit k = true → accN (fun i => bitI u i * M.getD i 0) (k + 1) = accN (fun i => bitI u i * M.getD i 0) k)) := Lib.hid (fun k => ⟨fun h => by
          show _ + bitI u k * M.getD k 0 = _
          unfold bitI; rw [if_pos h, Int.one_mul], fun h => by
          show _ + bitI u k * M.getD k 0 = _
          unfold bitI; rw [if_neg h, Int.zero_mul, Int.add_zero]⟩)
      have HZ : Hid (accN (fun i => bitI u i * M.getD i 0) 0 = 0) := Lib.hid rfl
      obtain ⟨A, HA⟩ : ∃ A, Hid (accN (fun i => bitI u i * M.getD i 0) = A) := ⟨_, Lib.hid rfl⟩
      rw [HA.out] at HAB HSTEP HZ
      rw [HA.out]
      have hU : u < 16777216 := hu24
      clear hs hg hpr hu hu24
      go_enter Tryd.func39, Tryd.ntmps39
      go_wp2_with (first
        | (go_at_call 51; refine (sTab _ _ _ _ _ _ _ HN.out hm HI.out).mono ?_; rw [HTE.out]; rintro e w1 ⟨v1, rfl, ho1, hb1⟩; rw [HLEN.out] at ho1; obtain ⟨a1, cap1, rfl⟩ := own_sl ho1; have I1 := Lib.hid (own_in ho1); have T1 := Lib.hid (T0.out.trans (hb1.mono T0.out.size)); have c1 := keepC T1.out (by simp) C1; clear ho1)
        | (go_at_call 64; refine (sIsSet _ _ _ _ _ _ HN.out hm (HI.out.below rfl T1.out)).mono ?_; rw [HU.out]; rintro e w2 ⟨rfl, hb2⟩; have T2 := Lib.hid (T1.out.trans (hb2.mono T1.out.size)); have I2 := Lib.hid (I1.out.below rfl hb2); have c2 := keepC T2.out (by simp) C1))
      go_loopw [10, 11] (fun o i wr => ∃ k : Nat, k ≤ N ∧ i = .int .i64 k ∧ o = .int .i64 (A k) ∧ w2 = wr) (fun _ i _ => N - (intOf i).toNat)
      case atStart => exact ⟨0, Nat.zero_le _, rfl, by first | (rw [HZ.out]; done) | (rw [HZ.out]; rfl), rfl⟩
      case round =>
        obtain ⟨k, hk, rfl, rfl, rfl⟩ := hrel
        obtain ⟨y1, y2⟩ := HAB.out k hk
        by_cases hlt : k < N
        · have hkl : k < M.length := by rw [HLEN.out]; exact hlt
          rcases I2.out with h0 | ⟨b, off, h1, hbl, hc⟩
          · rw [h0] at hkl; simp at hkl
          · subst h1
            have r1 := hc k hkl
            obtain ⟨x1, x2⟩ := HBD.out k hlt
            have HST := Lib.hid (HSTEP.out k)
            obtain ⟨x, HX⟩ : ∃ x, Hid (M.getD k 0 = x) := ⟨_, Lib.hid rfl⟩
            rw [HX.out] at r1 x1 x2 HST
            clear hc hbl hkl
            have hk23 : (k : Int) ≤ 23 := by omega
            have hsj : (u : Int) / 2 ^ k = ((u / 2 ^ k : Nat) : Int) := by simp
            have hle := Nat.div_le_self u (2 ^ k)
            have ha : bits .and .i64 ((u : Int) / 2 ^ k) 1 = ((u / 2 ^ k % 2 : Nat) : Int) := by rw [hsj]; exact and1 (u / 2 ^ k) (by omega)
            have hb := bit_iff u k
            obtain ⟨ak, HAK⟩ : ∃ ak, Hid (A k = ak) := ⟨_, Lib.hid rfl⟩
            rw [HAK.out] at y1 y2 HST
            rw [HAK.out]
            clear hsj hle
            cases hbt : u.testBit k with
            | true =>
              have hz := hb.1 hbt
              rw [hz] at ha
              simp only [Int.natCast_one] at ha
              have E1 := Lib.hid (HST.out.1 hbt)
              clear hb hbt hz HST
              go_wp2
              go_roundw
              case rel => exact ⟨k + 1, by omega, by go_num, by rw [E1.out], by first | trivial | rfl⟩
              case measure => simp [intOf]; omega
            | false =>
              have hz : u / 2 ^ k % 2 = 0 := by
                rcases Nat.mod_two_eq_zero_or_one (u / 2 ^ k) with h2 | h2
                · exact h2
                · rw [hb.2 h2] at hbt; cases hbt
              rw [hz] at ha
              simp only [Int.ofNat_zero] at ha
              have E1 := Lib.hid (HST.out.2 (by simp [hbt]))
              clear hb hbt hz HST
              go_wp2
              go_roundw
              case rel => exact ⟨k + 1, by omega, by go_num, by rw [E1.out], by first | trivial | rfl⟩
              case measure => simp [intOf]; omega
        · obtain rfl : k = N := by omega
          go_wp2
          go_ret
          exact ⟨rfl, HB.out.trans (T2.out.mono (by simp))⟩
theorem _root_.Go.World.ownsRow.shrinkE {w : World} {B C n : Nat} {v : Value} {xs : List Value} (h : w.ownsRow B 3 1 v n xs) (hc : C ≤ B) : w.ownsRow C 3 1 v n xs := by
  obtain ⟨h1, h2⟩ := h
  refine ⟨h1, ?_⟩
  rcases h2 with h2 | ⟨g, cap, cur, e, a1, rest⟩
  · exact .inl h2
  · exact .inr ⟨g, cap, cur, e, Nat.le_trans hc a1, rest⟩
theorem corE_len (l : List Int) (s t : Int) : (corE l s t).length ≤ 24 := by
  unfold corE
  split
  · next h =>
    have hg : grpB l = true := by
      unfold two at h; rw [Bool.and_eq_true] at h; exact (isS_true h.1).1
    have := (grpB_true hg).2.2
    rw [tabN_len]; omega
  · simp
set_option maxHeartbeats 4000000 in
theorem sCor (w : World) (a : Option Addr) (l : List Int) (n cap : Nat) (s t : Int) (hn : n = l.length) (hm : n ≤ 9223372036854775807) (hi : Ints w a l) :
    Calls Tryd.prog 48 #[.agg #[.slice a n cap], .int .i64 s, .int .i64 t] w fun e w' => ∃ v, e = .returned v ∧ w'.ownsRow w.heap.size 3 1 v (corE l s t).length ((corE l s t).map (Value.int .i64)) ∧ Below w.heap.size w w' := by
  have HI := Lib.hid (ints_alloc hi (.cells #[.slice a n cap] 26))
  have HN := Lib.hid hn
  have C1 := newC w (.slice a n cap) 26 (n := w.heap.size) rfl
  have HB := Lib.hid (Joins.below_alloc1 w (.cells #[.slice a n cap] 26))
  have T0 := Lib.hid (Below.refl (w.alloc (.cells #[.slice a n cap] 26)).heap.size (w.alloc (.cells #[.slice a n cap] 26)))
  clear hi hn
  cases hs : isS l s with
  | false =>
    have HS := Lib.hid hs
    rw [show corE l s t = [] by unfold corE two; rw [hs]; rfl]
    clear hs
    go_enter Tryd.func48, Tryd.ntmps48
    go_wp2_with (first
      | (go_at_call 64; refine (sIsSet _ _ _ _ _ _ HN.out hm (HI.out.below rfl T0.out)).mono ?_; rw [HS.out]; rintro e w1 ⟨rfl, hb1⟩; have T1 := Lib.hid (T0.out.trans (hb1.mono T0.out.size)); have c1 := keepC T1.out (by simp) C1))
    go_ret
    exact ⟨_, rfl, by simpa using World.ownsRow_lit (base := w.heap.size) (e := 3) (size := 1) w1 #[] 0 (Nat.le_trans (by simp) T1.out.size) (by simp [maxLen]) rfl, HB.out.trans ((T1.out.mono (by simp)).alloc (Nat.le_trans (by simp) T1.out.size) _)⟩
  | true =>
    have HS := Lib.hid hs
    cases ht : isS l t with
    | false =>
      have HS2 := Lib.hid ht
      rw [show corE l s t = [] by unfold corE two; rw [hs, ht]; rfl]
      clear hs ht
      go_enter Tryd.func48, Tryd.ntmps48
      go_wp2_with (first
        | (go_at_call 64; have hx_ := T1; clear hx_; refine (sIsSet _ _ _ _ _ _ HN.out hm (HI.out.below rfl T1.out)).mono ?_; rw [HS2.out]; rintro e w2 ⟨rfl, hb2⟩; have T2 := Lib.hid (T1.out.trans (hb2.mono T1.out.size)); have c2 := keepC T2.out (by simp) C1)
        | (go_at_call 64; refine (sIsSet _ _ _ _ _ _ HN.out hm (HI.out.below rfl T0.out)).mono ?_; rw [HS.out]; rintro e w1 ⟨rfl, hb1⟩; have T1 := Lib.hid (T0.out.trans (hb1.mono T0.out.size)); have c1 := keepC T1.out (by simp) C1))
      go_ret
      exact ⟨_, rfl, by simpa using World.ownsRow_lit (base := w.heap.size) (e := 3) (size := 1) w2 #[] 0 (Nat.le_trans (by simp) T2.out.size) (by simp [maxLen]) rfl, HB.out.trans ((T2.out.mono (by simp)).alloc (Nat.le_trans (by simp) T2.out.size) _)⟩
    | true =>
      have HS2 := Lib.hid ht
      obtain ⟨hg, t, rfl, htn, ht24⟩ := isS_true ht
      have HG := Lib.hid hg
      have HT24 := Lib.hid ht24
      have htw : two l s ((ngN l t : Nat) : Int) = true := by
        unfold two
        rw [hs, isS_of hg (ngN_lt hg t)]
        rfl
      have HTE : Hid (tabE l s ((ngN l t : Nat) : Int) = corE l s t) := Lib.hid (by
        rw [tabE_two htw]
        unfold corE two
        rw [hs, ht]
        rfl)
      clear hs ht hg ht24 htn htw
      go_enter Tryd.func48, Tryd.ntmps48
      go_wp2_with (first
        | (go_at_call 64; have hx_ := T1; clear hx_; refine (sIsSet _ _ _ _ _ _ HN.out hm (HI.out.below rfl T1.out)).mono ?_; rw [HS2.out]; rintro e w2 ⟨rfl, hb2⟩; have T2 := Lib.hid (T1.out.trans (hb2.mono T1.out.size)); have c2 := keepC T2.out (by simp) C1)
        | (go_at_call 64; refine (sIsSet _ _ _ _ _ _ HN.out hm (HI.out.below rfl T0.out)).mono ?_; rw [HS.out]; rintro e w1 ⟨rfl, hb1⟩; have T1 := Lib.hid (T0.out.trans (hb1.mono T0.out.size)); have c1 := keepC T1.out (by simp) C1))
      have TD := Lib.hid T2.out.drew
      go_region_held3 (fun W => W.cell? ⟨w.heap.size, 0, none⟩ = some (.slice a n cap)) (first | exact c4 | exact c3 | exact c2)
        (first
        | (go_at_call 51; refine (sTab _ _ _ _ _ _ _ HN.out hm (HI.out.below rfl T3.out)).mono ?_; rw [HTE.out]; rintro e w4 ⟨v4, rfl, ho4, hb4⟩; have O4 := Lib.hid (ho4.shrinkE (Nat.le_trans HB.out.size T3.out.size)); have T4 := Lib.hid (T3.out.trans (hb4.mono T3.out.size)); have c4 := keepC T4.out (by simp) C1; clear ho4)
        | (go_at_call 68; refine (sNegL _ _ l _ _ t HT24.out HN.out HG.out (HI.out.below rfl TD.out)).mono ?_; rw [show orF (fun y => negN l (y : Int)) (bitsN t) = ngN l t from rfl]; rintro e w3 ⟨rfl, hb3⟩; have T3 := Lib.hid (TD.out.trans (hb3.mono TD.out.size)); have c3 := keepC T3.out (by simp) C1))
      go_wp2
      go_ret
      exact ⟨_, rfl, O4.out, HB.out.trans (T4.out.mono (by simp))⟩
end Go.Proofs.YthlpjiibjlaebaaDoor
