/- The program's own energies: squares added up, correlations, popular sums. -/
import Derived.Test.YthlpjiibjlaebaaDoorSumT
import Derived.Test.YthlpjiibjlaebaaDoorEnMath
import Derived.Test.YthlpjiibjlaebaaDoorEnSpec
import Derived.Test.YthlpjiibjlaebaaDoorMGAM
import Derived.Deep.RegionHeld3
import Derived.Deep.DeepCutAuto
namespace Go.Proofs.YthlpjiibjlaebaaDoor
open Go.RowKit
set_option maxRecDepth 1000000
theorem iSq (w : World) (x : Int) (x1 : 0 ≤ x) (x2 : x ≤ 576) : Calls Tryd.prog 85 #[.int .i64 x] w fun e w' => e = .returned (.int .i64 (x * x)) ∧ w = w' := by
  obtain ⟨m1, m2⟩ := sq_bnd x1 x2
  go_enter Tryd.func85, Tryd.ntmps85
  go_wp2
  go_ret
  exact ⟨rfl, rfl⟩
theorem iTotI (w : World) (a : Option Addr) (M : List Int) (n cap : Nat) (hn : n = M.length) (hm : n ≤ 24) (hi : Ints w a M) (hb : ∀ k, k < n → 0 ≤ M.getD k 0 ∧ M.getD k 0 ≤ 576) :
    Calls Tryd.prog 83 #[.slice a n cap, .func (.func 85) #[] #[]] w fun e w' => e = .returned (.int .i64 (accN (fun i => M.getD i 0 * M.getD i 0) n)) ∧ w = w' := by
  have HI := Lib.hid hi
  have HN := Lib.hid hn
  have HBD := Lib.hid hb
  have HAB : Hid (∀ k, k ≤ n → 0 ≤ accN (fun i => M.getD i 0 * M.getD i 0) k ∧ accN (fun i => M.getD i 0 * M.getD i 0) k ≤ 7962624) := Lib.hid (fun k hk => by
    have := acc_mid (f := fun i => M.getD i 0 * M.getD i 0) (c := 331776) (n := n) (fun i hi => sq_bnd (hb i hi).1 (hb i hi).2) hk
    have : (k : Int) * 331776 ≤ 24 * 331776 := Int.mul_le_mul_of_nonneg_right (by omega) (by decide)
    omega)
  have HSTEP : Hid (∀ k, accN (fun i => M.getD i 0 * M.getD i 0) (k + 1) = accN (fun i => M.getD i 0 * M.getD i 0) k + M.getD k 0 * M.getD k 0) := Lib.hid (fun k => rfl)
  have HZ : Hid (accN (fun i => M.getD i 0 * M.getD i 0) 0 = 0) := Lib.hid rfl
  obtain ⟨A, HA⟩ : ∃ A, Hid (accN (fun i => M.getD i 0 * M.getD i 0) = A) := ⟨_, Lib.hid rfl⟩
  rw [HA.out] at HAB HSTEP HZ
  rw [HA.out]
  clear hi hn hb
  go_enter Tryd.func83, Tryd.ntmps83
  go_wp2
  go_loopw [5, 10] (fun o i wr => ∃ k : Nat, k ≤ n ∧ i = .int .i64 k ∧ o = .int .i64 (A k) ∧ w = wr) (fun _ i _ => n - (intOf i).toNat)
  case atStart => exact ⟨0, Nat.zero_le _, rfl, by rw [HZ.out], rfl⟩
  case round =>
    obtain ⟨k, hk, rfl, rfl, rfl⟩ := hrel
    obtain ⟨y1, y2⟩ := HAB.out k hk
    by_cases hlt : k < n
    · have hkl : k < M.length := by rw [← HN.out]; exact hlt
      rcases HI.out with h0 | ⟨b, off, h1, hbl, hc⟩
      · rw [h0] at hkl; simp at hkl
      · subst h1
        have r1 := hc k hkl
        obtain ⟨x1, x2⟩ := HBD.out k hlt
        have HST := Lib.hid (HSTEP.out k)
        obtain ⟨x, HX⟩ : ∃ x, Hid (M.getD k 0 = x) := ⟨_, Lib.hid rfl⟩
        rw [HX.out] at r1 x1 x2 HST
        obtain ⟨m1, m2⟩ := sq_bnd x1 x2
        obtain ⟨ak, HAK⟩ : ∃ ak, Hid (A k = ak) := ⟨_, Lib.hid rfl⟩
        rw [HAK.out] at y1 y2 HST
        rw [HAK.out]
        clear hc hbl hkl
        have HSQ := Lib.hid (iSq w x x1 x2)
        obtain ⟨q, HQ⟩ : ∃ q, Hid (x * x = q) := ⟨_, Lib.hid rfl⟩
        rw [HQ.out] at HSQ m1 m2 HST
        go_wp2_with (go_at_call 85; refine (HSQ.out).mono ?_; rintro e w5 ⟨rfl, rfl⟩)
        go_roundw
        case rel => exact ⟨k + 1, by omega, by go_num, by rw [HST.out], by first | trivial | rfl⟩
        case measure => simp [intOf]; omega
    · obtain rfl : k = n := by omega
      go_wp2
      go_ret
      exact ⟨rfl, rfl⟩
set_option maxHeartbeats 4000000 in
theorem iEng (w : World) (a : Option Addr) (l : List Int) (n cap : Nat) (s t : Int) (hn : n = l.length) (hm : n ≤ 9223372036854775807) (hi : Ints w a l) (B : Nat) (hB0 : B ≤ w.heap.size) (ht : TabZ B w) :
    Calls Tryd.prog 32 #[.agg #[.slice a n cap], .int .i64 s, .int .i64 t] w fun e w' => e = .returned (.int .i64 (engE l s t)) ∧ Below w.heap.size w w' := by
  have HTZ := Lib.hid ht
  clear ht
  have HI := Lib.hid (ints_alloc hi (.cells #[.slice a n cap] 26))
  have HN := Lib.hid hn
  have C1 := newC w (.slice a n cap) 26 (n := w.heap.size) rfl
  have HB := Lib.hid (Joins.below_alloc1 w (.cells #[.slice a n cap] 26))
  have T0 := Lib.hid (Below.refl (w.alloc (.cells #[.slice a n cap] 26)).heap.size (w.alloc (.cells #[.slice a n cap] 26)))
  clear hi hn
  cases hs : two l s t with
  | false =>
    have HS := Lib.hid hs
    rw [show engE l s t = -1 by unfold engE; rw [if_neg (by simp [hs])]]
    clear hs
    go_enter Tryd.func32, Tryd.ntmps32
    go_wp2_with (go_at_call 60; refine (iSetsIn_no _ _ _ _ _ _ _ HN.out hm (HI.out.below rfl T0.out) HS.out).mono ?_; rintro e w1 ⟨p, q, r, u, v, rfl, hb1⟩)
    go_ret
    exact ⟨rfl, HB.out.trans ((hb1.mono (by simp)).alloc (Nat.le_trans (by simp) hb1.size) _)⟩
  | true =>
    have HS := Lib.hid hs
    obtain ⟨hg, s, t, rfl, rfl, hsn, htn⟩ := two_true hs
    have HST := Lib.hid (fun (W : World) h1 h2 => iSumT hg W s t hsn htn B h1 h2)
    have hpr := (ords_grp hg).prod
    obtain ⟨N, HNN⟩ : ∃ N : Nat, Hid ((prodI l).toNat = N) := ⟨_, Lib.hid rfl⟩
    have hN24 : N ≤ 24 := by have := HNN.out; omega
    have HBD : Hid (∀ k, k < N → 0 ≤ (tabN l s t).getD k 0 ∧ (tabN l s t).getD k 0 ≤ 576) := Lib.hid (fun k hk => tabN_bnd l _ _ (by rw [HNN.out]; exact hk))
    have HML : Hid ((tabN l s t).length = N) := Lib.hid (by rw [tabN_len, HNN.out])
    rw [show engE l s t = accN (fun i => (tabN l s t).getD i 0 * (tabN l s t).getD i 0) N by unfold engE; rw [if_pos hs, HNN.out]; rfl]
    obtain ⟨M, HM⟩ : ∃ M, Hid (tabN l s t = M) := ⟨_, Lib.hid rfl⟩
    rw [HM.out] at HST HBD HML
    obtain ⟨p, EP⟩ : ∃ p, Hid (l.getD 0 1 = p) := ⟨_, Lib.hid rfl⟩
    obtain ⟨q, EQ⟩ : ∃ q, Hid (l.getD 1 1 = q) := ⟨_, Lib.hid rfl⟩
    obtain ⟨r, ER⟩ : ∃ r, Hid (l.getD 2 1 = r) := ⟨_, Lib.hid rfl⟩
    rw [EP.out, EQ.out, ER.out] at HST
    rw [HM.out]
    have HTO := Lib.hid (fun (W : World) a c (h : Ints W a M) => iTotI W a M N c HML.out.symm hN24 h HBD.out)
    obtain ⟨V, HV⟩ : ∃ V, Hid (accN (fun i => M.getD i 0 * M.getD i 0) N = V) := ⟨_, Lib.hid rfl⟩
    rw [HV.out] at HTO
    rw [HV.out]
    clear hs hg hsn htn hpr
    go_enter Tryd.func32, Tryd.ntmps32
    go_wp2_with (first
      | (go_at_call 83; refine (HTO.out _ _ _ I3.out).mono ?_; rintro e w4 ⟨rfl, rfl⟩)
      | (go_at_call 84; refine (HST.out _ (Nat.le_trans (Nat.le_trans hB0 T1.out.size) T2.out.size) (HTZ.out.on ((T1.out.trans (T2.out.mono T1.out.size)).mono hB0))).mono ?_; rintro e w3 ⟨v3, rfl, ho3, hb3⟩; rw [HML.out] at ho3; obtain ⟨a3, cap3, rfl⟩ := own_sl ho3; have I3 := Lib.hid (own_in ho3); have B3 := Lib.hid hb3; clear ho3 hb3)
      | (go_at_call 60; refine (iSetsIn_yes _ _ _ _ _ _ _ HN.out hm (HI.out.below rfl T0.out) HS.out).mono ?_; rw [EP.out, EQ.out, ER.out]; rintro e w1 ⟨rfl, hb1⟩; have T1 := Lib.hid (HB.out.trans (hb1.mono (by simp))); have T2 := Lib.hid (Joins.below_alloc1 w1 (.cells #[.int .i64 p, .int .i64 q, .int .i64 r] 51)); have HAL := Lib.hid (heap_alloc_new w1 (.cells #[.int .i64 p, .int .i64 q, .int .i64 r] 51)); obtain ⟨y0, y1, y2, _, _, _⟩ := trip_cell HAL.out; clear hb1))
    go_ret
    exact ⟨rfl, (T1.out.trans (T2.out.mono T1.out.size)).trans (B3.out.mono (Nat.le_trans T1.out.size T2.out.size))⟩
set_option maxHeartbeats 4000000 in
theorem iQua (w : World) (a : Option Addr) (l : List Int) (n cap : Nat) (s : Int) (hn : n = l.length) (hm : n ≤ 9223372036854775807) (hi : Ints w a l) (B : Nat) (hB0 : B ≤ w.heap.size) (ht : TabZ B w) :
    Calls Tryd.prog 30 #[.agg #[.slice a n cap], .int .i64 s] w fun e w' => e = .returned (.int .i64 (quaE l s)) ∧ Below w.heap.size w w' := by
  have HTZ := Lib.hid ht
  clear ht
  have HI := Lib.hid (ints_alloc hi (.cells #[.slice a n cap] 26))
  have HN := Lib.hid hn
  have C1 := newC w (.slice a n cap) 26 (n := w.heap.size) rfl
  have HB := Lib.hid (Joins.below_alloc1 w (.cells #[.slice a n cap] 26))
  have T0 := Lib.hid (Below.refl (w.alloc (.cells #[.slice a n cap] 26)).heap.size (w.alloc (.cells #[.slice a n cap] 26)))
  clear hi hn
  rw [qua_eng]
  go_enter Tryd.func30, Tryd.ntmps30
  go_wp2_with (go_at_call 32; refine (iEng _ _ _ _ _ _ _ HN.out hm (HI.out.below rfl T0.out) B (Nat.le_trans hB0 HB.out.size) (HTZ.out.on (HB.out.mono hB0))).mono ?_; rintro e w1 ⟨rfl, hb1⟩)
  go_ret
  exact ⟨rfl, HB.out.trans (hb1.mono (by simp))⟩
theorem two_ng (l : List Int) (s t : Int) : tabE l s (ngE l t) = corE l s t := by
  unfold corE
  cases h : two l s t with
  | true =>
    unfold two at h
    rw [Bool.and_eq_true] at h
    obtain ⟨hg, t, rfl, ht, _⟩ := isS_true h.2
    rw [show ngE l (t : Int) = ((ngN l t : Nat) : Int) by unfold ngE; rw [if_pos h.2]; rfl]
    rw [tabE_two (by unfold two; rw [h.1, isS_of hg (ngN_lt hg t)]; rfl), if_pos rfl]
    rfl
  | false =>
    rw [if_neg (by simp)]
    apply tabE_no
    unfold two at h ⊢
    cases h1 : isS l s with
    | false => rfl
    | true =>
      rw [h1, Bool.true_and] at h
      rw [show ngE l t = -1 by unfold ngE; rw [if_neg (by simp [h])], isS_neg (by omega)]
      rfl
set_option maxHeartbeats 4000000 in
theorem iCor (w : World) (a : Option Addr) (l : List Int) (n cap : Nat) (s t : Int) (hn : n = l.length) (hm : n ≤ 9223372036854775807) (hi : Ints w a l) (B : Nat) (hB0 : B ≤ w.heap.size) (ht : TabZ B w) :
    Calls Tryd.prog 47 #[.agg #[.slice a n cap], .int .i64 s, .int .i64 t] w fun e w' => ∃ v, e = .returned v ∧ w'.ownsRow w.heap.size 3 1 v (corE l s t).length ((corE l s t).map (Value.int .i64)) ∧ Below w.heap.size w w' := by
  have HTZ := Lib.hid ht
  clear ht
  have HI := Lib.hid (ints_alloc hi (.cells #[.slice a n cap] 26))
  have HN := Lib.hid hn
  have C1 := newC w (.slice a n cap) 26 (n := w.heap.size) rfl
  have HB := Lib.hid (Joins.below_alloc1 w (.cells #[.slice a n cap] 26))
  have T0 := Lib.hid (Below.refl (w.alloc (.cells #[.slice a n cap] 26)).heap.size (w.alloc (.cells #[.slice a n cap] 26)))
  clear hi hn
  have HTE := Lib.hid (two_ng l s t)
  go_enter Tryd.func47, Tryd.ntmps47
  have TD := Lib.hid T0.out.drew
  go_wp2
  go_region_held3 (fun W => W.cell? ⟨w.heap.size, 0, none⟩ = some (.slice a n cap)) (first | exact c2 | exact c1 | exact C1)
    (first
     | (go_at_call 53; refine (iTab _ _ _ _ _ _ _ HN.out hm (HI.out.below rfl T1.out) B (Nat.le_trans (Nat.le_trans hB0 HB.out.size) T1.out.size) (HTZ.out.on ((HB.out.trans (T1.out.mono (by simp))).mono hB0))).mono ?_; rw [HTE.out]; rintro e w2 ⟨v2, rfl, ho2, hb2⟩; have O2 := Lib.hid (ho2.shrinkT (Nat.le_trans HB.out.size T1.out.size)); have T2 := Lib.hid (T1.out.trans (hb2.mono T1.out.size)); have c2 := keepC T2.out (by simp) C1; clear ho2)
     | (go_at_call 19; refine (iNegS _ _ _ _ _ _ HN.out hm (HI.out.below rfl TD.out) B (Nat.le_trans (Nat.le_trans hB0 HB.out.size) TD.out.size) (HTZ.out.on ((HB.out.trans (TD.out.mono (by simp))).mono hB0))).mono ?_; rintro e w1 ⟨rfl, hb1⟩; have T1 := Lib.hid (TD.out.trans (hb1.mono TD.out.size)); have c1 := keepC T1.out (by simp) C1))
  go_wp2
  go_ret
  exact ⟨_, rfl, O2.out, HB.out.trans (T2.out.mono (by simp))⟩
end Go.Proofs.YthlpjiibjlaebaaDoor
