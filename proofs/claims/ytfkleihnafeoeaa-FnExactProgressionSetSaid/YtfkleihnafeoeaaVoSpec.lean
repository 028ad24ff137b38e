/- The document's reading of chapter 10: progressions as sets, whether the order is prime, the steps of a set. -/
import Derived.Test.YtfkleihnafeoeaaVoDef
import Derived.Test.YtfkleihnafeoeaaSumSpec
import Derived.Deep.RegionHeld3
import Derived.Deep.DeepCutAuto
namespace Go.Proofs.Ytfkleihnafeoeaa
open Go.RowKit
set_option maxRecDepth 1000000
set_option maxHeartbeats 4000000 in
theorem sPrg (w : World) (a : Option Addr) (l : List Int) (n cap : Nat) (x d m : Nat) (hx : x < (prodI l).toNat) (hd : d < (prodI l).toNat) (hm : m ≤ 24) (hn : n = l.length) (hg : grpB l = true) (hi : Ints w a l) :
    Calls Try.prog 18 #[.agg #[.slice a n cap], .int .i64 x, .int .i64 d, .int .i64 m] w fun e w' => e = .returned (.int .i64 (prgN l x d m : Nat)) ∧ Below w.heap.size w w' := by
  have HI := Lib.hid (ints_alloc hi (.cells #[.slice a n cap] 27))
  have HN := Lib.hid hn
  have C1 := newC w (.slice a n cap) 27 (n := w.heap.size) rfl
  have HB := Lib.hid (Joins.below_alloc1 w (.cells #[.slice a n cap] 27))
  have T0 := Lib.hid (Below.refl (w.alloc (.cells #[.slice a n cap] 27)).heap.size (w.alloc (.cells #[.slice a n cap] 27)))
  clear hi hn
  have HG := Lib.hid hg
  have hp := (ords_grp hg).prod
  have hd23 : (d : Int) ≤ 23 := by omega
  have hd0 : (0 : Int) ≤ (d : Int) := by omega
  have HP1 := Lib.hid (fun k => show prgN l x d (k + 1) = prgN l x d k ||| 2 ^ stp (adN l) d x k from rfl)
  have HS1 := Lib.hid (fun k => show stp (adN l) d x (k + 1) = adN l (stp (adN l) d x k) d from rfl)
  have HPL := Lib.hid (fun k => grp_pow hg (prg_lt hg hx (d := d) k))
  have HSL : Hid (∀ k, stp (adN l) d x k ≤ 23) := Lib.hid (fun k => by have := stp_lt hg hx (d := d) k; omega)
  have HAD : Hid (∀ y : Nat, addN l (y : Int) (d : Int) = ((adN l y d : Nat) : Int)) := Lib.hid (fun y => by have := addN_in (ords_grp hg) (y : Int) (d : Int); unfold adN; omega)
  have HP0 : Hid (prgN l x d 0 = 0) := Lib.hid rfl
  have HS0 : Hid (stp (adN l) d x 0 = x) := Lib.hid rfl
  obtain ⟨R, hR⟩ : ∃ R, prgN l x d = R := ⟨_, rfl⟩
  obtain ⟨T, hT⟩ : ∃ T, stp (adN l) d x = T := ⟨_, rfl⟩
  rw [hR, hT] at HP1
  rw [hR] at HPL HP0
  rw [hT] at HS1 HSL HS0
  rw [hR]
  clear hR hT hp hg hx hd
  go_enter Try.func18, Try.ntmps18
  go_wp2
  go_loopw [9, 10, 11] (fun o y i wr => ∃ k : Nat, k ≤ m ∧ i = .int .i64 k ∧ o = .int .i64 (R k : Nat) ∧ y = .int .i64 (T k : Nat) ∧ Below (w.alloc (.cells #[.slice a n cap] 27)).heap.size (w.alloc (.cells #[.slice a n cap] 27)) wr) (fun _ _ i _ => m - (intOf i).toNat)
  case atStart => exact ⟨0, Nat.zero_le _, rfl, by rw [HP0.out]; rfl, by rw [HS0.out], T0.out⟩
  case round =>
    obtain ⟨k, hk, rfl, rfl, rfl, hbel⟩ := hrel
    have c4 := keepC hbel (by simp) C1
    have HIr := Lib.hid (HI.out.below rfl hbel)
    have HBL := Lib.hid hbel
    have hO := HPL.out k
    have hY := HSL.out k
    by_cases hlt : k < m
    · have h1 := HP1.out k
      have h2 := HS1.out k
      obtain ⟨O, hOO⟩ : ∃ O, R k = O := ⟨_, rfl⟩
      obtain ⟨Y, hYY⟩ : ∃ Y, T k = Y := ⟨_, rfl⟩
      rw [hOO, hYY] at h1
      rw [hYY] at h2 hY
      rw [hOO] at hO
      rw [hOO, hYY]
      have h3 := HAD.out Y
      obtain ⟨Z, hZ⟩ : ∃ Z, adN l Y d = Z := ⟨_, rfl⟩
      rw [hZ] at h2 h3
      have HA3 := Lib.hid h3
      have H1 := Lib.hid h1
      have H2 := Lib.hid h2
      have HOR := or_step (O := O) (V := (Y : Int)) hO (by omega) (by omega)
      rw [Int.toNat_natCast] at HOR
      have hy23 : (Y : Int) ≤ 23 := by omega
      have hy0 : (0 : Int) ≤ (Y : Int) := by omega
      clear h1 h2 h3 hOO hYY hZ hO hY hbel
      go_wp2_with (go_at_call 28; refine (sAdd _ _ l _ _ (Y : Int) (d : Int) hy0 hy23 hd0 hd23 HN.out HG.out HIr.out).mono ?_; rw [HA3.out]; rintro e w5 ⟨rfl, hb5⟩)
      go_roundw
      case rel => exact ⟨k + 1, by omega, by go_num, by rw [H1.out], by rw [H2.out], HBL.out.trans (hb5.mono HBL.out.size)⟩
      case measure => simp [intOf]; omega
    · obtain rfl : k = m := by omega
      clear hbel
      go_wp2
      go_ret
      exact ⟨rfl, HB.out.trans (HBL.out.mono (by simp))⟩
set_option maxHeartbeats 4000000 in
theorem sPrgE (w : World) (a : Option Addr) (l : List Int) (n cap : Nat) (x d m : Int) (hn : n = l.length) (hm : n ≤ 9223372036854775807) (hi : Ints w a l) :
    Calls Try.prog 7 #[.agg #[.slice a n cap], .int .i64 x, .int .i64 d, .int .i64 m] w fun e w' => e = .returned (.int .i64 (prgE l x d m)) ∧ Below w.heap.size w w' := by
  have HI := Lib.hid (ints_alloc hi (.cells #[.slice a n cap] 27))
  have HN := Lib.hid hn
  have C1 := newC w (.slice a n cap) 27 (n := w.heap.size) rfl
  have HB := Lib.hid (Joins.below_alloc1 w (.cells #[.slice a n cap] 27))
  have T0 := Lib.hid (Below.refl (w.alloc (.cells #[.slice a n cap] 27)).heap.size (w.alloc (.cells #[.slice a n cap] 27)))
  clear hi hn
  cases h1 : isE l x with
  | false =>
    have H1 : Hid (false = (decide (0 ≤ x) && decide (x < ordN l))) := Lib.hid h1.symm
    rw [show prgE l x d m = -1 by unfold prgE; rw [h1]; rfl]
    clear h1
    go_enter Try.func7, Try.ntmps7
    go_wp2_with (go_at_call 16; refine (sIs _ _ l _ _ x _ H1.out HN.out hm (HI.out.below rfl T0.out)).mono ?_; rintro e w1 ⟨rfl, hb1⟩; have T1 := Lib.hid (T0.out.trans (hb1.mono T0.out.size)); have c1 := keepC T1.out (by simp) C1)
    go_ret
    exact ⟨rfl, HB.out.trans (T1.out.mono (by simp))⟩
  | true =>
    have H1 : Hid (true = (decide (0 ≤ x) && decide (x < ordN l))) := Lib.hid h1.symm
    cases h2 : isE l d with
    | false =>
      have H2 : Hid (false = (decide (0 ≤ d) && decide (d < ordN l))) := Lib.hid h2.symm
      rw [show prgE l x d m = -1 by unfold prgE; rw [h1, h2]; rfl]
      clear h1 h2
      go_enter Try.func7, Try.ntmps7
      go_wp2_with (first
        | (go_at_call 16; have hx_ := K1; clear hx_; refine (sIs _ _ l _ _ d _ H2.out HN.out hm (HI.out.below rfl T1.out)).mono ?_; rintro e w2 ⟨rfl, hb2⟩; have T2 := Lib.hid (T1.out.trans (hb2.mono T1.out.size)); have c2 := keepC T2.out (by simp) C1)
        | (go_at_call 16; refine (sIs _ _ l _ _ x _ H1.out HN.out hm (HI.out.below rfl T0.out)).mono ?_; rintro e w1 ⟨rfl, hb1⟩; have T1 := Lib.hid (T0.out.trans (hb1.mono T0.out.size)); have c1 := keepC T1.out (by simp) C1; have K1 := True.intro))
      go_ret
      exact ⟨rfl, HB.out.trans (T2.out.mono (by simp))⟩
    | true =>
      have H2 : Hid (true = (decide (0 ≤ d) && decide (d < ordN l))) := Lib.hid h2.symm
      cases h3 : (decide (0 ≤ m) && decide (m ≤ 24)) with
      | false =>
        have H3 : Hid (false = (decide (0 ≤ m) && decide (m ≤ 24))) := Lib.hid h3.symm
        rw [show prgE l x d m = -1 by unfold prgE; rw [h1, h2, h3]; rfl]
        clear h1 h2 h3
        go_enter Try.func7, Try.ntmps7
        go_wp2_with (first
          | (go_at_call 17; refine (sIn _ _ _ _ _ H3.out).mono ?_; rintro e w3 ⟨rfl, rfl⟩)
          | (go_at_call 16; have hx_ := K1; clear hx_; refine (sIs _ _ l _ _ d _ H2.out HN.out hm (HI.out.below rfl T1.out)).mono ?_; rintro e w2 ⟨rfl, hb2⟩; have T2 := Lib.hid (T1.out.trans (hb2.mono T1.out.size)); have c2 := keepC T2.out (by simp) C1)
          | (go_at_call 16; refine (sIs _ _ l _ _ x _ H1.out HN.out hm (HI.out.below rfl T0.out)).mono ?_; rintro e w1 ⟨rfl, hb1⟩; have T1 := Lib.hid (T0.out.trans (hb1.mono T0.out.size)); have c1 := keepC T1.out (by simp) C1; have K1 := True.intro))
        go_ret
        exact ⟨rfl, HB.out.trans (T2.out.mono (by simp))⟩
      | true =>
        have H3 : Hid (true = (decide (0 ≤ m) && decide (m ≤ 24))) := Lib.hid h3.symm
        have hg : grpB l = true := by
          cases hg : grpB l with
          | true => rfl
          | false =>
            unfold isE at h1
            rw [ordN_no hg, Bool.and_eq_true] at h1
            have h4 := of_decide_eq_true h1.1
            have h5 := of_decide_eq_true h1.2
            omega
        rw [show prgE l x d m = ((prgN l x.toNat d.toNat m.toNat : Nat) : Int) by unfold prgE; rw [h1, h2, h3]; rfl]
        unfold isE at h1 h2
        rw [ordN_grp hg] at h1 h2
        simp only [Bool.and_eq_true, decide_eq_true_eq] at h1 h2 h3
        obtain ⟨X, rfl⟩ : ∃ X : Nat, x = (X : Int) := ⟨x.toNat, by omega⟩
        obtain ⟨D, rfl⟩ : ∃ D : Nat, d = (D : Int) := ⟨d.toNat, by omega⟩
        obtain ⟨M, rfl⟩ : ∃ M : Nat, m = (M : Int) := ⟨m.toNat, by omega⟩
        simp only [Int.toNat_natCast]
        have HPR := Lib.hid (fun (W : World) (h : Ints W a l) => sPrg W a l n cap X D M (by omega) (by omega) (by omega) HN.out hg h)
        obtain ⟨R, hR⟩ : ∃ R, prgN l X D M = R := ⟨_, rfl⟩
        rw [hR] at HPR ⊢
        clear h1 h2 h3 hg hR
        go_enter Try.func7, Try.ntmps7
        go_wp2_with (first
          | (go_at_call 18; refine (HPR.out _ (HI.out.below rfl T2.out)).mono ?_; rintro e w4 ⟨rfl, hb4⟩; have T4 := Lib.hid (T2.out.trans (hb4.mono T2.out.size)))
          | (go_at_call 17; refine (sIn _ _ _ _ _ H3.out).mono ?_; rintro e w3 ⟨rfl, rfl⟩)
          | (go_at_call 16; have hx_ := K1; clear hx_; refine (sIs _ _ l _ _ (D : Int) _ H2.out HN.out hm (HI.out.below rfl T1.out)).mono ?_; rintro e w2 ⟨rfl, hb2⟩; have T2 := Lib.hid (T1.out.trans (hb2.mono T1.out.size)); have c2 := keepC T2.out (by simp) C1)
          | (go_at_call 16; refine (sIs _ _ l _ _ (X : Int) _ H1.out HN.out hm (HI.out.below rfl T0.out)).mono ?_; rintro e w1 ⟨rfl, hb1⟩; have T1 := Lib.hid (T0.out.trans (hb1.mono T0.out.size)); have c1 := keepC T1.out (by simp) C1; have K1 := True.intro))
        go_ret
        exact ⟨rfl, HB.out.trans (T4.out.mono (by simp))⟩
theorem tmod_nat10 (m n : Nat) : (m : Int).tmod (n : Int) = ((m % n : Nat) : Int) := by
  rw [Int.tmod_eq_emod_of_nonneg (by omega)]
  rfl
theorem prm_no {l : List Int} {d : Nat} (h2 : 2 ≤ d) (hd : d < (prodI l).toNat) (h : (prodI l).toNat % d = 0) : prmB l = false := by
  cases e : prmB l with
  | false => rfl
  | true =>
    obtain ⟨_, _, hk⟩ := prm_yes e
    rcases hk d (Nat.dvd_of_mod_eq_zero h) with g | g <;> omega
theorem prm_all {l : List Int} (hg : grpB l = true) (h2 : 2 ≤ (prodI l).toNat) (h : ∀ d, 2 ≤ d → d < (prodI l).toNat → (prodI l).toNat % d ≠ 0) : prmB l = true := by
  unfold prmB
  rw [hg, Bool.true_and, Bool.and_eq_true, List.all_eq_true]
  refine ⟨decide_eq_true h2, fun d hd => ?_⟩
  have hd := List.mem_range.1 hd
  by_cases e : d < 2
  · simp [e]
  · have := h d (by omega) hd
    simp [this]
set_option maxHeartbeats 4000000 in
theorem sPrm (w : World) (a : Option Addr) (l : List Int) (n cap : Nat) (hn : n = l.length) (hm : n ≤ 9223372036854775807) (hi : Ints w a l) :
    Calls Try.prog 13 #[.agg #[.slice a n cap]] w fun e w' => e = .returned (.bool (prmB l)) ∧ Below w.heap.size w w' := by
  have HI := Lib.hid (ints_alloc hi (.cells #[.slice a n cap] 27))
  have HN := Lib.hid hn
  have C1 := newC w (.slice a n cap) 27 (n := w.heap.size) rfl
  have HB := Lib.hid (Joins.below_alloc1 w (.cells #[.slice a n cap] 27))
  have T0 := Lib.hid (Below.refl (w.alloc (.cells #[.slice a n cap] 27)).heap.size (w.alloc (.cells #[.slice a n cap] 27)))
  clear hi hn
  obtain ⟨P, HO⟩ : ∃ P : Nat, Hid (ordN l = (P : Int)) := by
    cases hg : grpB l with
    | true => exact ⟨(prodI l).toNat, Lib.hid (by rw [ordN_grp hg]; have := (ords_grp hg).prod; omega)⟩
    | false => exact ⟨0, Lib.hid (by rw [ordN_no hg]; rfl)⟩
  have hP24 : P ≤ 24 := by
    cases hg : grpB l with
    | true => have h := HO.out; rw [ordN_grp hg] at h; have := (ords_grp hg).prod; omega
    | false => have h := HO.out; rw [ordN_no hg] at h; omega
  have HNO : Hid (∀ d, 2 ≤ d → d < P → P % d = 0 → prmB l = false) := Lib.hid (fun d h2 hd hz => by
    cases hg : grpB l with
    | true =>
      have h := HO.out
      rw [ordN_grp hg] at h
      have e : (prodI l).toNat = P := by omega
      exact prm_no h2 (by rw [e]; exact hd) (by rw [e]; exact hz)
    | false => unfold prmB; rw [hg]; rfl)
  have HYE : Hid ((∀ d, 2 ≤ d → d < P → P % d ≠ 0) → prmB l = decide (2 ≤ (P : Int))) := Lib.hid (fun hall => by
    cases hg : grpB l with
    | true =>
      have h := HO.out
      rw [ordN_grp hg] at h
      have e : (prodI l).toNat = P := by omega
      by_cases h2 : 2 ≤ P
      · rw [prm_all hg (by rw [e]; exact h2) (by rw [e]; exact hall)]
        exact (decide_eq_true (by omega)).symm
      · rw [show decide (2 ≤ (P : Int)) = false from decide_eq_false (by omega)]
        unfold prmB
        rw [e, show decide (2 ≤ P) = false from decide_eq_false h2, Bool.false_and, Bool.and_false]
    | false =>
      have h := HO.out
      rw [ordN_no hg] at h
      rw [show decide (2 ≤ (P : Int)) = false from decide_eq_false (by omega)]
      unfold prmB; rw [hg]; rfl)
  obtain ⟨Z, hZ⟩ : ∃ Z, prmB l = Z := ⟨_, rfl⟩
  rw [hZ] at HNO HYE
  rw [hZ]
  clear hZ
  go_enter Try.func13, Try.ntmps13
  go_wp2_with (go_at_call 32; refine (sOrderOf _ _ _ _ _ HN.out hm (HI.out.below rfl T0.out)).mono ?_; rw [HO.out]; rintro e w1 ⟨rfl, hb1⟩; have T1 := Lib.hid (T0.out.trans (hb1.mono T0.out.size)); have c1 := keepC T1.out (by simp) C1)
  go_loopw [4] (fun i wr => ∃ d : Nat, 2 ≤ d ∧ (d ≤ P ∨ d = 2) ∧ i = .int .i64 d ∧ (∀ k, 2 ≤ k → k < d → k < P → P % k ≠ 0) ∧ w1 = wr) (fun i _ => P - (intOf i).toNat)
  case atStart => exact ⟨2, by omega, .inr rfl, rfl, fun k h1 h2 => absurd h2 (by omega), rfl⟩
  case round =>
    obtain ⟨d, hd2, hdP, rfl, hall, rfl⟩ := hrel
    have HALL := Lib.hid hall
    clear hall
    by_cases hlt : d < P
    · have hd24 : d ≤ 24 := by omega
      have hdi : (d : Int) < (P : Int) := by omega
      have hd0 : ((d : Int) == 0) = false := by simp; omega
      have HM := Lib.hid (tmod_nat10 P d)
      by_cases hz : P % d = 0
      · have HZF := Lib.hid (HNO.out d hd2 hlt hz)
        have hm0 : (P : Int).tmod (d : Int) = 0 := by rw [HM.out, hz]; rfl
        have hm1 : (P : Int) % (d : Int) = 0 := by omega
        clear hz
        go_wp2
        go_ret
        exact ⟨by rw [HZF.out]; rfl, HB.out.trans (T1.out.mono (by simp))⟩
      · have hm0 : ((P : Int).tmod (d : Int) == 0) = false := by rw [HM.out]; simp; omega
        have hm1 : ((P : Int) % (d : Int) == 0) = false := by
          have : (P : Int) % (d : Int) ≠ 0 := by omega
          simpa using this
        have HZ0 := Lib.hid hz
        clear hz
        go_wp2
        go_roundw
        case rel => exact ⟨d + 1, by omega, by omega, by go_num, fun k h1 h2 h3 => by
          by_cases e : k = d
          · subst e; exact HZ0.out
          · exact HALL.out k h1 (by omega) h3, by first | trivial | rfl⟩
        case measure => simp [intOf]; omega
    · have HZT := Lib.hid (HYE.out (fun k h1 h2 => HALL.out k h1 (by omega) h2))
      have hdi : ¬ (d : Int) < (P : Int) := by omega
      go_wp2
      go_ret
      exact ⟨by rw [HZT.out]; rfl, HB.out.trans (T1.out.mono (by simp))⟩
end Go.Proofs.Ytfkleihnafeoeaa
