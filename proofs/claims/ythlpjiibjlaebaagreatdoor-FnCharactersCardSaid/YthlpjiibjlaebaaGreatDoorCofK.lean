/- The program's own CoefficientCounts and IsZeroCoefficient. -/
import Derived.Test.YthlpjiibjlaebaaGreatDoorCofJ
import Derived.Test.YthlpjiibjlaebaaGreatDoorCntI
import Derived.Test.YthlpjiibjlaebaaGreatDoorMGAO
import Derived.Test.YthlpjiibjlaebaaGreatDoorMGAP
namespace Go.Proofs.YthlpjiibjlaebaaGreatDoor
open Go.RowKit Go.Shelf
set_option maxRecDepth 1000000
set_option maxHeartbeats 2000000 in
theorem iCoef (w : World) (a : Option Addr) (l : List Int) (n cap : Nat) (s k : Int) (hn : n = l.length) (hm : n ≤ 9223372036854775807) (hi : Ints w a l) (B : Nat) (hB0 : B ≤ w.heap.size) (ht : TabZ B w) :
    Calls Tryz.prog 22 #[.agg #[.slice a n cap], .int .i64 s, .int .i64 k] w fun e w' => ∃ v, e = .returned v ∧ w'.ownsRow w.heap.size 3 1 v (ccE l s k).length ((ccE l s k).map (Value.int .i64)) ∧ Below w.heap.size w w' := by
  have HTZ := Lib.hid ht
  have HI := Lib.hid (ints_alloc hi (.cells #[.slice a n cap] 26))
  have HN := Lib.hid hn
  have C1 := newC w (.slice a n cap) 26 (n := w.heap.size) rfl
  have HB := Lib.hid (Joins.below_alloc1 w (.cells #[.slice a n cap] 26))
  have T0 := Lib.hid (Below.refl (w.alloc (.cells #[.slice a n cap] 26)).heap.size (w.alloc (.cells #[.slice a n cap] 26)))
  clear hi hn ht
  cases hb : ccB l s k with
  | false =>
    have HCB := Lib.hid hb
    rw [show ccE l s k = [] by unfold ccE; rw [if_neg (by simp [hb])]]
    clear hb
    go_enter Tryz.func22, Tryz.ntmps22
    go_wp2_with (go_at_call 52; refine (iSAC_no _ _ _ _ _ s k HN.out hm (HI.out.below rfl T0.out) HCB.out).mono ?_; rintro e w1 ⟨rfl, hb1⟩; have TA := Lib.hid ((HB.out.trans (hb1.mono (by simp))).alloc (Nat.le_trans (by simp) hb1.size) (.cells #[.int .i64 0, .nilFunc] 49)))
    go_ret
    exact ⟨_, rfl, own_nil0 _ _, TA.out⟩
  | true =>
    have hs : isS l s = true := by unfold ccB at hb; exact (Bool.and_eq_true_iff.1 hb).1
    obtain ⟨hg, s, rfl, hsn, _⟩ := isS_true hs
    have HCB := Lib.hid hb
    have HRES : Hid (ccE l (s : Int) k = rowZ (cntZ l k (bitsN s)) (expN l).toNat) := Lib.hid (by unfold ccE; rw [if_pos hb, Int.toNat_natCast])
    rw [HRES.out, rowZ_len]
    have HCV := Lib.hid (fun (W : World) (b1 b2 b3 : Nat) (h : ChrAt W l k b1 b2 b3) (hle : w.heap.size ≤ W.heap.size) (hbb : Below w.heap.size w W) => iCov hg W s hsn k h B (Nat.le_trans hB0 hle) (HTZ.out.on (hbb.mono hB0)))
    simp only [chrF] at HCV
    clear hs hb
    go_enter Tryz.func22, Tryz.ntmps22
    go_wp2_with (first
      | (go_at_call 56; refine (HCV.out _ _ _ _ HC1.out TA.out.size TA.out).mono ?_; rintro e w2 ⟨g2, rfl, ho2, hb2⟩; have O2 := Lib.hid (ho2.shrink7 TA.out.size); have T2 := Lib.hid (TA.out.trans (hb2.mono TA.out.size)); clear ho2 hb2)
      | (go_at_call 52; refine (iSAC_yes _ _ _ _ _ s k HN.out hm (HI.out.below rfl T0.out) HCB.out).mono ?_; simp only [chrF]; rintro e w1 ⟨a1, a2, a3, rfl, hc1, hb1⟩; go_loud (have TA := Lib.hid ((HB.out.trans (hb1.mono (by simp))).alloc (Nat.le_trans (by simp) hb1.size) (.cells #[.int .i64 (expN l), .func (.func 90) #[] #[.pointer (some ⟨a1, 0, none⟩), .pointer (some ⟨a2, 0, none⟩), .pointer (some ⟨a3, 0, none⟩)]] 49)); have HC1 := Lib.hid (hc1.below (Joins.below_alloc1 w1 (.cells #[.int .i64 (expN l), .func (.func 90) #[] #[.pointer (some ⟨a1, 0, none⟩), .pointer (some ⟨a2, 0, none⟩), .pointer (some ⟨a3, 0, none⟩)]] 49))); obtain ⟨v0, v1, _, _⟩ := two_cell (heap_alloc_new w1 (.cells #[.int .i64 (expN l), .func (.func 90) #[] #[.pointer (some ⟨a1, 0, none⟩), .pointer (some ⟨a2, 0, none⟩), .pointer (some ⟨a3, 0, none⟩)]] 49)); clear hc1)))
    go_ret
    exact ⟨_, rfl, O2.out, T2.out⟩
theorem facL_bnd (e d : Nat) (m : Nat) : -1000 ≤ (facL e d).getD m 0 ∧ (facL e d).getD m 0 ≤ 1000 := by
  by_cases hm : m < e
  · rw [facL_at hm]
    split
    · omega
    · split <;> omega
  · have : (facL e d).getD m 0 = 0 := by simp [List.getD, List.getElem?_eq_none (by rw [facL_len]; omega : (facL e d).length ≤ m)]
    rw [this]
    omega
theorem allZ_rep {R : List Int} {N : Nat} (h : R.length = N) : decide (R = List.replicate N 0) = allZ R := by
  cases hz : allZ R with
  | true =>
    have h1 := (allZ_iff h).1 hz
    rw [decide_eq_true_eq]
    apply List.ext_getElem
    · simp [h]
    · intro j h2 h3
      have := h1 j (by omega)
      simpa [List.getD, h2] using this
  | false =>
    rw [decide_eq_false_iff_not]
    intro e
    rw [e] at hz
    simp [allZ] at hz
set_option maxHeartbeats 4000000 in
theorem iZov {l : List Int} (hg : grpB l = true) (w : World) (s : Nat) (hsn : s < 2 ^ (prodI l).toNat) (k : Int) {bo bp be : Nat} (hc : ChrAt w l k bo bp be) (B : Nat) (hB0 : B ≤ w.heap.size) (ht : TabZ B w) :
    Calls Tryz.prog 53 #[.agg #[.int .i64 (expN l), chrF bo bp be], .int .u64 s] w fun e w' => e = .returned (.bool (allZ (rotK (expN l).toNat (rowZ (cntZ l k (bitsN s)) (expN l).toNat) (expN l).toNat))) ∧ Below w.heap.size w w' := by
  obtain ⟨i0, hi0, hz0, hz1, hz2⟩ := info_parts intInfo
  have hE := expN_le hg
  have HB := Lib.hid (Joins.below_alloc1 w (.cells #[.int .i64 (expN l), chrF bo bp be] 49))
  have HCV := Lib.hid (iCov hg (w.alloc (.cells #[.int .i64 (expN l), chrF bo bp be] 49)) s hsn k (hc.below HB.out) B (Nat.le_trans hB0 HB.out.size) (ht.on (HB.out.mono hB0)))
  obtain ⟨N, HN⟩ : ∃ N : Nat, Hid (expN l = (N : Int)) := ⟨(expN l).toNat, Lib.hid (by omega)⟩
  have HNT : Hid ((expN l).toNat = N) := Lib.hid (by rw [HN.out]; rfl)
  rw [HN.out] at hE HB
  have hN1 : 1 ≤ N := by omega
  have hN24 : N ≤ 24 := by omega
  obtain ⟨p, HP⟩ : ∃ p, Hid (rowZ (cntZ l k (bitsN s)) N = p) := ⟨_, Lib.hid rfl⟩
  have HPL : Hid (p.length = N) := Lib.hid (by rw [← HP.out, rowZ_len])
  have HPB : Hid (∀ d, d ≤ N → ∀ z, -1000000000 ≤ (rotK N p d).getD z 0 ∧ (rotK N p d).getD z 0 ≤ 1000000000) := Lib.hid (fun d hd z => by
    by_cases hz : z < N
    · have h := rotK_bnd (e := N) (p := p) (by omega) (B := 24) (by decide) HPL.out (fun z hz => by
        rw [← HP.out]
        have : (rowZ (cntZ l k (bitsN s)) N).getD z 0 = cntZ l k (bitsN s) z := by simp [rowZ, List.getD, hz]
        rw [this]
        have h1 := cntZ_bnd l k (bitsN s) z
        have h2 := bits_le s
        omega) d hd z hz
      have h2 : (1000 : Int) * 2 ^ d ≤ 33554432000 := pow_25 (by omega)
      omega
    · have : (rotK N p d).getD z 0 = 0 := by simp [List.getD, List.getElem?_eq_none (by rw [rotK_len HPL.out]; omega : (rotK N p d).length ≤ z)]
      rw [this]
      omega)
  have HRL : Hid (∀ d, (rotK N p d).length = N) := Lib.hid (fun d => rotK_len HPL.out d)
  have HRN : Hid (∀ d, 1 ≤ d → N % d = 0 → rotK N p (d + 1) = rotS N d (rotK N p d)) := Lib.hid (fun d h1 h2 => by simp only [rotK]; rw [if_neg (by omega), if_pos h2])
  have HRO : Hid (∀ d, 1 ≤ d → N % d ≠ 0 → rotK N p (d + 1) = rotK N p d) := Lib.hid (fun d h1 h2 => by simp only [rotK]; rw [if_neg (by omega), if_neg h2])
  have HR1 : Hid (rotK N p 1 = p) := Lib.hid (by simp [rotK])
  rw [HNT.out, HN.out] at HCV
  rw [HNT.out, HN.out, HP.out]
  have HRV : Hid (rowV (cntZ l k (bitsN s)) N = p.map (Value.int .i64)) := Lib.hid (by rw [← HP.out]; rfl)
  rw [HRV.out] at HCV
  have HAR := Lib.hid (allZ_rep (HRL.out N))
  obtain ⟨q0, q1, _, _⟩ := two_cell (heap_alloc_new w (.cells #[.int .i64 (N : Int), chrF bo bp be] 49))
  have Q0 := Lib.hid q0
  clear hg hsn hc ht hE hB0
  go_enter Tryz.func53, Tryz.ntmps53
  go_wp2_with (go_at_call 56; refine (HCV.out).mono ?_; rintro e w2 ⟨g2, rfl, ho2, hb2⟩; have O2 := Lib.hid ho2; have T2 := Lib.hid hb2; clear ho2 hb2)
  go_loopw [5, 6] (fun v i wr => ∃ d : Nat, 1 ≤ d ∧ d ≤ N ∧ i = .int .i64 d ∧ (∃ g, v = .slice (some ⟨g, 0, none⟩) N N) ∧ wr.ownsRow (w.alloc (.cells #[.int .i64 (N : Int), chrF bo bp be] 49)).heap.size 3 1 v N ((rotK N p d).map (Value.int .i64)) ∧ Below (w.alloc (.cells #[.int .i64 (N : Int), chrF bo bp be] 49)).heap.size (w.alloc (.cells #[.int .i64 (N : Int), chrF bo bp be] 49)) wr) (fun _ i _ => N - (intOf i).toNat)
  case atStart => exact ⟨1, Nat.le_refl _, hN1, rfl, ⟨_, rfl⟩, by rw [HR1.out]; exact O2.out, T2.out⟩
  case round =>
    obtain ⟨d, hd1, hdN, rfl, ⟨g, rfl⟩, hr, hb⟩ := hrel
    have HR := Lib.hid hr
    have HBB := Lib.hid hb
    have r0 := keepC hb (by simp) Q0.out
    clear hr hb
    by_cases hlt : d < N
    · have ht : Int.tmod (N : Int) (d : Int) = ((N % d : Nat) : Int) := by rw [Int.tmod_eq_emod_of_nonneg (by omega)]; simp
      have hd0 : ((d : Int) == 0) = false := by simp; omega
      have hd0' : ¬ (d : Int) = 0 := by omega
      by_cases hdd : N % d = 0
      · have hmod : (N : Int) % (d : Int) = 0 := by
          have : ((N % d : Nat) : Int) = 0 := by omega
          simpa using this
        have HN2 := Lib.hid (HRN.out d hd1 hdd)
        have HMF := Lib.hid (mul_fac (p := rotK N p d) (e := N) hd1 hlt)
        have HPD := Lib.hid (fun k (_ : k < (rotK N p d).length) => HPB.out d hdN k)
        have hdi : (d : Int) < (N : Int) := by omega
        clear hdd ht
        go_wp2_with (first
          | (go_at_call 62; refine (iCyc _ _ _ (rotK N p d) (facL N d) N _ _ (HRL.out d).symm (facL_len N d).symm hN1 hN24 HPD.out (fun k _ => facL_bnd N d k) (own_in7 R7.out) (own_in7 O7.out)).mono ?_; rintro e w8 ⟨rfl, ho8, hb8⟩; have O8 := Lib.hid (ho8.shrink7 B7.out.size); have B8 := Lib.hid (B7.out.trans (hb8.mono B7.out.size)); clear ho8 hb8)
          | (at_make; refine wpList_make_full _ rfl _ _ 24 rfl (w.alloc (.cells #[.int .i64 (N : Int), chrF bo bp be] 49)).heap.size 3 i0 (.int .i64 0) 1 Tryz.underlying24 hi0 hz0 hz1 .i64 .i64 _ _ N rfl rfl (by rfl) (by rfl) (by rw [hz2]; omega) (by unfold maxLen; omega) HBB.out.size ?_; intro w5 hown hgrow; rw [Nat.mul_one] at hown; go_loud (have B5 := Lib.hid (HBB.out.grown hgrow HBB.out.size (fun q hq => by cases hq)); have R5 := Lib.hid (HR.out.kept hgrow (.inr (by simp [Value.ownBlock]))); have L5 := Lib.hid (hown.lt _ rfl); have LR := Lib.hid ((HR.out.lt g rfl)); have f0 := hown.frozenAt 0; have d0 := (hown.cellAt 0 (by omega)).trans (cells_zero7 (show 0 < N by omega)); have O6 := Lib.hid (hown.stored 0 (.int .i64 (-1))).1; have f1 := O6.out.frozenAt d; have d1 := (O6.out.cellAt d (by omega)).trans ((set_other7 (show 0 ≠ d by omega)).trans (cells_zero7 (show d < N by omega))); have HX : Hid ((((madeCells (Value.int .i64 0).cells N).toList.set 0 (.int .i64 (-1))).set d (.int .i64 1)) = (facL N d).map (Value.int .i64)) := Lib.hid (by unfold facL; rw [List.map_set, List.map_set]; congr 2; show (madeCells #[Value.int .i64 0] N).toList = _; rw [toList_madeCells_one]; simp); have hO7 := (O6.out.stored d (.int .i64 1)).1; rw [HX.out] at hO7; have O7 := Lib.hid hO7; have hgr7 := grownG_set (grownG_set (World.grownBy.refl w5 (some wr.heap.size)) 0 (.int .i64 (-1))) d (.int .i64 1); have R7 := Lib.hid (R5.out.kept hgr7 (.inr (by have h1 := LR.out.2; simp [Value.ownBlock]; omega))); have B7 := Lib.hid (Below.setCell (p := ⟨wr.heap.size, d, none⟩) (Below.setCell (p := ⟨wr.heap.size, 0, none⟩) B5.out L5.out.1 (.int .i64 (-1))) L5.out.1 (.int .i64 1)); have h0N : (0 : Int) < (N : Int) := (by omega); have r5 := keepC B5.out (by simp) Q0.out; clear hown hgrow hO7 hgr7)))
        go_roundw
        case rel => exact ⟨d + 1, by omega, by omega, by go_num, ⟨_, rfl⟩, (by
            rw [HN2.out, ← HMF.out]
            have h := O8.out
            have e : ((w5.setCell ⟨wr.heap.size, 0, none⟩ (.int .i64 (-1))).setCell ⟨wr.heap.size, d, none⟩ (.int .i64 1)).heap.size = w5.heap.size := by simp
            rw [e] at h
            exact h), B8.out⟩
        case measure => simp [intOf]; omega
      · have hmod : ((N : Int) % (d : Int) == 0) = false := by
          have : ((N % d : Nat) : Int) ≠ 0 := by omega
          simpa using this
        have HN2 := Lib.hid (HRO.out d hd1 hdd)
        clear hdd ht
        go_wp2
        go_roundw
        case rel => exact ⟨d + 1, by omega, by omega, by go_num, ⟨_, rfl⟩, by rw [HN2.out]; exact HR.out, HBB.out⟩
        case measure => simp [intOf]; omega
    · obtain rfl : d = N := by omega
      have HRP : Hid ((madeCells (Value.int .i64 0).cells d).toList = (List.replicate d (0 : Int)).map (Value.int .i64)) := Lib.hid (by show (madeCells #[Value.int .i64 0] d).toList = _; rw [toList_madeCells_one]; simp)
      go_wp2_with (first
        | (go_at_call 77; refine (slEq _ _ _ (rotK d p d) (List.replicate d 0) _ _ _ _ (HRL.out d).symm (by simp) (by omega) (by omega) (own_in7 R5.out) (own_in7 O5.out)).mono ?_; rw [HAR.out]; rintro e w8 ⟨rfl, hb8⟩; have B8 := Lib.hid (B5.out.trans (hb8.mono B5.out.size)); clear hb8)
        | (at_make; refine wpList_make_full _ rfl _ _ 24 rfl (w.alloc (.cells #[.int .i64 (d : Int), chrF bo bp be] 49)).heap.size 3 i0 (.int .i64 0) 1 Tryz.underlying24 hi0 hz0 hz1 .i64 .i64 _ _ d rfl rfl (by rfl) (by rfl) (by rw [hz2]; omega) (by unfold maxLen; omega) HBB.out.size ?_; intro w5 hown hgrow; have B5 := Lib.hid (HBB.out.grown hgrow HBB.out.size (fun q hq => by cases hq)); have R5 := Lib.hid (HR.out.kept hgrow (.inr (by simp [Value.ownBlock]))); rw [Nat.mul_one, HRP.out] at hown; have O5 := Lib.hid hown; clear hown hgrow))
      go_ret
      exact ⟨rfl, HB.out.trans (B8.out.mono (by simp))⟩
theorem zeE_rot {l : List Int} {s : Nat} {k : Int} (hb : ccB l (s : Int) k = true) : zeE l (s : Int) k = allZ (rotK (expN l).toNat (rowZ (cntZ l k (bitsN s)) (expN l).toNat) (expN l).toNat) := by
  obtain ⟨hg, hlen, e1, e24, _⟩ := ccE_yes hb
  unfold zeE
  rw [hb, Bool.true_and, zero_iff (by omega) e24 (by rw [rowZ_len])]
  unfold ccE
  rw [if_pos hb, Int.toNat_natCast]
set_option maxHeartbeats 2000000 in
theorem iIsZ (w : World) (a : Option Addr) (l : List Int) (n cap : Nat) (s k : Int) (hn : n = l.length) (hm : n ≤ 9223372036854775807) (hi : Ints w a l) (B : Nat) (hB0 : B ≤ w.heap.size) (ht : TabZ B w) :
    Calls Tryz.prog 18 #[.agg #[.slice a n cap], .int .i64 s, .int .i64 k] w fun e w' => e = .returned (.bool (zeE l s k)) ∧ Below w.heap.size w w' := by
  have HTZ := Lib.hid ht
  have HI := Lib.hid (ints_alloc hi (.cells #[.slice a n cap] 26))
  have HN := Lib.hid hn
  have C1 := newC w (.slice a n cap) 26 (n := w.heap.size) rfl
  have HB := Lib.hid (Joins.below_alloc1 w (.cells #[.slice a n cap] 26))
  have T0 := Lib.hid (Below.refl (w.alloc (.cells #[.slice a n cap] 26)).heap.size (w.alloc (.cells #[.slice a n cap] 26)))
  clear hi hn ht
  cases hb : ccB l s k with
  | false =>
    have HCB := Lib.hid hb
    rw [show zeE l s k = false by unfold zeE; rw [hb]; rfl]
    clear hb
    go_enter Tryz.func18, Tryz.ntmps18
    go_wp2_with (go_at_call 52; refine (iSAC_no _ _ _ _ _ s k HN.out hm (HI.out.below rfl T0.out) HCB.out).mono ?_; rintro e w1 ⟨rfl, hb1⟩; have TA := Lib.hid ((HB.out.trans (hb1.mono (by simp))).alloc (Nat.le_trans (by simp) hb1.size) (.cells #[.int .i64 0, .nilFunc] 49)))
    go_ret
    exact ⟨rfl, TA.out⟩
  | true =>
    have hs : isS l s = true := by unfold ccB at hb; exact (Bool.and_eq_true_iff.1 hb).1
    obtain ⟨hg, s, rfl, hsn, _⟩ := isS_true hs
    have HCB := Lib.hid hb
    rw [zeE_rot hb]
    have HCV := Lib.hid (fun (W : World) (b1 b2 b3 : Nat) (h : ChrAt W l k b1 b2 b3) (hle : w.heap.size ≤ W.heap.size) (hbb : Below w.heap.size w W) => iZov hg W s hsn k h B (Nat.le_trans hB0 hle) (HTZ.out.on (hbb.mono hB0)))
    obtain ⟨Z, hZ⟩ : ∃ Z, allZ (rotK (expN l).toNat (rowZ (cntZ l k (bitsN s)) (expN l).toNat) (expN l).toNat) = Z := ⟨_, rfl⟩
    rw [hZ] at HCV ⊢
    clear hZ
    simp only [chrF] at HCV
    clear hs hb
    go_enter Tryz.func18, Tryz.ntmps18
    go_wp2_with (first
      | (go_at_call 53; refine (HCV.out _ _ _ _ HC1.out TA.out.size TA.out).mono ?_; rintro e w2 ⟨rfl, hb2⟩; have T2 := Lib.hid (TA.out.trans (hb2.mono TA.out.size)); clear hb2)
      | (go_at_call 52; refine (iSAC_yes _ _ _ _ _ s k HN.out hm (HI.out.below rfl T0.out) HCB.out).mono ?_; simp only [chrF]; rintro e w1 ⟨a1, a2, a3, rfl, hc1, hb1⟩; go_loud (have TA := Lib.hid ((HB.out.trans (hb1.mono (by simp))).alloc (Nat.le_trans (by simp) hb1.size) (.cells #[.int .i64 (expN l), .func (.func 90) #[] #[.pointer (some ⟨a1, 0, none⟩), .pointer (some ⟨a2, 0, none⟩), .pointer (some ⟨a3, 0, none⟩)]] 49)); have HC1 := Lib.hid (hc1.below (Joins.below_alloc1 w1 (.cells #[.int .i64 (expN l), .func (.func 90) #[] #[.pointer (some ⟨a1, 0, none⟩), .pointer (some ⟨a2, 0, none⟩), .pointer (some ⟨a3, 0, none⟩)]] 49))); obtain ⟨v0, v1, _, _⟩ := two_cell (heap_alloc_new w1 (.cells #[.int .i64 (expN l), .func (.func 90) #[] #[.pointer (some ⟨a1, 0, none⟩), .pointer (some ⟨a2, 0, none⟩), .pointer (some ⟨a3, 0, none⟩)]] 49)); clear hc1)))
    go_ret
    exact ⟨rfl, T2.out⟩
end Go.Proofs.YthlpjiibjlaebaaGreatDoor
