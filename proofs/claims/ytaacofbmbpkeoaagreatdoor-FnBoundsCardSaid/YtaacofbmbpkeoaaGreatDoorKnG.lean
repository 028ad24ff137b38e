/- The program's own bound of Kneser, its pair, the bound of Cauchy and Davenport, and the defect of a sum. -/
import Derived.Test.YtaacofbmbpkeoaaGreatDoorMGAQ
import Derived.Test.YtaacofbmbpkeoaaGreatDoorMGAS
import Derived.Test.YtaacofbmbpkeoaaGreatDoorMGAR
import Derived.Deep.RegionHeld3
import Derived.Deep.DeepCutAuto
namespace Go.Proofs.YtaacofbmbpkeoaaGreatDoor
open Go.RowKit
set_option maxRecDepth 1000000
/-- The library's table and its variable, below block B. -/
def TabE (B : Nat) (w : World) : Prop := TabZ B w ∧ ErrB B w
theorem TabE.on {B : Nat} {w w1 : World} (h : TabE B w) (hb : Below B w w1) : TabE B w1 := ⟨h.1.on hb, h.2.on hb⟩
theorem iSumN {l : List Int} (hg : grpB l = true) (w : World) (s t : Nat) (hs : s < 2 ^ (prodI l).toNat) (ht : t < 2 ^ (prodI l).toNat) (B : Nat) (hB0 : B ≤ w.heap.size) (hz : TabZ B w) :
    Calls Tryz.prog 40 #[tV (l.getD 0 1) (l.getD 1 1) (l.getD 2 1), .int .u64 s, .int .u64 t] w fun e w' => e = .returned (.int .u64 (sumN l s t : Nat)) ∧ Below w.heap.size w w' := by
  have HP := prod_pad (grpB_true hg).1
  have h := iSum w _ _ _ s t (tri_grp hg) (by rw [← HP]; exact hs) (by rw [← HP]; exact ht) B hB0 hz
  rw [sum_prog hg hs ht] at h
  exact h
theorem kp_no {l : List Int} {s t : Int} (h : neB l s t = false) : kpH l s t = 0 ∧ kpA l s t = 0 ∧ kpB l s t = 0 ∧ knE l s t = -1 ∧ cauE l s t = -1 ∧ dfcE l s t = -100 ∧ tgtB l s t = false := by
  unfold kpH kpA kpB knE cauE dfcE tgtB
  simp [h]
theorem kp_yes {l : List Int} {s t : Nat} (h : neB l s t = true) : kpH l s t = ((stN l (sumN l s t) : Nat) : Int) ∧ kpA l s t = ((sumN l s (stN l (sumN l s t)) : Nat) : Int) ∧ kpB l s t = ((sumN l t (stN l (sumN l s t)) : Nat) : Int) := by
  unfold kpH kpA kpB
  simp [h]
set_option maxHeartbeats 4000000 in
theorem iKp (w : World) (a : Option Addr) (l : List Int) (n cap : Nat) (s t : Int) (hn : n = l.length) (hm : n ≤ 9223372036854775807) (hi : Ints w a l) (B : Nat) (hB0 : B ≤ w.heap.size) (ht : TabE B w) :
    Calls Tryz.prog 14 #[.agg #[.slice a n cap], .int .i64 s, .int .i64 t] w fun e w' => e = .returned (.tuple #[.int .i64 (kpH l s t), .int .i64 (kpA l s t), .int .i64 (kpB l s t), .bool (neB l s t)]) ∧ Below w.heap.size w w' := by
  have HTZ := Lib.hid ht.1
  have HER := Lib.hid ht.2
  have HTE := Lib.hid ht
  clear ht
  have HI := Lib.hid (ints_alloc hi (.cells #[.slice a n cap] 26))
  have HN := Lib.hid hn
  have C1 := newC w (.slice a n cap) 26 (n := w.heap.size) rfl
  have HB := Lib.hid (Joins.below_alloc1 w (.cells #[.slice a n cap] 26))
  have T0 := Lib.hid (Below.refl (w.alloc (.cells #[.slice a n cap] 26)).heap.size (w.alloc (.cells #[.slice a n cap] 26)))
  clear hi hn
  cases hs : neB l s t with
  | false =>
    have HS := Lib.hid hs
    obtain ⟨k1, k2, k3, k4, k5, k6, k7⟩ := kp_no hs
    rw [k1, k2, k3]
    clear hs k1 k2 k3 k4 k5 k6 k7
    go_enter Tryz.func14, Tryz.ntmps14
    go_wp2_with (first
      | (go_at_call 51; refine (iRef_yes _ ex ey B (Nat.le_trans hB0 TA.out.size) (HER.out.on (TA.out.mono hB0))).mono ?_; rintro e w2 ⟨rfl, hb2⟩; have T2 := Lib.hid (TA.out.trans (hb2.mono TA.out.size)))
      | (go_at_call 50; refine (iFSS_no _ _ _ _ _ _ _ HN.out hm (HI.out.below rfl T0.out) HS.out).mono ?_; rintro e w1 ⟨ex, ey, rfl, hb1⟩; have TA := Lib.hid ((HB.out.trans (hb1.mono (by simp))).alloc (Nat.le_trans (by simp) hb1.size) (.cells #[.int .i64 0, .int .i64 0, .int .i64 0] 41))))
    refine bodyPost_ret (v := .tuple #[.int .i64 0, .int .i64 0, .int .i64 0, .bool false]) (by simp [results, Tryz.results14, go_sem]) rfl ⟨rfl, T2.out⟩
  | true =>
    have HS := Lib.hid hs
    obtain ⟨hg, u, v, rfl, rfl, hu0, hv0, hul, hvl⟩ := neB_yes hs
    have hu24 := grp_pow hg hul
    have hv24 := grp_pow hg hvl
    obtain ⟨k1, k2, k3⟩ := kp_yes hs
    rw [k1, k2, k3]
    have H1 := Lib.hid (fun (W : World) h1 h2 => iSumN hg W u v hul hvl B h1 h2)
    have H2 := Lib.hid (fun (W : World) => iStabN hg W (sumN l u v) (sumN_lt hg u v))
    have H3 := Lib.hid (fun (W : World) h1 h2 => iSumN hg W u (stN l (sumN l u v)) hul (stN_lt _) B h1 h2)
    have H4 := Lib.hid (fun (W : World) h1 h2 => iSumN hg W v (stN l (sumN l u v)) hvl (stN_lt _) B h1 h2)
    have b1 := stN_lt24 hg (sumN l u v)
    have b2 := grp_pow hg (sumN_lt hg u (stN l (sumN l u v)))
    have b3 := grp_pow hg (sumN_lt hg v (stN l (sumN l u v)))
    obtain ⟨p, EP⟩ : ∃ p, Hid (l.getD 0 1 = p) := ⟨_, Lib.hid rfl⟩
    obtain ⟨q, EQ⟩ : ∃ q, Hid (l.getD 1 1 = q) := ⟨_, Lib.hid rfl⟩
    obtain ⟨r, ER⟩ : ∃ r, Hid (l.getD 2 1 = r) := ⟨_, Lib.hid rfl⟩
    rw [EP.out, EQ.out, ER.out] at H1 H2 H3 H4
    obtain ⟨A, hA⟩ : ∃ A, sumN l u (stN l (sumN l u v)) = A := ⟨_, rfl⟩
    obtain ⟨C, hC⟩ : ∃ C, sumN l v (stN l (sumN l u v)) = C := ⟨_, rfl⟩
    rw [hA] at H3 b2 ⊢
    rw [hC] at H4 b3 ⊢
    clear hA hC
    obtain ⟨H, hH⟩ : ∃ H, stN l (sumN l u v) = H := ⟨_, rfl⟩
    rw [hH] at H2 H3 H4 b1 ⊢
    obtain ⟨X, hX⟩ : ∃ X, sumN l u v = X := ⟨_, rfl⟩
    rw [hX] at H1 H2
    clear hs hH hX k1 k2 k3 hul hvl hg
    go_enter Tryz.func14, Tryz.ntmps14
    go_wp2_with (first
      | (go_at_call 51; refine (iRef_no _).mono ?_; rintro e w2 ⟨rfl, hb2⟩; have T2 := Lib.hid (TA.out.trans (hb2.mono TA.out.size)); have R2 := Lib.hid (keepH hb2 (by simp) RY.out); obtain ⟨z0, z1, z2, _, _, _⟩ := trip_cell R2.out)
      | (go_at_call 50; refine (iFSS_yes _ _ _ _ _ _ _ HN.out hm (HI.out.below rfl T0.out) HS.out).mono ?_; rw [EP.out, EQ.out, ER.out]; rintro e w1 ⟨rfl, hb1⟩; have TA := Lib.hid ((HB.out.trans (hb1.mono (by simp))).alloc (Nat.le_trans (by simp) hb1.size) (.cells #[.int .i64 p, .int .i64 q, .int .i64 r] 41)); have RY := Lib.hid (heap_alloc_new w1 (.cells #[.int .i64 p, .int .i64 q, .int .i64 r] 41)); obtain ⟨y0, y1, y2, _, _, _⟩ := trip_cell RY.out))
    have TD := Lib.hid T2.out.drew
    go_region_held3 (fun W => W.cell? ⟨w1.heap.size, 0, none⟩ = some (.int .i64 p) ∧ W.cell? ⟨w1.heap.size, 1, none⟩ = some (.int .i64 q) ∧ W.cell? ⟨w1.heap.size, 2, none⟩ = some (.int .i64 r)) (first | exact ⟨e0, e1, e2⟩ | exact ⟨d0, d1, d2⟩ | exact ⟨z0, z1, z2⟩)
      (first
      | (go_at_call 52; refine (H2.out _).mono ?_; rintro e w4 ⟨rfl, hb4⟩; have T4 := Lib.hid (T3.out.trans (hb4.mono T3.out.size)); have R4 := Lib.hid (keepH hb4 (Array.getElem?_eq_some_iff.1 R3.out).1 R3.out); obtain ⟨e0, e1, e2, _, _, _⟩ := trip_cell R4.out)
      | (go_at_call 40; refine (H1.out _ (Nat.le_trans hB0 TD.out.size) (HTZ.out.on (TD.out.mono hB0))).mono ?_; rintro e w3 ⟨rfl, hb3⟩; have T3 := Lib.hid (TD.out.trans (hb3.mono TD.out.size)); have R3 := Lib.hid (keepH hb3 (Array.getElem?_eq_some_iff.1 R2.out).1 R2.out); obtain ⟨d0, d1, d2, _, _, _⟩ := trip_cell R3.out))
    all_goals go_wp2
    have TE := Lib.hid T4.out.drew
    go_region_held3 (fun W => W.cell? ⟨w1.heap.size, 0, none⟩ = some (.int .i64 p) ∧ W.cell? ⟨w1.heap.size, 1, none⟩ = some (.int .i64 q) ∧ W.cell? ⟨w1.heap.size, 2, none⟩ = some (.int .i64 r)) (first | exact ⟨i0, i1, i2⟩ | exact ⟨f0, f1, f2⟩ | exact ⟨e0, e1, e2⟩)
      (first
      | (go_at_call 40; have hx_ := T5; clear hx_; refine (H4.out _ (Nat.le_trans hB0 T5.out.size) (HTZ.out.on (T5.out.mono hB0))).mono ?_; rintro e w6 ⟨rfl, hb6⟩; have T6 := Lib.hid (T5.out.trans (hb6.mono T5.out.size)); have R6 := Lib.hid (keepH hb6 (Array.getElem?_eq_some_iff.1 R5.out).1 R5.out); obtain ⟨i0, i1, i2, _, _, _⟩ := trip_cell R6.out)
      | (go_at_call 40; refine (H3.out _ (Nat.le_trans hB0 TE.out.size) (HTZ.out.on (TE.out.mono hB0))).mono ?_; rintro e w5 ⟨rfl, hb5⟩; have T5 := Lib.hid (TE.out.trans (hb5.mono TE.out.size)); have R5 := Lib.hid (keepH hb5 (Array.getElem?_eq_some_iff.1 R4.out).1 R4.out); obtain ⟨f0, f1, f2, _, _, _⟩ := trip_cell R5.out))
    all_goals go_wp2
    have x1 : IntKind.i64.wrap (H : Int) = H := by rw [IntKind.wrap_i64]; omega
    have x2 : IntKind.i64.wrap (A : Int) = A := by rw [IntKind.wrap_i64]; omega
    have x3 : IntKind.i64.wrap (C : Int) = C := by rw [IntKind.wrap_i64]; omega
    refine bodyPost_ret (v := .tuple #[.int .i64 (H : Nat), .int .i64 (A : Nat), .int .i64 (C : Nat), .bool true]) (by simp [results, Tryz.results14, go_sem, x1, x2, x3]) rfl ⟨by first | rfl | rw [HS.out], T6.out⟩
set_option maxHeartbeats 4000000 in
theorem iKn (w : World) (a : Option Addr) (l : List Int) (n cap : Nat) (s t : Int) (hn : n = l.length) (hm : n ≤ 9223372036854775807) (hi : Ints w a l) (B : Nat) (hB0 : B ≤ w.heap.size) (ht : TabE B w) :
    Calls Tryz.prog 12 #[.agg #[.slice a n cap], .int .i64 s, .int .i64 t] w fun e w' => e = .returned (.int .i64 (knE l s t)) ∧ Below w.heap.size w w' := by
  have HTZ := Lib.hid ht.1
  have HER := Lib.hid ht.2
  have HTE := Lib.hid ht
  clear ht
  have HI := Lib.hid (ints_alloc hi (.cells #[.slice a n cap] 26))
  have HN := Lib.hid hn
  have C1 := newC w (.slice a n cap) 26 (n := w.heap.size) rfl
  have HB := Lib.hid (Joins.below_alloc1 w (.cells #[.slice a n cap] 26))
  have T0 := Lib.hid (Below.refl (w.alloc (.cells #[.slice a n cap] 26)).heap.size (w.alloc (.cells #[.slice a n cap] 26)))
  clear hi hn
  cases hs : neB l s t with
  | false =>
    have HS := Lib.hid hs
    obtain ⟨k1, k2, k3, k4, _⟩ := kp_no hs
    rw [k4]
    have HK := Lib.hid (show kpH l s t = 0 ∧ kpA l s t = 0 ∧ kpB l s t = 0 from ⟨k1, k2, k3⟩)
    clear hs k1 k2 k3 k4
    go_enter Tryz.func12, Tryz.ntmps12
    go_wp2_with (first | (go_at_call 14; refine (iKp _ _ _ _ _ _ _ HN.out hm (HI.out.below rfl T0.out) B (Nat.le_trans hB0 HB.out.size) (HTE.out.on (HB.out.mono hB0))).mono ?_; rw [HS.out, HK.out.1, HK.out.2.1, HK.out.2.2]; rintro e w1 ⟨rfl, hb1⟩; have T1 := Lib.hid (HB.out.trans (hb1.mono (by simp)))))
    go_ret
    exact ⟨rfl, T1.out⟩
  | true =>
    have HS := Lib.hid hs
    obtain ⟨hg, u, v, rfl, rfl, hu0, hv0, hul, hvl⟩ := neB_yes hs
    have hu24 := grp_pow hg hul
    have hv24 := grp_pow hg hvl
    obtain ⟨k1, k2, k3⟩ := kp_yes hs
    have HK := Lib.hid (show _ ∧ _ ∧ _ from ⟨k1, k2, k3⟩)
    rw [show knE l u v = knN l u v by unfold knE; rw [if_pos hs]; rfl]
    unfold knN
    have b1 := stN_lt24 hg (sumN l u v)
    have b2 := grp_pow hg (sumN_lt hg u (stN l (sumN l u v)))
    have b3 := grp_pow hg (sumN_lt hg v (stN l (sumN l u v)))
    obtain ⟨A, hA⟩ : ∃ A, sumN l u (stN l (sumN l u v)) = A := ⟨_, rfl⟩
    obtain ⟨C, hC⟩ : ∃ C, sumN l v (stN l (sumN l u v)) = C := ⟨_, rfl⟩
    rw [hA] at HK b2 ⊢
    rw [hC] at HK b3 ⊢
    clear hA hC
    obtain ⟨H, hH⟩ : ∃ H, stN l (sumN l u v) = H := ⟨_, rfl⟩
    rw [hH] at HK b1 ⊢
    have q1 := bits_le A
    have q2 := bits_le C
    have q3 := bits_le H
    have D1 := Lib.hid (fun (W : World) => iCnt W A b2)
    have D2 := Lib.hid (fun (W : World) => iCnt W C b3)
    have D3 := Lib.hid (fun (W : World) => iCnt W H b1)
    obtain ⟨L1, hL1⟩ : ∃ L, (bitsN A).length = L := ⟨_, rfl⟩
    obtain ⟨L2, hL2⟩ : ∃ L, (bitsN C).length = L := ⟨_, rfl⟩
    obtain ⟨L3, hL3⟩ : ∃ L, (bitsN H).length = L := ⟨_, rfl⟩
    rw [hL1] at D1 q1 ⊢
    rw [hL2] at D2 q2 ⊢
    rw [hL3] at D3 q3 ⊢
    clear hs hH hL1 hL2 hL3 k1 k2 k3 hul hvl hg
    go_enter Tryz.func12, Tryz.ntmps12
    go_wp2_with (first
      | (go_at_call 47; have hx_ := K2; clear hx_; refine (D3.out _).mono ?_; rintro e w5 ⟨rfl, rfl⟩)
      | (go_at_call 47; have hx_ := K1; clear hx_; refine (D2.out _).mono ?_; rintro e w4 ⟨rfl, rfl⟩; have K2 := True.intro)
      | (go_at_call 47; refine (D1.out _).mono ?_; rintro e w3 ⟨rfl, rfl⟩; have K1 := True.intro)
      | (go_at_call 14; refine (iKp _ _ _ _ _ _ _ HN.out hm (HI.out.below rfl T0.out) B (Nat.le_trans hB0 HB.out.size) (HTE.out.on (HB.out.mono hB0))).mono ?_; rw [HS.out, HK.out.1, HK.out.2.1, HK.out.2.2]; rintro e w1 ⟨rfl, hb1⟩; have T1 := Lib.hid (HB.out.trans (hb1.mono (by simp)))))
    go_ret
    exact ⟨by first | rfl | (congr 1; omega), T1.out⟩
set_option maxHeartbeats 4000000 in
theorem iDfc (w : World) (a : Option Addr) (l : List Int) (n cap : Nat) (s t : Int) (hn : n = l.length) (hm : n ≤ 9223372036854775807) (hi : Ints w a l) (B : Nat) (hB0 : B ≤ w.heap.size) (ht : TabE B w) :
    Calls Tryz.prog 35 #[.agg #[.slice a n cap], .int .i64 s, .int .i64 t] w fun e w' => e = .returned (.int .i64 (dfcE l s t)) ∧ Below w.heap.size w w' := by
  have HTZ := Lib.hid ht.1
  have HER := Lib.hid ht.2
  have HTE := Lib.hid ht
  clear ht
  have HI := Lib.hid (ints_alloc hi (.cells #[.slice a n cap] 26))
  have HN := Lib.hid hn
  have C1 := newC w (.slice a n cap) 26 (n := w.heap.size) rfl
  have HB := Lib.hid (Joins.below_alloc1 w (.cells #[.slice a n cap] 26))
  have T0 := Lib.hid (Below.refl (w.alloc (.cells #[.slice a n cap] 26)).heap.size (w.alloc (.cells #[.slice a n cap] 26)))
  clear hi hn
  cases hs : neB l s t with
  | false =>
    have HS := Lib.hid hs
    obtain ⟨k1, k2, k3, k4, k5, k6, k7⟩ := kp_no hs
    rw [k6]
    clear hs k1 k2 k3 k4 k5 k6 k7
    go_enter Tryz.func35, Tryz.ntmps35
    go_wp2_with (first
      | (go_at_call 51; refine (iRef_yes _ ex ey B (Nat.le_trans hB0 TA.out.size) (HER.out.on (TA.out.mono hB0))).mono ?_; rintro e w2 ⟨rfl, hb2⟩; have T2 := Lib.hid (TA.out.trans (hb2.mono TA.out.size)))
      | (go_at_call 50; refine (iFSS_no _ _ _ _ _ _ _ HN.out hm (HI.out.below rfl T0.out) HS.out).mono ?_; rintro e w1 ⟨ex, ey, rfl, hb1⟩; have TA := Lib.hid ((HB.out.trans (hb1.mono (by simp))).alloc (Nat.le_trans (by simp) hb1.size) (.cells #[.int .i64 0, .int .i64 0, .int .i64 0] 41))))
    go_ret
    exact ⟨rfl, T2.out⟩
  | true =>
    have HS := Lib.hid hs
    obtain ⟨hg, u, v, rfl, rfl, hu0, hv0, hul, hvl⟩ := neB_yes hs
    have hu24 := grp_pow hg hul
    have hv24 := grp_pow hg hvl
    rw [show dfcE l u v = ((bitsN (sumN l u v)).length : Int) - ((bitsN u).length : Int) - ((bitsN v).length : Int) + 1 by unfold dfcE; rw [if_pos hs]; rfl]
    have H1 := Lib.hid (fun (W : World) h1 h2 => iSumN hg W u v hul hvl B h1 h2)
    have b1 := grp_pow hg (sumN_lt hg u v)
    obtain ⟨p, EP⟩ : ∃ p, Hid (l.getD 0 1 = p) := ⟨_, Lib.hid rfl⟩
    obtain ⟨q, EQ⟩ : ∃ q, Hid (l.getD 1 1 = q) := ⟨_, Lib.hid rfl⟩
    obtain ⟨r, ER⟩ : ∃ r, Hid (l.getD 2 1 = r) := ⟨_, Lib.hid rfl⟩
    rw [EP.out, EQ.out, ER.out] at H1
    obtain ⟨X, hX⟩ : ∃ X, sumN l u v = X := ⟨_, rfl⟩
    rw [hX] at H1 b1 ⊢
    have q1 := bits_le X
    have q2 := bits_le u
    have q3 := bits_le v
    have D1 := Lib.hid (fun (W : World) => iCnt W X b1)
    have D2 := Lib.hid (fun (W : World) => iCnt W u hu24)
    have D3 := Lib.hid (fun (W : World) => iCnt W v hv24)
    obtain ⟨L1, hL1⟩ : ∃ L, (bitsN X).length = L := ⟨_, rfl⟩
    obtain ⟨L2, hL2⟩ : ∃ L, (bitsN u).length = L := ⟨_, rfl⟩
    obtain ⟨L3, hL3⟩ : ∃ L, (bitsN v).length = L := ⟨_, rfl⟩
    rw [hL1] at D1 q1 ⊢
    rw [hL2] at D2 q2 ⊢
    rw [hL3] at D3 q3 ⊢
    clear hs hX hL1 hL2 hL3 hul hvl hg hu24 hv24
    go_enter Tryz.func35, Tryz.ntmps35
    go_wp2_with (first
      | (go_at_call 47; have hx_ := K2; clear hx_; refine (D3.out _).mono ?_; rintro e w6 ⟨rfl, rfl⟩)
      | (go_at_call 47; have hx_ := K1; clear hx_; refine (D2.out _).mono ?_; rintro e w5 ⟨rfl, rfl⟩; have K2 := True.intro)
      | (go_at_call 47; refine (D1.out _).mono ?_; rintro e w4 ⟨rfl, rfl⟩; have K1 := True.intro)
      | (go_at_call 40; refine (H1.out _ (Nat.le_trans hB0 T2.out.size) (HTZ.out.on (T2.out.mono hB0))).mono ?_; rintro e w3 ⟨rfl, hb3⟩; have T3 := Lib.hid (T2.out.trans (hb3.mono T2.out.size)))
      | (go_at_call 51; refine (iRef_no _).mono ?_; rintro e w2 ⟨rfl, hb2⟩; have T2 := Lib.hid (TA.out.trans (hb2.mono TA.out.size)); have R2 := Lib.hid (keepH hb2 (by simp) RY.out); obtain ⟨z0, z1, z2, _, _, _⟩ := trip_cell R2.out)
      | (go_at_call 50; refine (iFSS_yes _ _ _ _ _ _ _ HN.out hm (HI.out.below rfl T0.out) HS.out).mono ?_; rw [EP.out, EQ.out, ER.out]; rintro e w1 ⟨rfl, hb1⟩; have TA := Lib.hid ((HB.out.trans (hb1.mono (by simp))).alloc (Nat.le_trans (by simp) hb1.size) (.cells #[.int .i64 p, .int .i64 q, .int .i64 r] 41)); have RY := Lib.hid (heap_alloc_new w1 (.cells #[.int .i64 p, .int .i64 q, .int .i64 r] 41)); obtain ⟨y0, y1, y2, _, _, _⟩ := trip_cell RY.out))
    go_ret
    exact ⟨by first | rfl | (congr 1; omega), T3.out⟩
theorem ldS_at {P d : Nat} (h2 : 2 ≤ d) (h : d < P) : ldS P (P - d + 1) = if P % d = 0 then d else ldS P (P - (d + 1) + 1) := by
  show (if P % (P - (P - d)) = 0 then P - (P - d) else ldS P (P - d)) = _
  rw [show P - (P - d) = d by omega, show P - (d + 1) + 1 = P - d by omega]
theorem ldS_end {P d : Nat} (h : ¬ d < P) : ldS P (P - d + 1) = P := by
  rw [show P - d + 1 = 0 + 1 by omega]
  show (if P % (P - 0) = 0 then P - 0 else ldS P 0) = P
  simp
set_option maxHeartbeats 1000000 in
theorem iLd (w : World) (P : Nat) (h1 : 1 ≤ P) (h24 : P ≤ 24) : Calls Tryz.prog 62 #[.int .i64 P] w fun e w' => e = .returned (.int .i64 (ldN P : Nat)) ∧ w = w' := by
  go_enter Tryz.func62, Tryz.ntmps62
  go_wp2
  go_loopw [3] (fun i wr => ∃ d : Nat, 2 ≤ d ∧ (d ≤ P ∨ P = 1) ∧ i = .int .i64 d ∧ Hid (ldN P = ldS P (P - d + 1)) ∧ w = wr) (fun i _ => P - (intOf i).toNat)
  case atStart => exact ⟨2, by omega, by omega, rfl, Lib.hid (by
    unfold ldN
    by_cases h : P = 1
    · subst h; rfl
    · rw [show P - 2 + 1 = P - 1 by omega]), rfl⟩
  case round =>
    obtain ⟨d, hd2, hdP, rfl, HL, rfl⟩ := hrel
    by_cases hlt : d < P
    · have hd24 : d ≤ 24 := by omega
      have hdi : (d : Int) < (P : Int) := by omega
      have hd0 : ((d : Int) == 0) = false := by simp; omega
      by_cases hz : P % d = 0
      · have hL := HL.out
        rw [ldS_at hd2 hlt, if_pos hz] at hL
        have hm0 : (P : Int) % (d : Int) = 0 := by omega
        have ht0 : Int.tmod (P : Int) (d : Int) = 0 := by rw [Int.tmod_eq_emod_of_nonneg (by omega)]; exact hm0
        have HL2 := Lib.hid hL
        clear HL hL hz
        go_wp2
        go_ret
        exact ⟨by rw [HL2.out]; rfl, rfl⟩
      · have hL := HL.out
        rw [ldS_at hd2 hlt, if_neg hz] at hL
        have HL2 := Lib.hid hL
        have hm0 : ((P : Int) % (d : Int) == 0) = false := by
          have : (P : Int) % (d : Int) ≠ 0 := by omega
          simpa using this
        have ht0 : (Int.tmod (P : Int) (d : Int) == 0) = false := by rw [Int.tmod_eq_emod_of_nonneg (by omega)]; exact hm0
        clear HL hL hz
        go_wp2
        go_roundw
        case rel => exact ⟨d + 1, by omega, by omega, by go_num, HL2, by first | trivial | rfl⟩
        case measure => simp [intOf]; omega
    · have hL := HL.out
      rw [ldS_end hlt] at hL
      have HL2 := Lib.hid hL
      have hdi : ¬ (d : Int) < (P : Int) := by omega
      clear HL hL
      go_wp2
      go_ret
      exact ⟨by rw [HL2.out]; rfl, rfl⟩
set_option maxHeartbeats 4000000 in
theorem iCauE (w : World) (a : Option Addr) (l : List Int) (n cap : Nat) (s t : Int) (hn : n = l.length) (hm : n ≤ 9223372036854775807) (hi : Ints w a l) (B : Nat) (hB0 : B ≤ w.heap.size) (ht : ErrB B w) :
    Calls Tryz.prog 25 #[.agg #[.slice a n cap], .int .i64 s, .int .i64 t] w fun e w' => e = .returned (.int .i64 (cauE l s t)) ∧ Below w.heap.size w w' := by
  have HER := Lib.hid ht
  clear ht
  have HI := Lib.hid (ints_alloc hi (.cells #[.slice a n cap] 26))
  have HN := Lib.hid hn
  have C1 := newC w (.slice a n cap) 26 (n := w.heap.size) rfl
  have HB := Lib.hid (Joins.below_alloc1 w (.cells #[.slice a n cap] 26))
  have T0 := Lib.hid (Below.refl (w.alloc (.cells #[.slice a n cap] 26)).heap.size (w.alloc (.cells #[.slice a n cap] 26)))
  clear hi hn
  cases hs : neB l s t with
  | false =>
    have HS := Lib.hid hs
    obtain ⟨k1, k2, k3, k4, k5, k6, k7⟩ := kp_no hs
    rw [k5]
    clear hs k1 k2 k3 k4 k5 k6 k7
    go_enter Tryz.func25, Tryz.ntmps25
    go_wp2_with (first
      | (go_at_call 51; refine (iRef_yes _ ex ey B (Nat.le_trans hB0 TA.out.size) (HER.out.on (TA.out.mono hB0))).mono ?_; rintro e w2 ⟨rfl, hb2⟩; have T2 := Lib.hid (TA.out.trans (hb2.mono TA.out.size)))
      | (go_at_call 50; refine (iFSS_no _ _ _ _ _ _ _ HN.out hm (HI.out.below rfl T0.out) HS.out).mono ?_; rintro e w1 ⟨ex, ey, rfl, hb1⟩; have TA := Lib.hid ((HB.out.trans (hb1.mono (by simp))).alloc (Nat.le_trans (by simp) hb1.size) (.cells #[.int .i64 0, .int .i64 0, .int .i64 0] 41))))
    go_ret
    exact ⟨rfl, T2.out⟩
  | true =>
    have HS := Lib.hid hs
    obtain ⟨hg, u, v, rfl, rfl, hu0, hv0, hul, hvl⟩ := neB_yes hs
    have hu24 := grp_pow hg hul
    have hv24 := grp_pow hg hvl
    have HT := Lib.hid (tri_grp hg)
    have hp := (ords_grp hg).prod
    have HP := prod_pad (grpB_true hg).1
    obtain ⟨N, HNN⟩ : ∃ N : Nat, (prodI l).toNat = N := ⟨_, rfl⟩
    have hpN : prodI l = (N : Int) := by omega
    have hN1 : 1 ≤ N := by omega
    have hN24 : N ≤ 24 := by omega
    have hld := ldS_div (P := N) hN1 (N - 1) (Nat.le_refl _)
    have hld1 : 1 ≤ ldN N := hld.2.1
    have hld2 : ldN N ≤ N := hld.2.2.1
    have HLD := Lib.hid (fun (W : World) => iLd W N hN1 hN24)
    rw [show cauE l u v = min ((ldN N : Nat) : Int) (((bitsN u).length : Int) + ((bitsN v).length : Int) - 1) by unfold cauE; rw [if_pos hs, HNN]; rfl]
    obtain ⟨p, EP⟩ : ∃ p, Hid (l.getD 0 1 = p) := ⟨_, Lib.hid rfl⟩
    obtain ⟨q, EQ⟩ : ∃ q, Hid (l.getD 1 1 = q) := ⟨_, Lib.hid rfl⟩
    obtain ⟨r, ER⟩ : ∃ r, Hid (l.getD 2 1 = r) := ⟨_, Lib.hid rfl⟩
    rw [EP.out, EQ.out, ER.out] at HT HP
    have HPV : Hid (p * q * r = (N : Int)) := Lib.hid (by rw [← HP, hpN])
    obtain ⟨D, hD⟩ : ∃ D, ldN N = D := ⟨_, rfl⟩
    rw [hD] at HLD hld1 hld2 ⊢
    have q2 := bits_le u
    have q3 := bits_le v
    have D2 := Lib.hid (fun (W : World) => iCnt W u hu24)
    have D3 := Lib.hid (fun (W : World) => iCnt W v hv24)
    obtain ⟨L2, hL2⟩ : ∃ L, (bitsN u).length = L := ⟨_, rfl⟩
    obtain ⟨L3, hL3⟩ : ∃ L, (bitsN v).length = L := ⟨_, rfl⟩
    rw [hL2] at D2 q2 ⊢
    rw [hL3] at D3 q3 ⊢
    clear hs hL2 hL3 hul hvl hg hu24 hv24 hp HP HNN hpN hld hD
    go_enter Tryz.func25, Tryz.ntmps25
    go_wp2_with (first
      | (go_at_call 51; refine (iRef_no _).mono ?_; rintro e w2 ⟨rfl, hb2⟩; have T2 := Lib.hid (TA.out.trans (hb2.mono TA.out.size)); have R2 := Lib.hid (keepH hb2 (by simp) RY.out); obtain ⟨z0, z1, z2, _, _, _⟩ := trip_cell R2.out)
      | (go_at_call 50; refine (iFSS_yes _ _ _ _ _ _ _ HN.out hm (HI.out.below rfl T0.out) HS.out).mono ?_; rw [EP.out, EQ.out, ER.out]; rintro e w1 ⟨rfl, hb1⟩; have TA := Lib.hid ((HB.out.trans (hb1.mono (by simp))).alloc (Nat.le_trans (by simp) hb1.size) (.cells #[.int .i64 p, .int .i64 q, .int .i64 r] 41)); have RY := Lib.hid (heap_alloc_new w1 (.cells #[.int .i64 p, .int .i64 q, .int .i64 r] 41)); obtain ⟨y0, y1, y2, _, _, _⟩ := trip_cell RY.out))
    have TD := Lib.hid T2.out.drew
    go_region_held3 (fun W => W.cell? ⟨w1.heap.size, 0, none⟩ = some (.int .i64 p) ∧ W.cell? ⟨w1.heap.size, 1, none⟩ = some (.int .i64 q) ∧ W.cell? ⟨w1.heap.size, 2, none⟩ = some (.int .i64 r)) (first | exact ⟨d0, d1, d2⟩ | exact ⟨z0, z1, z2⟩)
      (first
      | (go_at_call 62; refine (HLD.out _).mono ?_; rintro e w6 ⟨rfl, rfl⟩)
      | (go_at_call 59; refine (iProduct _ _ _ _ HT.out).mono ?_; rw [HPV.out]; rintro e w5 ⟨rfl, hb5⟩; have T5 := Lib.hid (TD.out.trans (hb5.mono TD.out.size)); have R5 := Lib.hid (keepH hb5 (Array.getElem?_eq_some_iff.1 R2.out).1 R2.out); obtain ⟨d0, d1, d2, _, _, _⟩ := trip_cell R5.out)
      | (go_at_call 47; have hx_ := K1; clear hx_; refine (D3.out _).mono ?_; rintro e w4 ⟨rfl, rfl⟩)
      | (go_at_call 47; refine (D2.out _).mono ?_; rintro e w3 ⟨rfl, rfl⟩; have K1 := True.intro))
    all_goals go_wp2
    all_goals
      go_ret
      refine ⟨?_, T5.out⟩
      have W1 : IntKind.i64.wrap (IntKind.i64.wrap ((L2 : Int) + L3) - 1) = L2 + L3 - 1 := by rw [IntKind.wrap_i64, IntKind.wrap_i64]; omega
      try simp only [W1] at *
      show Ending.returned (Value.int .i64 _) = _
      congr 2
      omega
theorem iCau (w : World) (a : Option Addr) (l : List Int) (n cap : Nat) (s t : Int) (hn : n = l.length) (hm : n ≤ 9223372036854775807) (hi : Ints w a l) (B : Nat) (hB0 : B ≤ w.heap.size) (ht : TabE B w) :
    Calls Tryz.prog 25 #[.agg #[.slice a n cap], .int .i64 s, .int .i64 t] w fun e w' => e = .returned (.int .i64 (cauE l s t)) ∧ Below w.heap.size w w' := iCauE w a l n cap s t hn hm hi B hB0 ht.2
end Go.Proofs.YtaacofbmbpkeoaaGreatDoor
