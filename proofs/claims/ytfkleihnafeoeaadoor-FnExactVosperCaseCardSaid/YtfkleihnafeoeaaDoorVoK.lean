/- The program's own least step that two sets have, and the cases of Vosper. -/
import Derived.Test.YtfkleihnafeoeaaDoorMGAA
import Derived.Test.YtfkleihnafeoeaaDoorMGAB
import Derived.Deep.RegionHeld3
import Derived.Deep.DeepCutAuto
namespace Go.Proofs.YtfkleihnafeoeaaDoor
open Go.RowKit
set_option maxRecDepth 1000000
/-- The first element of a set is how many bits below it are empty. -/
theorem head_ctz {c : Nat} (hc : c < 2 ^ 24) (h0 : c ≠ 0) : (bitsN c).head? = some (Lib.ctz 64 c) := by
  have h64 : c < 2 ^ 64 := Nat.lt_of_lt_of_le hc (Nat.pow_le_pow_right (by decide) (by decide))
  obtain ⟨m, hm, hk⟩ := Lib.ctzFrom_spec 64 c (by omega) h64
  have e : Lib.ctz 64 c = Lib.ctzFrom 64 c := by simp [Lib.ctz, h0]
  rw [e]
  obtain ⟨k, hkk⟩ : ∃ k, Lib.ctzFrom 64 c = k := ⟨_, rfl⟩
  rw [hkk] at hm hk ⊢
  have hb : ∀ j, c.testBit j = (decide (j ≥ k) && (2 * m + 1).testBit (j - k)) := fun j => by rw [hm, Nat.testBit_two_pow_mul]
  have hb1 : c.testBit k = true := by
    rw [hb k, Nat.sub_self, decide_eq_true (Nat.le_refl k), Bool.true_and, Nat.testBit_zero]
    exact decide_eq_true (by omega)
  have hk24 : k < 24 := by
    rcases Nat.lt_or_ge k 24 with q | q
    · exact q
    · rw [Nat.testBit_lt_two_pow (Nat.lt_of_lt_of_le hc (Nat.pow_le_pow_right (by decide) q))] at hb1
      cases hb1
  unfold bitsN upK
  rw [List.head?_filter, List.find?_range_eq_some]
  refine ⟨hb1, List.mem_range.2 hk24, fun j hj => ?_⟩
  rw [hb j, decide_eq_false (by omega)]
  rfl
theorem com_no {l : List Int} {s t : Int} (h : comO l s t = none) : comE l s t = 0 ∧ comB l s t = false := by
  unfold comE comB
  rw [h]
  exact ⟨rfl, rfl⟩
set_option maxHeartbeats 8000000 in
theorem iCom (w : World) (a : Option Addr) (l : List Int) (n cap : Nat) (s t : Int) (hn : n = l.length) (hm : n ≤ 9223372036854775807) (hi : Ints w a l) (B : Nat) (hB0 : B ≤ w.heap.size) (ht : TabE B w) :
    Calls Tryd.prog 21 #[.agg #[.slice a n cap], .int .i64 s, .int .i64 t] w fun e w' => e = .returned (.tuple #[.int .i64 (comE l s t), .bool (comB l s t)]) ∧ Below w.heap.size w w' := by
  have HTZ := Lib.hid ht.1
  have HER := Lib.hid ht.2
  have HTE := Lib.hid ht
  clear ht
  have HI := Lib.hid (ints_alloc hi (.cells #[.slice a n cap] 27))
  have HN := Lib.hid hn
  have C1 := newC w (.slice a n cap) 27 (n := w.heap.size) rfl
  have HB := Lib.hid (Joins.below_alloc1 w (.cells #[.slice a n cap] 27))
  have T0 := Lib.hid (Below.refl (w.alloc (.cells #[.slice a n cap] 27)).heap.size (w.alloc (.cells #[.slice a n cap] 27)))
  clear hi hn
  cases hs : neB l s t with
  | false =>
    have HS := Lib.hid hs
    obtain ⟨k1, k2⟩ := com_no (com_none hs)
    rw [k1, k2]
    clear hs k1 k2
    go_enter Tryd.func21, Tryd.ntmps21
    go_wp2_with (first
      | (go_at_call 35; refine (iRef_yes _ ex ey B (Nat.le_trans hB0 TA.out.size) (HER.out.on (TA.out.mono hB0))).mono ?_; rintro e w2 ⟨rfl, hb2⟩; have T2 := Lib.hid (TA.out.trans (hb2.mono TA.out.size)))
      | (go_at_call 34; refine (iFSS_no _ _ _ _ _ _ _ HN.out hm (HI.out.below rfl T0.out) HS.out).mono ?_; rintro e w1 ⟨ex, ey, rfl, hb1⟩; have TA := Lib.hid ((HB.out.trans (hb1.mono (by simp))).alloc (Nat.le_trans (by simp) hb1.size) (.cells #[.int .i64 0, .int .i64 0, .int .i64 0] 45))))
    refine bodyPost_ret (v := .tuple #[.int .i64 0, .bool false]) (by simp [results, Tryd.results21, go_sem]) rfl ⟨rfl, T2.out⟩
  | true =>
    have HS := Lib.hid hs
    obtain ⟨hg, u, v, rfl, rfl, hu0, hv0, hul, hvl⟩ := neB_yes hs
    have hcb := com_bits (isS_of hg hul) (by omega) (isS_of hg hvl) (by omega)
    have H1 := Lib.hid (fun (W : World) => iDiff hg W u hul (by omega))
    have H2 := Lib.hid (fun (W : World) => iDiff hg W v hvl (by omega))
    have hA24 : dsN l u < 2 ^ 24 := grp_pow hg (ds_lt l u _)
    have hB24 : dsN l v < 2 ^ 24 := grp_pow hg (ds_lt l v _)
    have hC24 : dsN l u &&& dsN l v < 2 ^ 24 := Nat.lt_of_le_of_lt Nat.and_le_left hA24
    have hand := bits_and_u64_nat (dsN l u) (dsN l v) (by omega) (by omega)
    obtain ⟨p, EP⟩ : ∃ p, Hid (l.getD 0 1 = p) := ⟨_, Lib.hid rfl⟩
    obtain ⟨q, EQ⟩ : ∃ q, Hid (l.getD 1 1 = q) := ⟨_, Lib.hid rfl⟩
    obtain ⟨r, ER⟩ : ∃ r, Hid (l.getD 2 1 = r) := ⟨_, Lib.hid rfl⟩
    rw [EP.out, EQ.out, ER.out] at H1 H2
    obtain ⟨C, hC⟩ : ∃ C, dsN l u &&& dsN l v = C := ⟨_, rfl⟩
    rw [hC] at hcb hC24 hand
    obtain ⟨A, hA⟩ : ∃ C, dsN l u = C := ⟨_, rfl⟩
    obtain ⟨D, hD⟩ : ∃ C, dsN l v = C := ⟨_, rfl⟩
    rw [hA] at H1 hand
    rw [hD] at H2 hand
    have HAND := Lib.hid hand
    by_cases h0 : C = 0
    · subst h0
      obtain ⟨k1, k2⟩ := com_no (show comO l (u : Int) (v : Int) = none by rw [hcb]; rfl)
      rw [k1, k2]
      have hz : (((0 : Nat) : Int) == 0) = true := rfl
      clear hs hcb hg hul hvl hu0 hv0 hA24 hB24 hC24 hC hA hD k1 k2
      go_enter Tryd.func21, Tryd.ntmps21
      go_wp2_with (first
        | (go_at_call 35; refine (iRef_no _).mono ?_; rintro e w2 ⟨rfl, hb2⟩; have T2 := Lib.hid (TA.out.trans (hb2.mono TA.out.size)); have R2 := Lib.hid (keepH hb2 (by simp) RY.out); obtain ⟨z0, z1, z2, _, _, _⟩ := trip_cell R2.out)
        | (go_at_call 34; refine (iFSS_yes _ _ _ _ _ _ _ HN.out hm (HI.out.below rfl T0.out) HS.out).mono ?_; rw [EP.out, EQ.out, ER.out]; rintro e w1 ⟨rfl, hb1⟩; have TA := Lib.hid ((HB.out.trans (hb1.mono (by simp))).alloc (Nat.le_trans (by simp) hb1.size) (.cells #[.int .i64 p, .int .i64 q, .int .i64 r] 45)); have RY := Lib.hid (heap_alloc_new w1 (.cells #[.int .i64 p, .int .i64 q, .int .i64 r] 45)); obtain ⟨y0, y1, y2, _, _, _⟩ := trip_cell RY.out))
      have TD := Lib.hid T2.out.drew
      have hand := HAND.out
      go_region_held3 (fun W => W.cell? ⟨w1.heap.size, 0, none⟩ = some (.int .i64 p) ∧ W.cell? ⟨w1.heap.size, 1, none⟩ = some (.int .i64 q) ∧ W.cell? ⟨w1.heap.size, 2, none⟩ = some (.int .i64 r)) (first | exact ⟨e0, e1, e2⟩ | exact ⟨d0, d1, d2⟩ | exact ⟨z0, z1, z2⟩)
        (first
        | (go_at_call 30; have hx_ := T3; clear hx_; refine (H2.out _).mono ?_; rintro e w4 ⟨rfl, hb4⟩; have T4 := Lib.hid (T3.out.trans (hb4.mono T3.out.size)); have R4 := Lib.hid (keepH hb4 (Array.getElem?_eq_some_iff.1 R3.out).1 R3.out); obtain ⟨e0, e1, e2, _, _, _⟩ := trip_cell R4.out)
        | (go_at_call 30; refine (H1.out _).mono ?_; rintro e w3 ⟨rfl, hb3⟩; have T3 := Lib.hid (TD.out.trans (hb3.mono TD.out.size)); have R3 := Lib.hid (keepH hb3 (Array.getElem?_eq_some_iff.1 R2.out).1 R2.out); obtain ⟨d0, d1, d2, _, _, _⟩ := trip_cell R3.out))
      all_goals go_wp2
      refine bodyPost_ret (v := .tuple #[.int .i64 0, .bool false]) (by simp [results, Tryd.results21, go_sem]) rfl ⟨rfl, T4.out⟩
    · have hh := head_ctz hC24 h0
      obtain ⟨K, hK⟩ : ∃ K, Lib.ctz 64 C = K := ⟨_, rfl⟩
      have HLE := Lib.hid (fun (W : World) h => iLeast W C hC24 h0 B h)
      rw [hK] at hh HLE
      rw [hh] at hcb
      rw [show comE l (u : Int) (v : Int) = (K : Int) by unfold comE; rw [hcb]; rfl, show comB l (u : Int) (v : Int) = true by unfold comB; rw [hcb]; rfl]
      have hz : ((C : Int) == 0) = false := by simp; omega
      clear hs hcb hg hul hvl hu0 hv0 hA24 hB24 hC24 hC hA hD hh hK h0
      go_enter Tryd.func21, Tryd.ntmps21
      go_wp2_with (first
        | (go_at_call 35; refine (iRef_no _).mono ?_; rintro e w2 ⟨rfl, hb2⟩; have T2 := Lib.hid (TA.out.trans (hb2.mono TA.out.size)); have R2 := Lib.hid (keepH hb2 (by simp) RY.out); obtain ⟨z0, z1, z2, _, _, _⟩ := trip_cell R2.out)
        | (go_at_call 34; refine (iFSS_yes _ _ _ _ _ _ _ HN.out hm (HI.out.below rfl T0.out) HS.out).mono ?_; rw [EP.out, EQ.out, ER.out]; rintro e w1 ⟨rfl, hb1⟩; have TA := Lib.hid ((HB.out.trans (hb1.mono (by simp))).alloc (Nat.le_trans (by simp) hb1.size) (.cells #[.int .i64 p, .int .i64 q, .int .i64 r] 45)); have RY := Lib.hid (heap_alloc_new w1 (.cells #[.int .i64 p, .int .i64 q, .int .i64 r] 45)); obtain ⟨y0, y1, y2, _, _, _⟩ := trip_cell RY.out))
      have TD := Lib.hid T2.out.drew
      have hand := HAND.out
      go_region_held3 (fun W => W.cell? ⟨w1.heap.size, 0, none⟩ = some (.int .i64 p) ∧ W.cell? ⟨w1.heap.size, 1, none⟩ = some (.int .i64 q) ∧ W.cell? ⟨w1.heap.size, 2, none⟩ = some (.int .i64 r)) (first | exact ⟨e0, e1, e2⟩ | exact ⟨d0, d1, d2⟩ | exact ⟨z0, z1, z2⟩)
        (first
        | (go_at_call 30; have hx_ := T3; clear hx_; refine (H2.out _).mono ?_; rintro e w4 ⟨rfl, hb4⟩; have T4 := Lib.hid (T3.out.trans (hb4.mono T3.out.size)); have R4 := Lib.hid (keepH hb4 (Array.getElem?_eq_some_iff.1 R3.out).1 R3.out); obtain ⟨e0, e1, e2, _, _, _⟩ := trip_cell R4.out)
        | (go_at_call 30; refine (H1.out _).mono ?_; rintro e w3 ⟨rfl, hb3⟩; have T3 := Lib.hid (TD.out.trans (hb3.mono TD.out.size)); have R3 := Lib.hid (keepH hb3 (Array.getElem?_eq_some_iff.1 R2.out).1 R2.out); obtain ⟨d0, d1, d2, _, _, _⟩ := trip_cell R3.out))
      all_goals go_wp2_with (go_at_call 41; refine (HLE.out _ (HTZ.out.on (T4.out.mono hB0))).mono ?_; rintro e w5 ⟨rfl, rfl⟩)
      refine bodyPost_ret (v := .tuple #[.int .i64 (K : Nat), .bool true]) (by simp [results, Tryd.results21, go_sem]) rfl ⟨rfl, T4.out⟩
set_option maxHeartbeats 16000000 in
theorem iVos (w : World) (a : Option Addr) (l : List Int) (n cap : Nat) (s t : Int) (hn : n = l.length) (hm : n ≤ 9223372036854775807) (hi : Ints w a l) (B : Nat) (hB0 : B ≤ w.heap.size) (ht : TabE B w) :
    Calls Tryd.prog 19 #[.agg #[.slice a n cap], .int .i64 s, .int .i64 t] w fun e w' => e = .returned (.string (vosT (vosK l s t))) ∧ Below w.heap.size w w' := by
  have HTZ := Lib.hid ht.1
  have HER := Lib.hid ht.2
  have HTE := Lib.hid ht
  clear ht
  have HI0 := Lib.hid hi
  have HI := Lib.hid (ints_alloc hi (.cells #[.slice a n cap] 27))
  have HN := Lib.hid hn
  have C1 := newC w (.slice a n cap) 27 (n := w.heap.size) rfl
  have HB := Lib.hid (Joins.below_alloc1 w (.cells #[.slice a n cap] 27))
  have T0 := Lib.hid (Below.refl (w.alloc (.cells #[.slice a n cap] 27)).heap.size (w.alloc (.cells #[.slice a n cap] 27)))
  clear hi hn
  cases hne : neB l s t with
  | false =>
    have HS := Lib.hid hne
    rw [show vosK l s t = 0 from vos_no (by rw [hne]; simp)]
    clear hne
    go_enter Tryd.func19, Tryd.ntmps19
    go_wp2_with (first
      | (go_at_call 35; refine (iRef_yes _ ex ey B (Nat.le_trans hB0 TA.out.size) (HER.out.on (TA.out.mono hB0))).mono ?_; rintro e w2 ⟨rfl, hb2⟩; have T2 := Lib.hid (TA.out.trans (hb2.mono TA.out.size)))
      | (go_at_call 34; refine (iFSS_no _ _ _ _ _ _ _ HN.out hm (HI.out.below rfl T0.out) HS.out).mono ?_; rintro e w1 ⟨ex, ey, rfl, hb1⟩; have TA := Lib.hid ((HB.out.trans (hb1.mono (by simp))).alloc (Nat.le_trans (by simp) hb1.size) (.cells #[.int .i64 0, .int .i64 0, .int .i64 0] 45))))
    go_ret
    exact ⟨rfl, T2.out⟩
  | true =>
    have HS := Lib.hid hne
    obtain ⟨hg, u, v, rfl, rfl, hu0, hv0, hul, hvl⟩ := neB_yes hne
    obtain ⟨p, EP⟩ : ∃ p, Hid (l.getD 0 1 = p) := ⟨_, Lib.hid rfl⟩
    obtain ⟨q, EQ⟩ : ∃ q, Hid (l.getD 1 1 = q) := ⟨_, Lib.hid rfl⟩
    obtain ⟨r, ER⟩ : ∃ r, Hid (l.getD 2 1 = r) := ⟨_, Lib.hid rfl⟩
    have IW := Lib.hid (fun (W : World) (h : Below w.heap.size w W) => HI0.out.below rfl h)
    cases hpm : prmB l with
    | false =>
      have HPM := Lib.hid hpm
      rw [show vosK l (u : Int) (v : Int) = 0 from vos_no (by rw [hpm]; rfl)]
      clear hpm hne hg hul hvl hu0 hv0
      go_enter Tryd.func19, Tryd.ntmps19
      go_wp2_with (first
        | (go_at_call 36; have hx_ := K2; clear hx_; refine (iPrm _ _ _ _ _ HN.out hm (IW.out _ T2.out)).mono ?_; rw [HPM.out]; rintro e w3 ⟨rfl, hb3⟩; have T3 := Lib.hid (T2.out.trans (hb3.mono T2.out.size)); have R3 := Lib.hid (keepH hb3 (Array.getElem?_eq_some_iff.1 R2.out).1 R2.out); obtain ⟨x30, x31, x32, _, _, _⟩ := trip_cell R3.out; have c3 := keepC hb3 (World.block_lt_of_cell? _ _ c2) c2; have K3 := True.intro)
        | (have hx_ := K1; clear hx_; go_at_call 35; refine (iRef_no _).mono ?_; rintro e w2 ⟨rfl, hb2⟩; have T2 := Lib.hid (TA.out.trans (hb2.mono TA.out.size)); have R2 := Lib.hid (keepH hb2 (by simp) RY.out); obtain ⟨z0, z1, z2, _, _, _⟩ := trip_cell R2.out; have c2 := keepC hb2 (World.block_lt_of_cell? _ _ c1) c1; have K2 := True.intro)
        | (go_at_call 34; refine (iFSS_yes _ _ _ _ _ _ _ HN.out hm (HI.out.below rfl T0.out) HS.out).mono ?_; rw [EP.out, EQ.out, ER.out]; rintro e w1 ⟨rfl, hb1⟩; have TA := Lib.hid ((HB.out.trans (hb1.mono (by simp))).alloc (Nat.le_trans (by simp) hb1.size) (.cells #[.int .i64 p, .int .i64 q, .int .i64 r] 45)); have RY := Lib.hid (heap_alloc_new w1 (.cells #[.int .i64 p, .int .i64 q, .int .i64 r] 45)); obtain ⟨y0, y1, y2, _, _, _⟩ := trip_cell RY.out; have c1 := keepC (hb1.alloc hb1.size (.cells #[.int .i64 p, .int .i64 q, .int .i64 r] 45)) (by simp) C1; have K1 := True.intro))
      go_ret
      exact ⟨rfl, T3.out⟩
    | true =>
      have HPM := Lib.hid hpm
      have hK := vos_nat (show (prmB l && neB l (u : Int) (v : Int)) = true by rw [hpm, hne]; rfl)
      have hp := (ords_grp hg).prod
      have HPP := prod_pad (grpB_true hg).1
      obtain ⟨P, hPe⟩ : ∃ P : Nat, prodI l = (P : Int) := ⟨(prodI l).toNat, by omega⟩
      have hP1 : 1 ≤ P := by omega
      have hP24 : P ≤ 24 := by omega
      rw [hPe] at hK
      have hu24 := grp_pow hg hul
      have hv24 := grp_pow hg hvl
      have hx24 := grp_pow hg (sumN_lt hg u v)
      have hfl := full_len hg (sumN_lt hg u v)
      rw [hPe] at hfl
      have HSU := Lib.hid (fun (W : World) h1 h2 => iSumN hg W u v hul hvl B h1 h2)
      have HFU := Lib.hid (fun (W : World) => iFull W _ _ _ (((2 ^ (prodI l).toNat : Nat) : Int) - 1) (tri_grp hg) (by rw [← HPP]))
      have HPR := Lib.hid (fun (W : World) => iProduct W _ _ _ (tri_grp hg))
      rw [← HPP, hPe] at HPR
      rw [EP.out, EQ.out, ER.out] at HSU HFU HPR
      obtain ⟨F, hF⟩ : ∃ F, ((2 ^ (prodI l).toNat : Nat) : Int) - 1 = F := ⟨_, rfl⟩
      rw [hPe] at hF
      rw [hPe] at HFU
      rw [hF] at hfl HFU
      obtain ⟨X, hX⟩ : ∃ X, sumN l u v = X := ⟨_, rfl⟩
      rw [hX] at hK hx24 hfl HSU
      have q1 : (bitsN u).length ≤ 24 := upK_len u 24
      have q2 : (bitsN v).length ≤ 24 := upK_len v 24
      have q3 : (bitsN X).length ≤ 24 := upK_len X 24
      have D1 := Lib.hid (fun (W : World) => iCnt W u hu24)
      have D2 := Lib.hid (fun (W : World) => iCnt W v hv24)
      have D3 := Lib.hid (fun (W : World) => iCnt W X hx24)
      obtain ⟨L1, hL1⟩ : ∃ L, (bitsN u).length = L := ⟨_, rfl⟩
      obtain ⟨L2, hL2⟩ : ∃ L, (bitsN v).length = L := ⟨_, rfl⟩
      obtain ⟨L3, hL3⟩ : ∃ L, (bitsN X).length = L := ⟨_, rfl⟩
      rw [hL1] at D1 q1 hK
      rw [hL2] at D2 q2 hK
      rw [hL3] at D3 q3 hK hfl
      obtain ⟨CE, hCE⟩ : ∃ z, comE l (u : Int) (v : Int) = z := ⟨_, rfl⟩
      obtain ⟨CB, hCB⟩ : ∃ z, comB l (u : Int) (v : Int) = z := ⟨_, rfl⟩
      have HCM := Lib.hid (And.intro hCE hCB)
      rw [hCB] at hK
      obtain ⟨B1, hB1⟩ : ∃ b, ((L3 : Int) == (P : Int)) = b := ⟨_, rfl⟩
      obtain ⟨B2, hB2⟩ : ∃ b, decide ((P : Int) ≤ (L1 : Int) + (L2 : Int) - 1) = b := ⟨_, rfl⟩
      obtain ⟨B3, hB3⟩ : ∃ b, ((L3 : Int) == (L1 : Int) + (L2 : Int) - 1) = b := ⟨_, rfl⟩
      obtain ⟨B4, hB4⟩ : ∃ b, ((L1 : Int) == 1) = b := ⟨_, rfl⟩
      obtain ⟨B5, hB5⟩ : ∃ b, ((L2 : Int) == 1) = b := ⟨_, rfl⟩
      obtain ⟨B7, hB7⟩ : ∃ b, ((L1 : Int) + (L2 : Int) - 1 == (P : Int) - 1) = b := ⟨_, rfl⟩
      rw [hB1] at hfl
      rw [hB1, hB2, hB3, hB4, hB5, hB7] at hK
      have hB3n : ((L3 : Int) != (L1 : Int) + (L2 : Int) - 1) = !B3 := by rw [← hB3]; rfl
      have HKK := Lib.hid hK
      clear hne hpm hK hg hul hvl hu0 hv0 hp HPP hPe hF hu24 hv24 hx24 hX hL1 hL2 hL3 hCE hCB hB1
      cases B1 with
      | true =>
        cases B2 with
        | true =>
          go_enter Tryd.func19, Tryd.ntmps19
          go_wp2_with (first
            | (go_at_call 40; have hx_ := K8; clear hx_; refine (HPR.out _).mono ?_; rintro e w7 ⟨rfl, hb7⟩; have T7 := Lib.hid (T6.out.trans (hb7.mono T6.out.size)); have R7 := Lib.hid (keepH hb7 (Array.getElem?_eq_some_iff.1 R6.out).1 R6.out); obtain ⟨x70, x71, x72, _, _, _⟩ := trip_cell R7.out; have c7 := keepC hb7 (World.block_lt_of_cell? _ _ c6) c6; have K9 := True.intro)
            | (go_at_call 39; have hx_ := K7; clear hx_; refine (HFU.out _).mono ?_; rintro e w6 ⟨rfl, hb6⟩; have T6 := Lib.hid (T5.out.trans (hb6.mono T5.out.size)); have R6 := Lib.hid (keepH hb6 (Array.getElem?_eq_some_iff.1 R5.out).1 R5.out); obtain ⟨x60, x61, x62, _, _, _⟩ := trip_cell R6.out; have c6 := keepC hb6 (World.block_lt_of_cell? _ _ c5) c5; have K8 := True.intro)
            | (go_at_call 21; have hx_ := K6; clear hx_; refine (iCom _ _ _ _ _ _ _ HN.out hm (IW.out _ T4.out) B (Nat.le_trans hB0 T4.out.size) (HTE.out.on (T4.out.mono hB0))).mono ?_; rw [HCM.out.1, HCM.out.2]; rintro e w5 ⟨rfl, hb5⟩; have T5 := Lib.hid (T4.out.trans (hb5.mono T4.out.size)); have R5 := Lib.hid (keepH hb5 (Array.getElem?_eq_some_iff.1 R4.out).1 R4.out); obtain ⟨x50, x51, x52, _, _, _⟩ := trip_cell R5.out; have c5 := keepC hb5 (World.block_lt_of_cell? _ _ c4) c4; have K7 := True.intro)
            | (go_at_call 38; have hx_ := K5; clear hx_; refine (HSU.out _ (Nat.le_trans hB0 T3.out.size) (HTZ.out.on (T3.out.mono hB0))).mono ?_; rintro e w4 ⟨rfl, hb4⟩; have T4 := Lib.hid (T3.out.trans (hb4.mono T3.out.size)); have R4 := Lib.hid (keepH hb4 (Array.getElem?_eq_some_iff.1 R3.out).1 R3.out); obtain ⟨x40, x41, x42, _, _, _⟩ := trip_cell R4.out; have c4 := keepC hb4 (World.block_lt_of_cell? _ _ c3) c3; have K6 := True.intro)
            | (go_at_call 37; have hx_ := K4; clear hx_; refine (D2.out _).mono ?_; rintro e w_ ⟨rfl, rfl⟩; have K5 := True.intro)
            | (go_at_call 37; have hx_ := K3; clear hx_; refine (D1.out _).mono ?_; rintro e w_ ⟨rfl, rfl⟩; have K4 := True.intro)
            | (go_at_call 36; have hx_ := K2; clear hx_; refine (iPrm _ _ _ _ _ HN.out hm (IW.out _ T2.out)).mono ?_; rw [HPM.out]; rintro e w3 ⟨rfl, hb3⟩; have T3 := Lib.hid (T2.out.trans (hb3.mono T2.out.size)); have R3 := Lib.hid (keepH hb3 (Array.getElem?_eq_some_iff.1 R2.out).1 R2.out); obtain ⟨x30, x31, x32, _, _, _⟩ := trip_cell R3.out; have c3 := keepC hb3 (World.block_lt_of_cell? _ _ c2) c2; have K3 := True.intro)
            | (have hx_ := K1; clear hx_; go_at_call 35; refine (iRef_no _).mono ?_; rintro e w2 ⟨rfl, hb2⟩; have T2 := Lib.hid (TA.out.trans (hb2.mono TA.out.size)); have R2 := Lib.hid (keepH hb2 (by simp) RY.out); obtain ⟨z0, z1, z2, _, _, _⟩ := trip_cell R2.out; have c2 := keepC hb2 (World.block_lt_of_cell? _ _ c1) c1; have K2 := True.intro)
            | (go_at_call 34; refine (iFSS_yes _ _ _ _ _ _ _ HN.out hm (HI.out.below rfl T0.out) HS.out).mono ?_; rw [EP.out, EQ.out, ER.out]; rintro e w1 ⟨rfl, hb1⟩; have TA := Lib.hid ((HB.out.trans (hb1.mono (by simp))).alloc (Nat.le_trans (by simp) hb1.size) (.cells #[.int .i64 p, .int .i64 q, .int .i64 r] 45)); have RY := Lib.hid (heap_alloc_new w1 (.cells #[.int .i64 p, .int .i64 q, .int .i64 r] 45)); obtain ⟨y0, y1, y2, _, _, _⟩ := trip_cell RY.out; have c1 := keepC (hb1.alloc hb1.size (.cells #[.int .i64 p, .int .i64 q, .int .i64 r] 45)) (by simp) C1; have K1 := True.intro))
          go_ret
          exact ⟨by first | rfl | (rw [HKK.out]; rfl), T7.out⟩
        | false =>
          cases B3 with
          | false =>
            rw [Bool.not_false] at hB3n
            go_enter Tryd.func19, Tryd.ntmps19
            go_wp2_with (first
              | (go_at_call 37; have hx_ := K9; clear hx_; refine (D3.out _).mono ?_; rintro e w_ ⟨rfl, rfl⟩; have K10 := True.intro)
              | (go_at_call 40; have hx_ := K8; clear hx_; refine (HPR.out _).mono ?_; rintro e w7 ⟨rfl, hb7⟩; have T7 := Lib.hid (T6.out.trans (hb7.mono T6.out.size)); have R7 := Lib.hid (keepH hb7 (Array.getElem?_eq_some_iff.1 R6.out).1 R6.out); obtain ⟨x70, x71, x72, _, _, _⟩ := trip_cell R7.out; have c7 := keepC hb7 (World.block_lt_of_cell? _ _ c6) c6; have K9 := True.intro)
              | (go_at_call 39; have hx_ := K7; clear hx_; refine (HFU.out _).mono ?_; rintro e w6 ⟨rfl, hb6⟩; have T6 := Lib.hid (T5.out.trans (hb6.mono T5.out.size)); have R6 := Lib.hid (keepH hb6 (Array.getElem?_eq_some_iff.1 R5.out).1 R5.out); obtain ⟨x60, x61, x62, _, _, _⟩ := trip_cell R6.out; have c6 := keepC hb6 (World.block_lt_of_cell? _ _ c5) c5; have K8 := True.intro)
              | (go_at_call 21; have hx_ := K6; clear hx_; refine (iCom _ _ _ _ _ _ _ HN.out hm (IW.out _ T4.out) B (Nat.le_trans hB0 T4.out.size) (HTE.out.on (T4.out.mono hB0))).mono ?_; rw [HCM.out.1, HCM.out.2]; rintro e w5 ⟨rfl, hb5⟩; have T5 := Lib.hid (T4.out.trans (hb5.mono T4.out.size)); have R5 := Lib.hid (keepH hb5 (Array.getElem?_eq_some_iff.1 R4.out).1 R4.out); obtain ⟨x50, x51, x52, _, _, _⟩ := trip_cell R5.out; have c5 := keepC hb5 (World.block_lt_of_cell? _ _ c4) c4; have K7 := True.intro)
              | (go_at_call 38; have hx_ := K5; clear hx_; refine (HSU.out _ (Nat.le_trans hB0 T3.out.size) (HTZ.out.on (T3.out.mono hB0))).mono ?_; rintro e w4 ⟨rfl, hb4⟩; have T4 := Lib.hid (T3.out.trans (hb4.mono T3.out.size)); have R4 := Lib.hid (keepH hb4 (Array.getElem?_eq_some_iff.1 R3.out).1 R3.out); obtain ⟨x40, x41, x42, _, _, _⟩ := trip_cell R4.out; have c4 := keepC hb4 (World.block_lt_of_cell? _ _ c3) c3; have K6 := True.intro)
              | (go_at_call 37; have hx_ := K4; clear hx_; refine (D2.out _).mono ?_; rintro e w_ ⟨rfl, rfl⟩; have K5 := True.intro)
              | (go_at_call 37; have hx_ := K3; clear hx_; refine (D1.out _).mono ?_; rintro e w_ ⟨rfl, rfl⟩; have K4 := True.intro)
              | (go_at_call 36; have hx_ := K2; clear hx_; refine (iPrm _ _ _ _ _ HN.out hm (IW.out _ T2.out)).mono ?_; rw [HPM.out]; rintro e w3 ⟨rfl, hb3⟩; have T3 := Lib.hid (T2.out.trans (hb3.mono T2.out.size)); have R3 := Lib.hid (keepH hb3 (Array.getElem?_eq_some_iff.1 R2.out).1 R2.out); obtain ⟨x30, x31, x32, _, _, _⟩ := trip_cell R3.out; have c3 := keepC hb3 (World.block_lt_of_cell? _ _ c2) c2; have K3 := True.intro)
              | (have hx_ := K1; clear hx_; go_at_call 35; refine (iRef_no _).mono ?_; rintro e w2 ⟨rfl, hb2⟩; have T2 := Lib.hid (TA.out.trans (hb2.mono TA.out.size)); have R2 := Lib.hid (keepH hb2 (by simp) RY.out); obtain ⟨z0, z1, z2, _, _, _⟩ := trip_cell R2.out; have c2 := keepC hb2 (World.block_lt_of_cell? _ _ c1) c1; have K2 := True.intro)
              | (go_at_call 34; refine (iFSS_yes _ _ _ _ _ _ _ HN.out hm (HI.out.below rfl T0.out) HS.out).mono ?_; rw [EP.out, EQ.out, ER.out]; rintro e w1 ⟨rfl, hb1⟩; have TA := Lib.hid ((HB.out.trans (hb1.mono (by simp))).alloc (Nat.le_trans (by simp) hb1.size) (.cells #[.int .i64 p, .int .i64 q, .int .i64 r] 45)); have RY := Lib.hid (heap_alloc_new w1 (.cells #[.int .i64 p, .int .i64 q, .int .i64 r] 45)); obtain ⟨y0, y1, y2, _, _, _⟩ := trip_cell RY.out; have c1 := keepC (hb1.alloc hb1.size (.cells #[.int .i64 p, .int .i64 q, .int .i64 r] 45)) (by simp) C1; have K1 := True.intro))
            go_ret
            exact ⟨by first | rfl | (rw [HKK.out]; rfl), T7.out⟩
          | true =>
            rw [Bool.not_true] at hB3n
            cases B4 with
            | true =>
              go_enter Tryd.func19, Tryd.ntmps19
              go_wp2_with (first
                | (go_at_call 37; have hx_ := K10; clear hx_; refine (D1.out _).mono ?_; rintro e w_ ⟨rfl, rfl⟩; have K11 := True.intro)
                | (go_at_call 37; have hx_ := K9; clear hx_; refine (D3.out _).mono ?_; rintro e w_ ⟨rfl, rfl⟩; have K10 := True.intro)
                | (go_at_call 40; have hx_ := K8; clear hx_; refine (HPR.out _).mono ?_; rintro e w7 ⟨rfl, hb7⟩; have T7 := Lib.hid (T6.out.trans (hb7.mono T6.out.size)); have R7 := Lib.hid (keepH hb7 (Array.getElem?_eq_some_iff.1 R6.out).1 R6.out); obtain ⟨x70, x71, x72, _, _, _⟩ := trip_cell R7.out; have c7 := keepC hb7 (World.block_lt_of_cell? _ _ c6) c6; have K9 := True.intro)
                | (go_at_call 39; have hx_ := K7; clear hx_; refine (HFU.out _).mono ?_; rintro e w6 ⟨rfl, hb6⟩; have T6 := Lib.hid (T5.out.trans (hb6.mono T5.out.size)); have R6 := Lib.hid (keepH hb6 (Array.getElem?_eq_some_iff.1 R5.out).1 R5.out); obtain ⟨x60, x61, x62, _, _, _⟩ := trip_cell R6.out; have c6 := keepC hb6 (World.block_lt_of_cell? _ _ c5) c5; have K8 := True.intro)
                | (go_at_call 21; have hx_ := K6; clear hx_; refine (iCom _ _ _ _ _ _ _ HN.out hm (IW.out _ T4.out) B (Nat.le_trans hB0 T4.out.size) (HTE.out.on (T4.out.mono hB0))).mono ?_; rw [HCM.out.1, HCM.out.2]; rintro e w5 ⟨rfl, hb5⟩; have T5 := Lib.hid (T4.out.trans (hb5.mono T4.out.size)); have R5 := Lib.hid (keepH hb5 (Array.getElem?_eq_some_iff.1 R4.out).1 R4.out); obtain ⟨x50, x51, x52, _, _, _⟩ := trip_cell R5.out; have c5 := keepC hb5 (World.block_lt_of_cell? _ _ c4) c4; have K7 := True.intro)
                | (go_at_call 38; have hx_ := K5; clear hx_; refine (HSU.out _ (Nat.le_trans hB0 T3.out.size) (HTZ.out.on (T3.out.mono hB0))).mono ?_; rintro e w4 ⟨rfl, hb4⟩; have T4 := Lib.hid (T3.out.trans (hb4.mono T3.out.size)); have R4 := Lib.hid (keepH hb4 (Array.getElem?_eq_some_iff.1 R3.out).1 R3.out); obtain ⟨x40, x41, x42, _, _, _⟩ := trip_cell R4.out; have c4 := keepC hb4 (World.block_lt_of_cell? _ _ c3) c3; have K6 := True.intro)
                | (go_at_call 37; have hx_ := K4; clear hx_; refine (D2.out _).mono ?_; rintro e w_ ⟨rfl, rfl⟩; have K5 := True.intro)
                | (go_at_call 37; have hx_ := K3; clear hx_; refine (D1.out _).mono ?_; rintro e w_ ⟨rfl, rfl⟩; have K4 := True.intro)
                | (go_at_call 36; have hx_ := K2; clear hx_; refine (iPrm _ _ _ _ _ HN.out hm (IW.out _ T2.out)).mono ?_; rw [HPM.out]; rintro e w3 ⟨rfl, hb3⟩; have T3 := Lib.hid (T2.out.trans (hb3.mono T2.out.size)); have R3 := Lib.hid (keepH hb3 (Array.getElem?_eq_some_iff.1 R2.out).1 R2.out); obtain ⟨x30, x31, x32, _, _, _⟩ := trip_cell R3.out; have c3 := keepC hb3 (World.block_lt_of_cell? _ _ c2) c2; have K3 := True.intro)
                | (have hx_ := K1; clear hx_; go_at_call 35; refine (iRef_no _).mono ?_; rintro e w2 ⟨rfl, hb2⟩; have T2 := Lib.hid (TA.out.trans (hb2.mono TA.out.size)); have R2 := Lib.hid (keepH hb2 (by simp) RY.out); obtain ⟨z0, z1, z2, _, _, _⟩ := trip_cell R2.out; have c2 := keepC hb2 (World.block_lt_of_cell? _ _ c1) c1; have K2 := True.intro)
                | (go_at_call 34; refine (iFSS_yes _ _ _ _ _ _ _ HN.out hm (HI.out.below rfl T0.out) HS.out).mono ?_; rw [EP.out, EQ.out, ER.out]; rintro e w1 ⟨rfl, hb1⟩; have TA := Lib.hid ((HB.out.trans (hb1.mono (by simp))).alloc (Nat.le_trans (by simp) hb1.size) (.cells #[.int .i64 p, .int .i64 q, .int .i64 r] 45)); have RY := Lib.hid (heap_alloc_new w1 (.cells #[.int .i64 p, .int .i64 q, .int .i64 r] 45)); obtain ⟨y0, y1, y2, _, _, _⟩ := trip_cell RY.out; have c1 := keepC (hb1.alloc hb1.size (.cells #[.int .i64 p, .int .i64 q, .int .i64 r] 45)) (by simp) C1; have K1 := True.intro))
              go_ret
              exact ⟨by first | rfl | (rw [HKK.out]; rfl), T7.out⟩
            | false =>
              cases B5 with
              | true =>
                go_enter Tryd.func19, Tryd.ntmps19
                go_wp2_with (first
                  | (go_at_call 37; have hx_ := K11; clear hx_; refine (D2.out _).mono ?_; rintro e w_ ⟨rfl, rfl⟩; have K12 := True.intro)
                  | (go_at_call 37; have hx_ := K10; clear hx_; refine (D1.out _).mono ?_; rintro e w_ ⟨rfl, rfl⟩; have K11 := True.intro)
                  | (go_at_call 37; have hx_ := K9; clear hx_; refine (D3.out _).mono ?_; rintro e w_ ⟨rfl, rfl⟩; have K10 := True.intro)
                  | (go_at_call 40; have hx_ := K8; clear hx_; refine (HPR.out _).mono ?_; rintro e w7 ⟨rfl, hb7⟩; have T7 := Lib.hid (T6.out.trans (hb7.mono T6.out.size)); have R7 := Lib.hid (keepH hb7 (Array.getElem?_eq_some_iff.1 R6.out).1 R6.out); obtain ⟨x70, x71, x72, _, _, _⟩ := trip_cell R7.out; have c7 := keepC hb7 (World.block_lt_of_cell? _ _ c6) c6; have K9 := True.intro)
                  | (go_at_call 39; have hx_ := K7; clear hx_; refine (HFU.out _).mono ?_; rintro e w6 ⟨rfl, hb6⟩; have T6 := Lib.hid (T5.out.trans (hb6.mono T5.out.size)); have R6 := Lib.hid (keepH hb6 (Array.getElem?_eq_some_iff.1 R5.out).1 R5.out); obtain ⟨x60, x61, x62, _, _, _⟩ := trip_cell R6.out; have c6 := keepC hb6 (World.block_lt_of_cell? _ _ c5) c5; have K8 := True.intro)
                  | (go_at_call 21; have hx_ := K6; clear hx_; refine (iCom _ _ _ _ _ _ _ HN.out hm (IW.out _ T4.out) B (Nat.le_trans hB0 T4.out.size) (HTE.out.on (T4.out.mono hB0))).mono ?_; rw [HCM.out.1, HCM.out.2]; rintro e w5 ⟨rfl, hb5⟩; have T5 := Lib.hid (T4.out.trans (hb5.mono T4.out.size)); have R5 := Lib.hid (keepH hb5 (Array.getElem?_eq_some_iff.1 R4.out).1 R4.out); obtain ⟨x50, x51, x52, _, _, _⟩ := trip_cell R5.out; have c5 := keepC hb5 (World.block_lt_of_cell? _ _ c4) c4; have K7 := True.intro)
                  | (go_at_call 38; have hx_ := K5; clear hx_; refine (HSU.out _ (Nat.le_trans hB0 T3.out.size) (HTZ.out.on (T3.out.mono hB0))).mono ?_; rintro e w4 ⟨rfl, hb4⟩; have T4 := Lib.hid (T3.out.trans (hb4.mono T3.out.size)); have R4 := Lib.hid (keepH hb4 (Array.getElem?_eq_some_iff.1 R3.out).1 R3.out); obtain ⟨x40, x41, x42, _, _, _⟩ := trip_cell R4.out; have c4 := keepC hb4 (World.block_lt_of_cell? _ _ c3) c3; have K6 := True.intro)
                  | (go_at_call 37; have hx_ := K4; clear hx_; refine (D2.out _).mono ?_; rintro e w_ ⟨rfl, rfl⟩; have K5 := True.intro)
                  | (go_at_call 37; have hx_ := K3; clear hx_; refine (D1.out _).mono ?_; rintro e w_ ⟨rfl, rfl⟩; have K4 := True.intro)
                  | (go_at_call 36; have hx_ := K2; clear hx_; refine (iPrm _ _ _ _ _ HN.out hm (IW.out _ T2.out)).mono ?_; rw [HPM.out]; rintro e w3 ⟨rfl, hb3⟩; have T3 := Lib.hid (T2.out.trans (hb3.mono T2.out.size)); have R3 := Lib.hid (keepH hb3 (Array.getElem?_eq_some_iff.1 R2.out).1 R2.out); obtain ⟨x30, x31, x32, _, _, _⟩ := trip_cell R3.out; have c3 := keepC hb3 (World.block_lt_of_cell? _ _ c2) c2; have K3 := True.intro)
                  | (have hx_ := K1; clear hx_; go_at_call 35; refine (iRef_no _).mono ?_; rintro e w2 ⟨rfl, hb2⟩; have T2 := Lib.hid (TA.out.trans (hb2.mono TA.out.size)); have R2 := Lib.hid (keepH hb2 (by simp) RY.out); obtain ⟨z0, z1, z2, _, _, _⟩ := trip_cell R2.out; have c2 := keepC hb2 (World.block_lt_of_cell? _ _ c1) c1; have K2 := True.intro)
                  | (go_at_call 34; refine (iFSS_yes _ _ _ _ _ _ _ HN.out hm (HI.out.below rfl T0.out) HS.out).mono ?_; rw [EP.out, EQ.out, ER.out]; rintro e w1 ⟨rfl, hb1⟩; have TA := Lib.hid ((HB.out.trans (hb1.mono (by simp))).alloc (Nat.le_trans (by simp) hb1.size) (.cells #[.int .i64 p, .int .i64 q, .int .i64 r] 45)); have RY := Lib.hid (heap_alloc_new w1 (.cells #[.int .i64 p, .int .i64 q, .int .i64 r] 45)); obtain ⟨y0, y1, y2, _, _, _⟩ := trip_cell RY.out; have c1 := keepC (hb1.alloc hb1.size (.cells #[.int .i64 p, .int .i64 q, .int .i64 r] 45)) (by simp) C1; have K1 := True.intro))
                go_ret
                exact ⟨by first | rfl | (rw [HKK.out]; rfl), T7.out⟩
              | false =>
                cases CB with
                | true =>
                  go_enter Tryd.func19, Tryd.ntmps19
                  go_wp2_with (first
                    | (go_at_call 37; have hx_ := K11; clear hx_; refine (D2.out _).mono ?_; rintro e w_ ⟨rfl, rfl⟩; have K12 := True.intro)
                    | (go_at_call 37; have hx_ := K10; clear hx_; refine (D1.out _).mono ?_; rintro e w_ ⟨rfl, rfl⟩; have K11 := True.intro)
                    | (go_at_call 37; have hx_ := K9; clear hx_; refine (D3.out _).mono ?_; rintro e w_ ⟨rfl, rfl⟩; have K10 := True.intro)
                    | (go_at_call 40; have hx_ := K8; clear hx_; refine (HPR.out _).mono ?_; rintro e w7 ⟨rfl, hb7⟩; have T7 := Lib.hid (T6.out.trans (hb7.mono T6.out.size)); have R7 := Lib.hid (keepH hb7 (Array.getElem?_eq_some_iff.1 R6.out).1 R6.out); obtain ⟨x70, x71, x72, _, _, _⟩ := trip_cell R7.out; have c7 := keepC hb7 (World.block_lt_of_cell? _ _ c6) c6; have K9 := True.intro)
                    | (go_at_call 39; have hx_ := K7; clear hx_; refine (HFU.out _).mono ?_; rintro e w6 ⟨rfl, hb6⟩; have T6 := Lib.hid (T5.out.trans (hb6.mono T5.out.size)); have R6 := Lib.hid (keepH hb6 (Array.getElem?_eq_some_iff.1 R5.out).1 R5.out); obtain ⟨x60, x61, x62, _, _, _⟩ := trip_cell R6.out; have c6 := keepC hb6 (World.block_lt_of_cell? _ _ c5) c5; have K8 := True.intro)
                    | (go_at_call 21; have hx_ := K6; clear hx_; refine (iCom _ _ _ _ _ _ _ HN.out hm (IW.out _ T4.out) B (Nat.le_trans hB0 T4.out.size) (HTE.out.on (T4.out.mono hB0))).mono ?_; rw [HCM.out.1, HCM.out.2]; rintro e w5 ⟨rfl, hb5⟩; have T5 := Lib.hid (T4.out.trans (hb5.mono T4.out.size)); have R5 := Lib.hid (keepH hb5 (Array.getElem?_eq_some_iff.1 R4.out).1 R4.out); obtain ⟨x50, x51, x52, _, _, _⟩ := trip_cell R5.out; have c5 := keepC hb5 (World.block_lt_of_cell? _ _ c4) c4; have K7 := True.intro)
                    | (go_at_call 38; have hx_ := K5; clear hx_; refine (HSU.out _ (Nat.le_trans hB0 T3.out.size) (HTZ.out.on (T3.out.mono hB0))).mono ?_; rintro e w4 ⟨rfl, hb4⟩; have T4 := Lib.hid (T3.out.trans (hb4.mono T3.out.size)); have R4 := Lib.hid (keepH hb4 (Array.getElem?_eq_some_iff.1 R3.out).1 R3.out); obtain ⟨x40, x41, x42, _, _, _⟩ := trip_cell R4.out; have c4 := keepC hb4 (World.block_lt_of_cell? _ _ c3) c3; have K6 := True.intro)
                    | (go_at_call 37; have hx_ := K4; clear hx_; refine (D2.out _).mono ?_; rintro e w_ ⟨rfl, rfl⟩; have K5 := True.intro)
                    | (go_at_call 37; have hx_ := K3; clear hx_; refine (D1.out _).mono ?_; rintro e w_ ⟨rfl, rfl⟩; have K4 := True.intro)
                    | (go_at_call 36; have hx_ := K2; clear hx_; refine (iPrm _ _ _ _ _ HN.out hm (IW.out _ T2.out)).mono ?_; rw [HPM.out]; rintro e w3 ⟨rfl, hb3⟩; have T3 := Lib.hid (T2.out.trans (hb3.mono T2.out.size)); have R3 := Lib.hid (keepH hb3 (Array.getElem?_eq_some_iff.1 R2.out).1 R2.out); obtain ⟨x30, x31, x32, _, _, _⟩ := trip_cell R3.out; have c3 := keepC hb3 (World.block_lt_of_cell? _ _ c2) c2; have K3 := True.intro)
                    | (have hx_ := K1; clear hx_; go_at_call 35; refine (iRef_no _).mono ?_; rintro e w2 ⟨rfl, hb2⟩; have T2 := Lib.hid (TA.out.trans (hb2.mono TA.out.size)); have R2 := Lib.hid (keepH hb2 (by simp) RY.out); obtain ⟨z0, z1, z2, _, _, _⟩ := trip_cell R2.out; have c2 := keepC hb2 (World.block_lt_of_cell? _ _ c1) c1; have K2 := True.intro)
                    | (go_at_call 34; refine (iFSS_yes _ _ _ _ _ _ _ HN.out hm (HI.out.below rfl T0.out) HS.out).mono ?_; rw [EP.out, EQ.out, ER.out]; rintro e w1 ⟨rfl, hb1⟩; have TA := Lib.hid ((HB.out.trans (hb1.mono (by simp))).alloc (Nat.le_trans (by simp) hb1.size) (.cells #[.int .i64 p, .int .i64 q, .int .i64 r] 45)); have RY := Lib.hid (heap_alloc_new w1 (.cells #[.int .i64 p, .int .i64 q, .int .i64 r] 45)); obtain ⟨y0, y1, y2, _, _, _⟩ := trip_cell RY.out; have c1 := keepC (hb1.alloc hb1.size (.cells #[.int .i64 p, .int .i64 q, .int .i64 r] 45)) (by simp) C1; have K1 := True.intro))
                  go_ret
                  exact ⟨by first | rfl | (rw [HKK.out]; rfl), T7.out⟩
                | false =>
                  cases B7 with
                  | true =>
                    go_enter Tryd.func19, Tryd.ntmps19
                    go_wp2_with (first
                      | (go_at_call 40; have hx_ := K12; clear hx_; refine (HPR.out _).mono ?_; rintro e w8 ⟨rfl, hb8⟩; have T8 := Lib.hid (T7.out.trans (hb8.mono T7.out.size)); have R8 := Lib.hid (keepH hb8 (Array.getElem?_eq_some_iff.1 R7.out).1 R7.out); obtain ⟨x80, x81, x82, _, _, _⟩ := trip_cell R8.out; have c8 := keepC hb8 (World.block_lt_of_cell? _ _ c7) c7; have K13 := True.intro)
                      | (go_at_call 37; have hx_ := K11; clear hx_; refine (D2.out _).mono ?_; rintro e w_ ⟨rfl, rfl⟩; have K12 := True.intro)
                      | (go_at_call 37; have hx_ := K10; clear hx_; refine (D1.out _).mono ?_; rintro e w_ ⟨rfl, rfl⟩; have K11 := True.intro)
                      | (go_at_call 37; have hx_ := K9; clear hx_; refine (D3.out _).mono ?_; rintro e w_ ⟨rfl, rfl⟩; have K10 := True.intro)
                      | (go_at_call 40; have hx_ := K8; clear hx_; refine (HPR.out _).mono ?_; rintro e w7 ⟨rfl, hb7⟩; have T7 := Lib.hid (T6.out.trans (hb7.mono T6.out.size)); have R7 := Lib.hid (keepH hb7 (Array.getElem?_eq_some_iff.1 R6.out).1 R6.out); obtain ⟨x70, x71, x72, _, _, _⟩ := trip_cell R7.out; have c7 := keepC hb7 (World.block_lt_of_cell? _ _ c6) c6; have K9 := True.intro)
                      | (go_at_call 39; have hx_ := K7; clear hx_; refine (HFU.out _).mono ?_; rintro e w6 ⟨rfl, hb6⟩; have T6 := Lib.hid (T5.out.trans (hb6.mono T5.out.size)); have R6 := Lib.hid (keepH hb6 (Array.getElem?_eq_some_iff.1 R5.out).1 R5.out); obtain ⟨x60, x61, x62, _, _, _⟩ := trip_cell R6.out; have c6 := keepC hb6 (World.block_lt_of_cell? _ _ c5) c5; have K8 := True.intro)
                      | (go_at_call 21; have hx_ := K6; clear hx_; refine (iCom _ _ _ _ _ _ _ HN.out hm (IW.out _ T4.out) B (Nat.le_trans hB0 T4.out.size) (HTE.out.on (T4.out.mono hB0))).mono ?_; rw [HCM.out.1, HCM.out.2]; rintro e w5 ⟨rfl, hb5⟩; have T5 := Lib.hid (T4.out.trans (hb5.mono T4.out.size)); have R5 := Lib.hid (keepH hb5 (Array.getElem?_eq_some_iff.1 R4.out).1 R4.out); obtain ⟨x50, x51, x52, _, _, _⟩ := trip_cell R5.out; have c5 := keepC hb5 (World.block_lt_of_cell? _ _ c4) c4; have K7 := True.intro)
                      | (go_at_call 38; have hx_ := K5; clear hx_; refine (HSU.out _ (Nat.le_trans hB0 T3.out.size) (HTZ.out.on (T3.out.mono hB0))).mono ?_; rintro e w4 ⟨rfl, hb4⟩; have T4 := Lib.hid (T3.out.trans (hb4.mono T3.out.size)); have R4 := Lib.hid (keepH hb4 (Array.getElem?_eq_some_iff.1 R3.out).1 R3.out); obtain ⟨x40, x41, x42, _, _, _⟩ := trip_cell R4.out; have c4 := keepC hb4 (World.block_lt_of_cell? _ _ c3) c3; have K6 := True.intro)
                      | (go_at_call 37; have hx_ := K4; clear hx_; refine (D2.out _).mono ?_; rintro e w_ ⟨rfl, rfl⟩; have K5 := True.intro)
                      | (go_at_call 37; have hx_ := K3; clear hx_; refine (D1.out _).mono ?_; rintro e w_ ⟨rfl, rfl⟩; have K4 := True.intro)
                      | (go_at_call 36; have hx_ := K2; clear hx_; refine (iPrm _ _ _ _ _ HN.out hm (IW.out _ T2.out)).mono ?_; rw [HPM.out]; rintro e w3 ⟨rfl, hb3⟩; have T3 := Lib.hid (T2.out.trans (hb3.mono T2.out.size)); have R3 := Lib.hid (keepH hb3 (Array.getElem?_eq_some_iff.1 R2.out).1 R2.out); obtain ⟨x30, x31, x32, _, _, _⟩ := trip_cell R3.out; have c3 := keepC hb3 (World.block_lt_of_cell? _ _ c2) c2; have K3 := True.intro)
                      | (have hx_ := K1; clear hx_; go_at_call 35; refine (iRef_no _).mono ?_; rintro e w2 ⟨rfl, hb2⟩; have T2 := Lib.hid (TA.out.trans (hb2.mono TA.out.size)); have R2 := Lib.hid (keepH hb2 (by simp) RY.out); obtain ⟨z0, z1, z2, _, _, _⟩ := trip_cell R2.out; have c2 := keepC hb2 (World.block_lt_of_cell? _ _ c1) c1; have K2 := True.intro)
                      | (go_at_call 34; refine (iFSS_yes _ _ _ _ _ _ _ HN.out hm (HI.out.below rfl T0.out) HS.out).mono ?_; rw [EP.out, EQ.out, ER.out]; rintro e w1 ⟨rfl, hb1⟩; have TA := Lib.hid ((HB.out.trans (hb1.mono (by simp))).alloc (Nat.le_trans (by simp) hb1.size) (.cells #[.int .i64 p, .int .i64 q, .int .i64 r] 45)); have RY := Lib.hid (heap_alloc_new w1 (.cells #[.int .i64 p, .int .i64 q, .int .i64 r] 45)); obtain ⟨y0, y1, y2, _, _, _⟩ := trip_cell RY.out; have c1 := keepC (hb1.alloc hb1.size (.cells #[.int .i64 p, .int .i64 q, .int .i64 r] 45)) (by simp) C1; have K1 := True.intro))
                    go_ret
                    exact ⟨by first | rfl | (rw [HKK.out]; rfl), T8.out⟩
                  | false =>
                    go_enter Tryd.func19, Tryd.ntmps19
                    go_wp2_with (first
                      | (go_at_call 40; have hx_ := K12; clear hx_; refine (HPR.out _).mono ?_; rintro e w8 ⟨rfl, hb8⟩; have T8 := Lib.hid (T7.out.trans (hb8.mono T7.out.size)); have R8 := Lib.hid (keepH hb8 (Array.getElem?_eq_some_iff.1 R7.out).1 R7.out); obtain ⟨x80, x81, x82, _, _, _⟩ := trip_cell R8.out; have c8 := keepC hb8 (World.block_lt_of_cell? _ _ c7) c7; have K13 := True.intro)
                      | (go_at_call 37; have hx_ := K11; clear hx_; refine (D2.out _).mono ?_; rintro e w_ ⟨rfl, rfl⟩; have K12 := True.intro)
                      | (go_at_call 37; have hx_ := K10; clear hx_; refine (D1.out _).mono ?_; rintro e w_ ⟨rfl, rfl⟩; have K11 := True.intro)
                      | (go_at_call 37; have hx_ := K9; clear hx_; refine (D3.out _).mono ?_; rintro e w_ ⟨rfl, rfl⟩; have K10 := True.intro)
                      | (go_at_call 40; have hx_ := K8; clear hx_; refine (HPR.out _).mono ?_; rintro e w7 ⟨rfl, hb7⟩; have T7 := Lib.hid (T6.out.trans (hb7.mono T6.out.size)); have R7 := Lib.hid (keepH hb7 (Array.getElem?_eq_some_iff.1 R6.out).1 R6.out); obtain ⟨x70, x71, x72, _, _, _⟩ := trip_cell R7.out; have c7 := keepC hb7 (World.block_lt_of_cell? _ _ c6) c6; have K9 := True.intro)
                      | (go_at_call 39; have hx_ := K7; clear hx_; refine (HFU.out _).mono ?_; rintro e w6 ⟨rfl, hb6⟩; have T6 := Lib.hid (T5.out.trans (hb6.mono T5.out.size)); have R6 := Lib.hid (keepH hb6 (Array.getElem?_eq_some_iff.1 R5.out).1 R5.out); obtain ⟨x60, x61, x62, _, _, _⟩ := trip_cell R6.out; have c6 := keepC hb6 (World.block_lt_of_cell? _ _ c5) c5; have K8 := True.intro)
                      | (go_at_call 21; have hx_ := K6; clear hx_; refine (iCom _ _ _ _ _ _ _ HN.out hm (IW.out _ T4.out) B (Nat.le_trans hB0 T4.out.size) (HTE.out.on (T4.out.mono hB0))).mono ?_; rw [HCM.out.1, HCM.out.2]; rintro e w5 ⟨rfl, hb5⟩; have T5 := Lib.hid (T4.out.trans (hb5.mono T4.out.size)); have R5 := Lib.hid (keepH hb5 (Array.getElem?_eq_some_iff.1 R4.out).1 R4.out); obtain ⟨x50, x51, x52, _, _, _⟩ := trip_cell R5.out; have c5 := keepC hb5 (World.block_lt_of_cell? _ _ c4) c4; have K7 := True.intro)
                      | (go_at_call 38; have hx_ := K5; clear hx_; refine (HSU.out _ (Nat.le_trans hB0 T3.out.size) (HTZ.out.on (T3.out.mono hB0))).mono ?_; rintro e w4 ⟨rfl, hb4⟩; have T4 := Lib.hid (T3.out.trans (hb4.mono T3.out.size)); have R4 := Lib.hid (keepH hb4 (Array.getElem?_eq_some_iff.1 R3.out).1 R3.out); obtain ⟨x40, x41, x42, _, _, _⟩ := trip_cell R4.out; have c4 := keepC hb4 (World.block_lt_of_cell? _ _ c3) c3; have K6 := True.intro)
                      | (go_at_call 37; have hx_ := K4; clear hx_; refine (D2.out _).mono ?_; rintro e w_ ⟨rfl, rfl⟩; have K5 := True.intro)
                      | (go_at_call 37; have hx_ := K3; clear hx_; refine (D1.out _).mono ?_; rintro e w_ ⟨rfl, rfl⟩; have K4 := True.intro)
                      | (go_at_call 36; have hx_ := K2; clear hx_; refine (iPrm _ _ _ _ _ HN.out hm (IW.out _ T2.out)).mono ?_; rw [HPM.out]; rintro e w3 ⟨rfl, hb3⟩; have T3 := Lib.hid (T2.out.trans (hb3.mono T2.out.size)); have R3 := Lib.hid (keepH hb3 (Array.getElem?_eq_some_iff.1 R2.out).1 R2.out); obtain ⟨x30, x31, x32, _, _, _⟩ := trip_cell R3.out; have c3 := keepC hb3 (World.block_lt_of_cell? _ _ c2) c2; have K3 := True.intro)
                      | (have hx_ := K1; clear hx_; go_at_call 35; refine (iRef_no _).mono ?_; rintro e w2 ⟨rfl, hb2⟩; have T2 := Lib.hid (TA.out.trans (hb2.mono TA.out.size)); have R2 := Lib.hid (keepH hb2 (by simp) RY.out); obtain ⟨z0, z1, z2, _, _, _⟩ := trip_cell R2.out; have c2 := keepC hb2 (World.block_lt_of_cell? _ _ c1) c1; have K2 := True.intro)
                      | (go_at_call 34; refine (iFSS_yes _ _ _ _ _ _ _ HN.out hm (HI.out.below rfl T0.out) HS.out).mono ?_; rw [EP.out, EQ.out, ER.out]; rintro e w1 ⟨rfl, hb1⟩; have TA := Lib.hid ((HB.out.trans (hb1.mono (by simp))).alloc (Nat.le_trans (by simp) hb1.size) (.cells #[.int .i64 p, .int .i64 q, .int .i64 r] 45)); have RY := Lib.hid (heap_alloc_new w1 (.cells #[.int .i64 p, .int .i64 q, .int .i64 r] 45)); obtain ⟨y0, y1, y2, _, _, _⟩ := trip_cell RY.out; have c1 := keepC (hb1.alloc hb1.size (.cells #[.int .i64 p, .int .i64 q, .int .i64 r] 45)) (by simp) C1; have K1 := True.intro))
                    go_ret
                    exact ⟨by first | rfl | (rw [HKK.out]; rfl), T8.out⟩
      | false =>
        cases B3 with
        | false =>
          rw [Bool.not_false] at hB3n
          go_enter Tryd.func19, Tryd.ntmps19
          go_wp2_with (first
            | (go_at_call 37; have hx_ := K8; clear hx_; refine (D3.out _).mono ?_; rintro e w_ ⟨rfl, rfl⟩; have K9 := True.intro)
            | (go_at_call 39; have hx_ := K7; clear hx_; refine (HFU.out _).mono ?_; rintro e w6 ⟨rfl, hb6⟩; have T6 := Lib.hid (T5.out.trans (hb6.mono T5.out.size)); have R6 := Lib.hid (keepH hb6 (Array.getElem?_eq_some_iff.1 R5.out).1 R5.out); obtain ⟨x60, x61, x62, _, _, _⟩ := trip_cell R6.out; have c6 := keepC hb6 (World.block_lt_of_cell? _ _ c5) c5; have K8 := True.intro)
            | (go_at_call 21; have hx_ := K6; clear hx_; refine (iCom _ _ _ _ _ _ _ HN.out hm (IW.out _ T4.out) B (Nat.le_trans hB0 T4.out.size) (HTE.out.on (T4.out.mono hB0))).mono ?_; rw [HCM.out.1, HCM.out.2]; rintro e w5 ⟨rfl, hb5⟩; have T5 := Lib.hid (T4.out.trans (hb5.mono T4.out.size)); have R5 := Lib.hid (keepH hb5 (Array.getElem?_eq_some_iff.1 R4.out).1 R4.out); obtain ⟨x50, x51, x52, _, _, _⟩ := trip_cell R5.out; have c5 := keepC hb5 (World.block_lt_of_cell? _ _ c4) c4; have K7 := True.intro)
            | (go_at_call 38; have hx_ := K5; clear hx_; refine (HSU.out _ (Nat.le_trans hB0 T3.out.size) (HTZ.out.on (T3.out.mono hB0))).mono ?_; rintro e w4 ⟨rfl, hb4⟩; have T4 := Lib.hid (T3.out.trans (hb4.mono T3.out.size)); have R4 := Lib.hid (keepH hb4 (Array.getElem?_eq_some_iff.1 R3.out).1 R3.out); obtain ⟨x40, x41, x42, _, _, _⟩ := trip_cell R4.out; have c4 := keepC hb4 (World.block_lt_of_cell? _ _ c3) c3; have K6 := True.intro)
            | (go_at_call 37; have hx_ := K4; clear hx_; refine (D2.out _).mono ?_; rintro e w_ ⟨rfl, rfl⟩; have K5 := True.intro)
            | (go_at_call 37; have hx_ := K3; clear hx_; refine (D1.out _).mono ?_; rintro e w_ ⟨rfl, rfl⟩; have K4 := True.intro)
            | (go_at_call 36; have hx_ := K2; clear hx_; refine (iPrm _ _ _ _ _ HN.out hm (IW.out _ T2.out)).mono ?_; rw [HPM.out]; rintro e w3 ⟨rfl, hb3⟩; have T3 := Lib.hid (T2.out.trans (hb3.mono T2.out.size)); have R3 := Lib.hid (keepH hb3 (Array.getElem?_eq_some_iff.1 R2.out).1 R2.out); obtain ⟨x30, x31, x32, _, _, _⟩ := trip_cell R3.out; have c3 := keepC hb3 (World.block_lt_of_cell? _ _ c2) c2; have K3 := True.intro)
            | (have hx_ := K1; clear hx_; go_at_call 35; refine (iRef_no _).mono ?_; rintro e w2 ⟨rfl, hb2⟩; have T2 := Lib.hid (TA.out.trans (hb2.mono TA.out.size)); have R2 := Lib.hid (keepH hb2 (by simp) RY.out); obtain ⟨z0, z1, z2, _, _, _⟩ := trip_cell R2.out; have c2 := keepC hb2 (World.block_lt_of_cell? _ _ c1) c1; have K2 := True.intro)
            | (go_at_call 34; refine (iFSS_yes _ _ _ _ _ _ _ HN.out hm (HI.out.below rfl T0.out) HS.out).mono ?_; rw [EP.out, EQ.out, ER.out]; rintro e w1 ⟨rfl, hb1⟩; have TA := Lib.hid ((HB.out.trans (hb1.mono (by simp))).alloc (Nat.le_trans (by simp) hb1.size) (.cells #[.int .i64 p, .int .i64 q, .int .i64 r] 45)); have RY := Lib.hid (heap_alloc_new w1 (.cells #[.int .i64 p, .int .i64 q, .int .i64 r] 45)); obtain ⟨y0, y1, y2, _, _, _⟩ := trip_cell RY.out; have c1 := keepC (hb1.alloc hb1.size (.cells #[.int .i64 p, .int .i64 q, .int .i64 r] 45)) (by simp) C1; have K1 := True.intro))
          go_ret
          exact ⟨by first | rfl | (rw [HKK.out]; rfl), T6.out⟩
        | true =>
          rw [Bool.not_true] at hB3n
          cases B4 with
          | true =>
            go_enter Tryd.func19, Tryd.ntmps19
            go_wp2_with (first
              | (go_at_call 37; have hx_ := K9; clear hx_; refine (D1.out _).mono ?_; rintro e w_ ⟨rfl, rfl⟩; have K10 := True.intro)
              | (go_at_call 37; have hx_ := K8; clear hx_; refine (D3.out _).mono ?_; rintro e w_ ⟨rfl, rfl⟩; have K9 := True.intro)
              | (go_at_call 39; have hx_ := K7; clear hx_; refine (HFU.out _).mono ?_; rintro e w6 ⟨rfl, hb6⟩; have T6 := Lib.hid (T5.out.trans (hb6.mono T5.out.size)); have R6 := Lib.hid (keepH hb6 (Array.getElem?_eq_some_iff.1 R5.out).1 R5.out); obtain ⟨x60, x61, x62, _, _, _⟩ := trip_cell R6.out; have c6 := keepC hb6 (World.block_lt_of_cell? _ _ c5) c5; have K8 := True.intro)
              | (go_at_call 21; have hx_ := K6; clear hx_; refine (iCom _ _ _ _ _ _ _ HN.out hm (IW.out _ T4.out) B (Nat.le_trans hB0 T4.out.size) (HTE.out.on (T4.out.mono hB0))).mono ?_; rw [HCM.out.1, HCM.out.2]; rintro e w5 ⟨rfl, hb5⟩; have T5 := Lib.hid (T4.out.trans (hb5.mono T4.out.size)); have R5 := Lib.hid (keepH hb5 (Array.getElem?_eq_some_iff.1 R4.out).1 R4.out); obtain ⟨x50, x51, x52, _, _, _⟩ := trip_cell R5.out; have c5 := keepC hb5 (World.block_lt_of_cell? _ _ c4) c4; have K7 := True.intro)
              | (go_at_call 38; have hx_ := K5; clear hx_; refine (HSU.out _ (Nat.le_trans hB0 T3.out.size) (HTZ.out.on (T3.out.mono hB0))).mono ?_; rintro e w4 ⟨rfl, hb4⟩; have T4 := Lib.hid (T3.out.trans (hb4.mono T3.out.size)); have R4 := Lib.hid (keepH hb4 (Array.getElem?_eq_some_iff.1 R3.out).1 R3.out); obtain ⟨x40, x41, x42, _, _, _⟩ := trip_cell R4.out; have c4 := keepC hb4 (World.block_lt_of_cell? _ _ c3) c3; have K6 := True.intro)
              | (go_at_call 37; have hx_ := K4; clear hx_; refine (D2.out _).mono ?_; rintro e w_ ⟨rfl, rfl⟩; have K5 := True.intro)
              | (go_at_call 37; have hx_ := K3; clear hx_; refine (D1.out _).mono ?_; rintro e w_ ⟨rfl, rfl⟩; have K4 := True.intro)
              | (go_at_call 36; have hx_ := K2; clear hx_; refine (iPrm _ _ _ _ _ HN.out hm (IW.out _ T2.out)).mono ?_; rw [HPM.out]; rintro e w3 ⟨rfl, hb3⟩; have T3 := Lib.hid (T2.out.trans (hb3.mono T2.out.size)); have R3 := Lib.hid (keepH hb3 (Array.getElem?_eq_some_iff.1 R2.out).1 R2.out); obtain ⟨x30, x31, x32, _, _, _⟩ := trip_cell R3.out; have c3 := keepC hb3 (World.block_lt_of_cell? _ _ c2) c2; have K3 := True.intro)
              | (have hx_ := K1; clear hx_; go_at_call 35; refine (iRef_no _).mono ?_; rintro e w2 ⟨rfl, hb2⟩; have T2 := Lib.hid (TA.out.trans (hb2.mono TA.out.size)); have R2 := Lib.hid (keepH hb2 (by simp) RY.out); obtain ⟨z0, z1, z2, _, _, _⟩ := trip_cell R2.out; have c2 := keepC hb2 (World.block_lt_of_cell? _ _ c1) c1; have K2 := True.intro)
              | (go_at_call 34; refine (iFSS_yes _ _ _ _ _ _ _ HN.out hm (HI.out.below rfl T0.out) HS.out).mono ?_; rw [EP.out, EQ.out, ER.out]; rintro e w1 ⟨rfl, hb1⟩; have TA := Lib.hid ((HB.out.trans (hb1.mono (by simp))).alloc (Nat.le_trans (by simp) hb1.size) (.cells #[.int .i64 p, .int .i64 q, .int .i64 r] 45)); have RY := Lib.hid (heap_alloc_new w1 (.cells #[.int .i64 p, .int .i64 q, .int .i64 r] 45)); obtain ⟨y0, y1, y2, _, _, _⟩ := trip_cell RY.out; have c1 := keepC (hb1.alloc hb1.size (.cells #[.int .i64 p, .int .i64 q, .int .i64 r] 45)) (by simp) C1; have K1 := True.intro))
            go_ret
            exact ⟨by first | rfl | (rw [HKK.out]; rfl), T6.out⟩
          | false =>
            cases B5 with
            | true =>
              go_enter Tryd.func19, Tryd.ntmps19
              go_wp2_with (first
                | (go_at_call 37; have hx_ := K10; clear hx_; refine (D2.out _).mono ?_; rintro e w_ ⟨rfl, rfl⟩; have K11 := True.intro)
                | (go_at_call 37; have hx_ := K9; clear hx_; refine (D1.out _).mono ?_; rintro e w_ ⟨rfl, rfl⟩; have K10 := True.intro)
                | (go_at_call 37; have hx_ := K8; clear hx_; refine (D3.out _).mono ?_; rintro e w_ ⟨rfl, rfl⟩; have K9 := True.intro)
                | (go_at_call 39; have hx_ := K7; clear hx_; refine (HFU.out _).mono ?_; rintro e w6 ⟨rfl, hb6⟩; have T6 := Lib.hid (T5.out.trans (hb6.mono T5.out.size)); have R6 := Lib.hid (keepH hb6 (Array.getElem?_eq_some_iff.1 R5.out).1 R5.out); obtain ⟨x60, x61, x62, _, _, _⟩ := trip_cell R6.out; have c6 := keepC hb6 (World.block_lt_of_cell? _ _ c5) c5; have K8 := True.intro)
                | (go_at_call 21; have hx_ := K6; clear hx_; refine (iCom _ _ _ _ _ _ _ HN.out hm (IW.out _ T4.out) B (Nat.le_trans hB0 T4.out.size) (HTE.out.on (T4.out.mono hB0))).mono ?_; rw [HCM.out.1, HCM.out.2]; rintro e w5 ⟨rfl, hb5⟩; have T5 := Lib.hid (T4.out.trans (hb5.mono T4.out.size)); have R5 := Lib.hid (keepH hb5 (Array.getElem?_eq_some_iff.1 R4.out).1 R4.out); obtain ⟨x50, x51, x52, _, _, _⟩ := trip_cell R5.out; have c5 := keepC hb5 (World.block_lt_of_cell? _ _ c4) c4; have K7 := True.intro)
                | (go_at_call 38; have hx_ := K5; clear hx_; refine (HSU.out _ (Nat.le_trans hB0 T3.out.size) (HTZ.out.on (T3.out.mono hB0))).mono ?_; rintro e w4 ⟨rfl, hb4⟩; have T4 := Lib.hid (T3.out.trans (hb4.mono T3.out.size)); have R4 := Lib.hid (keepH hb4 (Array.getElem?_eq_some_iff.1 R3.out).1 R3.out); obtain ⟨x40, x41, x42, _, _, _⟩ := trip_cell R4.out; have c4 := keepC hb4 (World.block_lt_of_cell? _ _ c3) c3; have K6 := True.intro)
                | (go_at_call 37; have hx_ := K4; clear hx_; refine (D2.out _).mono ?_; rintro e w_ ⟨rfl, rfl⟩; have K5 := True.intro)
                | (go_at_call 37; have hx_ := K3; clear hx_; refine (D1.out _).mono ?_; rintro e w_ ⟨rfl, rfl⟩; have K4 := True.intro)
                | (go_at_call 36; have hx_ := K2; clear hx_; refine (iPrm _ _ _ _ _ HN.out hm (IW.out _ T2.out)).mono ?_; rw [HPM.out]; rintro e w3 ⟨rfl, hb3⟩; have T3 := Lib.hid (T2.out.trans (hb3.mono T2.out.size)); have R3 := Lib.hid (keepH hb3 (Array.getElem?_eq_some_iff.1 R2.out).1 R2.out); obtain ⟨x30, x31, x32, _, _, _⟩ := trip_cell R3.out; have c3 := keepC hb3 (World.block_lt_of_cell? _ _ c2) c2; have K3 := True.intro)
                | (have hx_ := K1; clear hx_; go_at_call 35; refine (iRef_no _).mono ?_; rintro e w2 ⟨rfl, hb2⟩; have T2 := Lib.hid (TA.out.trans (hb2.mono TA.out.size)); have R2 := Lib.hid (keepH hb2 (by simp) RY.out); obtain ⟨z0, z1, z2, _, _, _⟩ := trip_cell R2.out; have c2 := keepC hb2 (World.block_lt_of_cell? _ _ c1) c1; have K2 := True.intro)
                | (go_at_call 34; refine (iFSS_yes _ _ _ _ _ _ _ HN.out hm (HI.out.below rfl T0.out) HS.out).mono ?_; rw [EP.out, EQ.out, ER.out]; rintro e w1 ⟨rfl, hb1⟩; have TA := Lib.hid ((HB.out.trans (hb1.mono (by simp))).alloc (Nat.le_trans (by simp) hb1.size) (.cells #[.int .i64 p, .int .i64 q, .int .i64 r] 45)); have RY := Lib.hid (heap_alloc_new w1 (.cells #[.int .i64 p, .int .i64 q, .int .i64 r] 45)); obtain ⟨y0, y1, y2, _, _, _⟩ := trip_cell RY.out; have c1 := keepC (hb1.alloc hb1.size (.cells #[.int .i64 p, .int .i64 q, .int .i64 r] 45)) (by simp) C1; have K1 := True.intro))
              go_ret
              exact ⟨by first | rfl | (rw [HKK.out]; rfl), T6.out⟩
            | false =>
              cases CB with
              | true =>
                go_enter Tryd.func19, Tryd.ntmps19
                go_wp2_with (first
                  | (go_at_call 37; have hx_ := K10; clear hx_; refine (D2.out _).mono ?_; rintro e w_ ⟨rfl, rfl⟩; have K11 := True.intro)
                  | (go_at_call 37; have hx_ := K9; clear hx_; refine (D1.out _).mono ?_; rintro e w_ ⟨rfl, rfl⟩; have K10 := True.intro)
                  | (go_at_call 37; have hx_ := K8; clear hx_; refine (D3.out _).mono ?_; rintro e w_ ⟨rfl, rfl⟩; have K9 := True.intro)
                  | (go_at_call 39; have hx_ := K7; clear hx_; refine (HFU.out _).mono ?_; rintro e w6 ⟨rfl, hb6⟩; have T6 := Lib.hid (T5.out.trans (hb6.mono T5.out.size)); have R6 := Lib.hid (keepH hb6 (Array.getElem?_eq_some_iff.1 R5.out).1 R5.out); obtain ⟨x60, x61, x62, _, _, _⟩ := trip_cell R6.out; have c6 := keepC hb6 (World.block_lt_of_cell? _ _ c5) c5; have K8 := True.intro)
                  | (go_at_call 21; have hx_ := K6; clear hx_; refine (iCom _ _ _ _ _ _ _ HN.out hm (IW.out _ T4.out) B (Nat.le_trans hB0 T4.out.size) (HTE.out.on (T4.out.mono hB0))).mono ?_; rw [HCM.out.1, HCM.out.2]; rintro e w5 ⟨rfl, hb5⟩; have T5 := Lib.hid (T4.out.trans (hb5.mono T4.out.size)); have R5 := Lib.hid (keepH hb5 (Array.getElem?_eq_some_iff.1 R4.out).1 R4.out); obtain ⟨x50, x51, x52, _, _, _⟩ := trip_cell R5.out; have c5 := keepC hb5 (World.block_lt_of_cell? _ _ c4) c4; have K7 := True.intro)
                  | (go_at_call 38; have hx_ := K5; clear hx_; refine (HSU.out _ (Nat.le_trans hB0 T3.out.size) (HTZ.out.on (T3.out.mono hB0))).mono ?_; rintro e w4 ⟨rfl, hb4⟩; have T4 := Lib.hid (T3.out.trans (hb4.mono T3.out.size)); have R4 := Lib.hid (keepH hb4 (Array.getElem?_eq_some_iff.1 R3.out).1 R3.out); obtain ⟨x40, x41, x42, _, _, _⟩ := trip_cell R4.out; have c4 := keepC hb4 (World.block_lt_of_cell? _ _ c3) c3; have K6 := True.intro)
                  | (go_at_call 37; have hx_ := K4; clear hx_; refine (D2.out _).mono ?_; rintro e w_ ⟨rfl, rfl⟩; have K5 := True.intro)
                  | (go_at_call 37; have hx_ := K3; clear hx_; refine (D1.out _).mono ?_; rintro e w_ ⟨rfl, rfl⟩; have K4 := True.intro)
                  | (go_at_call 36; have hx_ := K2; clear hx_; refine (iPrm _ _ _ _ _ HN.out hm (IW.out _ T2.out)).mono ?_; rw [HPM.out]; rintro e w3 ⟨rfl, hb3⟩; have T3 := Lib.hid (T2.out.trans (hb3.mono T2.out.size)); have R3 := Lib.hid (keepH hb3 (Array.getElem?_eq_some_iff.1 R2.out).1 R2.out); obtain ⟨x30, x31, x32, _, _, _⟩ := trip_cell R3.out; have c3 := keepC hb3 (World.block_lt_of_cell? _ _ c2) c2; have K3 := True.intro)
                  | (have hx_ := K1; clear hx_; go_at_call 35; refine (iRef_no _).mono ?_; rintro e w2 ⟨rfl, hb2⟩; have T2 := Lib.hid (TA.out.trans (hb2.mono TA.out.size)); have R2 := Lib.hid (keepH hb2 (by simp) RY.out); obtain ⟨z0, z1, z2, _, _, _⟩ := trip_cell R2.out; have c2 := keepC hb2 (World.block_lt_of_cell? _ _ c1) c1; have K2 := True.intro)
                  | (go_at_call 34; refine (iFSS_yes _ _ _ _ _ _ _ HN.out hm (HI.out.below rfl T0.out) HS.out).mono ?_; rw [EP.out, EQ.out, ER.out]; rintro e w1 ⟨rfl, hb1⟩; have TA := Lib.hid ((HB.out.trans (hb1.mono (by simp))).alloc (Nat.le_trans (by simp) hb1.size) (.cells #[.int .i64 p, .int .i64 q, .int .i64 r] 45)); have RY := Lib.hid (heap_alloc_new w1 (.cells #[.int .i64 p, .int .i64 q, .int .i64 r] 45)); obtain ⟨y0, y1, y2, _, _, _⟩ := trip_cell RY.out; have c1 := keepC (hb1.alloc hb1.size (.cells #[.int .i64 p, .int .i64 q, .int .i64 r] 45)) (by simp) C1; have K1 := True.intro))
                go_ret
                exact ⟨by first | rfl | (rw [HKK.out]; rfl), T6.out⟩
              | false =>
                cases B7 with
                | true =>
                  go_enter Tryd.func19, Tryd.ntmps19
                  go_wp2_with (first
                    | (go_at_call 40; have hx_ := K11; clear hx_; refine (HPR.out _).mono ?_; rintro e w7 ⟨rfl, hb7⟩; have T7 := Lib.hid (T6.out.trans (hb7.mono T6.out.size)); have R7 := Lib.hid (keepH hb7 (Array.getElem?_eq_some_iff.1 R6.out).1 R6.out); obtain ⟨x70, x71, x72, _, _, _⟩ := trip_cell R7.out; have c7 := keepC hb7 (World.block_lt_of_cell? _ _ c6) c6; have K12 := True.intro)
                    | (go_at_call 37; have hx_ := K10; clear hx_; refine (D2.out _).mono ?_; rintro e w_ ⟨rfl, rfl⟩; have K11 := True.intro)
                    | (go_at_call 37; have hx_ := K9; clear hx_; refine (D1.out _).mono ?_; rintro e w_ ⟨rfl, rfl⟩; have K10 := True.intro)
                    | (go_at_call 37; have hx_ := K8; clear hx_; refine (D3.out _).mono ?_; rintro e w_ ⟨rfl, rfl⟩; have K9 := True.intro)
                    | (go_at_call 39; have hx_ := K7; clear hx_; refine (HFU.out _).mono ?_; rintro e w6 ⟨rfl, hb6⟩; have T6 := Lib.hid (T5.out.trans (hb6.mono T5.out.size)); have R6 := Lib.hid (keepH hb6 (Array.getElem?_eq_some_iff.1 R5.out).1 R5.out); obtain ⟨x60, x61, x62, _, _, _⟩ := trip_cell R6.out; have c6 := keepC hb6 (World.block_lt_of_cell? _ _ c5) c5; have K8 := True.intro)
                    | (go_at_call 21; have hx_ := K6; clear hx_; refine (iCom _ _ _ _ _ _ _ HN.out hm (IW.out _ T4.out) B (Nat.le_trans hB0 T4.out.size) (HTE.out.on (T4.out.mono hB0))).mono ?_; rw [HCM.out.1, HCM.out.2]; rintro e w5 ⟨rfl, hb5⟩; have T5 := Lib.hid (T4.out.trans (hb5.mono T4.out.size)); have R5 := Lib.hid (keepH hb5 (Array.getElem?_eq_some_iff.1 R4.out).1 R4.out); obtain ⟨x50, x51, x52, _, _, _⟩ := trip_cell R5.out; have c5 := keepC hb5 (World.block_lt_of_cell? _ _ c4) c4; have K7 := True.intro)
                    | (go_at_call 38; have hx_ := K5; clear hx_; refine (HSU.out _ (Nat.le_trans hB0 T3.out.size) (HTZ.out.on (T3.out.mono hB0))).mono ?_; rintro e w4 ⟨rfl, hb4⟩; have T4 := Lib.hid (T3.out.trans (hb4.mono T3.out.size)); have R4 := Lib.hid (keepH hb4 (Array.getElem?_eq_some_iff.1 R3.out).1 R3.out); obtain ⟨x40, x41, x42, _, _, _⟩ := trip_cell R4.out; have c4 := keepC hb4 (World.block_lt_of_cell? _ _ c3) c3; have K6 := True.intro)
                    | (go_at_call 37; have hx_ := K4; clear hx_; refine (D2.out _).mono ?_; rintro e w_ ⟨rfl, rfl⟩; have K5 := True.intro)
                    | (go_at_call 37; have hx_ := K3; clear hx_; refine (D1.out _).mono ?_; rintro e w_ ⟨rfl, rfl⟩; have K4 := True.intro)
                    | (go_at_call 36; have hx_ := K2; clear hx_; refine (iPrm _ _ _ _ _ HN.out hm (IW.out _ T2.out)).mono ?_; rw [HPM.out]; rintro e w3 ⟨rfl, hb3⟩; have T3 := Lib.hid (T2.out.trans (hb3.mono T2.out.size)); have R3 := Lib.hid (keepH hb3 (Array.getElem?_eq_some_iff.1 R2.out).1 R2.out); obtain ⟨x30, x31, x32, _, _, _⟩ := trip_cell R3.out; have c3 := keepC hb3 (World.block_lt_of_cell? _ _ c2) c2; have K3 := True.intro)
                    | (have hx_ := K1; clear hx_; go_at_call 35; refine (iRef_no _).mono ?_; rintro e w2 ⟨rfl, hb2⟩; have T2 := Lib.hid (TA.out.trans (hb2.mono TA.out.size)); have R2 := Lib.hid (keepH hb2 (by simp) RY.out); obtain ⟨z0, z1, z2, _, _, _⟩ := trip_cell R2.out; have c2 := keepC hb2 (World.block_lt_of_cell? _ _ c1) c1; have K2 := True.intro)
                    | (go_at_call 34; refine (iFSS_yes _ _ _ _ _ _ _ HN.out hm (HI.out.below rfl T0.out) HS.out).mono ?_; rw [EP.out, EQ.out, ER.out]; rintro e w1 ⟨rfl, hb1⟩; have TA := Lib.hid ((HB.out.trans (hb1.mono (by simp))).alloc (Nat.le_trans (by simp) hb1.size) (.cells #[.int .i64 p, .int .i64 q, .int .i64 r] 45)); have RY := Lib.hid (heap_alloc_new w1 (.cells #[.int .i64 p, .int .i64 q, .int .i64 r] 45)); obtain ⟨y0, y1, y2, _, _, _⟩ := trip_cell RY.out; have c1 := keepC (hb1.alloc hb1.size (.cells #[.int .i64 p, .int .i64 q, .int .i64 r] 45)) (by simp) C1; have K1 := True.intro))
                  go_ret
                  exact ⟨by first | rfl | (rw [HKK.out]; rfl), T7.out⟩
                | false =>
                  go_enter Tryd.func19, Tryd.ntmps19
                  go_wp2_with (first
                    | (go_at_call 40; have hx_ := K11; clear hx_; refine (HPR.out _).mono ?_; rintro e w7 ⟨rfl, hb7⟩; have T7 := Lib.hid (T6.out.trans (hb7.mono T6.out.size)); have R7 := Lib.hid (keepH hb7 (Array.getElem?_eq_some_iff.1 R6.out).1 R6.out); obtain ⟨x70, x71, x72, _, _, _⟩ := trip_cell R7.out; have c7 := keepC hb7 (World.block_lt_of_cell? _ _ c6) c6; have K12 := True.intro)
                    | (go_at_call 37; have hx_ := K10; clear hx_; refine (D2.out _).mono ?_; rintro e w_ ⟨rfl, rfl⟩; have K11 := True.intro)
                    | (go_at_call 37; have hx_ := K9; clear hx_; refine (D1.out _).mono ?_; rintro e w_ ⟨rfl, rfl⟩; have K10 := True.intro)
                    | (go_at_call 37; have hx_ := K8; clear hx_; refine (D3.out _).mono ?_; rintro e w_ ⟨rfl, rfl⟩; have K9 := True.intro)
                    | (go_at_call 39; have hx_ := K7; clear hx_; refine (HFU.out _).mono ?_; rintro e w6 ⟨rfl, hb6⟩; have T6 := Lib.hid (T5.out.trans (hb6.mono T5.out.size)); have R6 := Lib.hid (keepH hb6 (Array.getElem?_eq_some_iff.1 R5.out).1 R5.out); obtain ⟨x60, x61, x62, _, _, _⟩ := trip_cell R6.out; have c6 := keepC hb6 (World.block_lt_of_cell? _ _ c5) c5; have K8 := True.intro)
                    | (go_at_call 21; have hx_ := K6; clear hx_; refine (iCom _ _ _ _ _ _ _ HN.out hm (IW.out _ T4.out) B (Nat.le_trans hB0 T4.out.size) (HTE.out.on (T4.out.mono hB0))).mono ?_; rw [HCM.out.1, HCM.out.2]; rintro e w5 ⟨rfl, hb5⟩; have T5 := Lib.hid (T4.out.trans (hb5.mono T4.out.size)); have R5 := Lib.hid (keepH hb5 (Array.getElem?_eq_some_iff.1 R4.out).1 R4.out); obtain ⟨x50, x51, x52, _, _, _⟩ := trip_cell R5.out; have c5 := keepC hb5 (World.block_lt_of_cell? _ _ c4) c4; have K7 := True.intro)
                    | (go_at_call 38; have hx_ := K5; clear hx_; refine (HSU.out _ (Nat.le_trans hB0 T3.out.size) (HTZ.out.on (T3.out.mono hB0))).mono ?_; rintro e w4 ⟨rfl, hb4⟩; have T4 := Lib.hid (T3.out.trans (hb4.mono T3.out.size)); have R4 := Lib.hid (keepH hb4 (Array.getElem?_eq_some_iff.1 R3.out).1 R3.out); obtain ⟨x40, x41, x42, _, _, _⟩ := trip_cell R4.out; have c4 := keepC hb4 (World.block_lt_of_cell? _ _ c3) c3; have K6 := True.intro)
                    | (go_at_call 37; have hx_ := K4; clear hx_; refine (D2.out _).mono ?_; rintro e w_ ⟨rfl, rfl⟩; have K5 := True.intro)
                    | (go_at_call 37; have hx_ := K3; clear hx_; refine (D1.out _).mono ?_; rintro e w_ ⟨rfl, rfl⟩; have K4 := True.intro)
                    | (go_at_call 36; have hx_ := K2; clear hx_; refine (iPrm _ _ _ _ _ HN.out hm (IW.out _ T2.out)).mono ?_; rw [HPM.out]; rintro e w3 ⟨rfl, hb3⟩; have T3 := Lib.hid (T2.out.trans (hb3.mono T2.out.size)); have R3 := Lib.hid (keepH hb3 (Array.getElem?_eq_some_iff.1 R2.out).1 R2.out); obtain ⟨x30, x31, x32, _, _, _⟩ := trip_cell R3.out; have c3 := keepC hb3 (World.block_lt_of_cell? _ _ c2) c2; have K3 := True.intro)
                    | (have hx_ := K1; clear hx_; go_at_call 35; refine (iRef_no _).mono ?_; rintro e w2 ⟨rfl, hb2⟩; have T2 := Lib.hid (TA.out.trans (hb2.mono TA.out.size)); have R2 := Lib.hid (keepH hb2 (by simp) RY.out); obtain ⟨z0, z1, z2, _, _, _⟩ := trip_cell R2.out; have c2 := keepC hb2 (World.block_lt_of_cell? _ _ c1) c1; have K2 := True.intro)
                    | (go_at_call 34; refine (iFSS_yes _ _ _ _ _ _ _ HN.out hm (HI.out.below rfl T0.out) HS.out).mono ?_; rw [EP.out, EQ.out, ER.out]; rintro e w1 ⟨rfl, hb1⟩; have TA := Lib.hid ((HB.out.trans (hb1.mono (by simp))).alloc (Nat.le_trans (by simp) hb1.size) (.cells #[.int .i64 p, .int .i64 q, .int .i64 r] 45)); have RY := Lib.hid (heap_alloc_new w1 (.cells #[.int .i64 p, .int .i64 q, .int .i64 r] 45)); obtain ⟨y0, y1, y2, _, _, _⟩ := trip_cell RY.out; have c1 := keepC (hb1.alloc hb1.size (.cells #[.int .i64 p, .int .i64 q, .int .i64 r] 45)) (by simp) C1; have K1 := True.intro))
                  go_ret
                  exact ⟨by first | rfl | (rw [HKK.out]; rfl), T7.out⟩
end Go.Proofs.YtfkleihnafeoeaaDoor
