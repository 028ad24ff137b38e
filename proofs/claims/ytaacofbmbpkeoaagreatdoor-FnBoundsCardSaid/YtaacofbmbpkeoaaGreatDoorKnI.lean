/- The program's own IsKneserTight and ChowlaHolds. -/
import Derived.Test.YtaacofbmbpkeoaaGreatDoorKnG
import Derived.Test.YtaacofbmbpkeoaaGreatDoorMGAT
import Derived.Test.YtaacofbmbpkeoaaGreatDoorMGAS
import Derived.Deep.RegionHeld3
import Derived.Deep.DeepCutAuto
namespace Go.Proofs.YtaacofbmbpkeoaaGreatDoor
open Go.RowKit Go.Shelf
attribute [local go_sem] Oper.semAt_some
set_option maxRecDepth 1000000
set_option maxHeartbeats 4000000 in
theorem iTgt (w : World) (a : Option Addr) (l : List Int) (n cap : Nat) (s t : Int) (hn : n = l.length) (hm : n ≤ 9223372036854775807) (hi : Ints w a l) (B : Nat) (hB0 : B ≤ w.heap.size) (ht : TabE B w) :
    Calls Tryz.prog 18 #[.agg #[.slice a n cap], .int .i64 s, .int .i64 t] w fun e w' => e = .returned (.bool (tgtB l s t)) ∧ Below w.heap.size w w' := by
  have HTZ := Lib.hid ht.1
  have HER := Lib.hid ht.2
  have HTE := Lib.hid ht
  clear ht
  have HI := Lib.hid (ints_alloc hi (.cells #[.slice a n cap] 26))
  have HN := Lib.hid hn
  have C1 := newC w (.slice a n cap) 26 (n := w.heap.size) rfl
  have HB := Lib.hid (Joins.below_alloc1 w (.cells #[.slice a n cap] 26))
  have T0 := Lib.hid (Below.refl (w.alloc (.cells #[.slice a n cap] 26)).heap.size (w.alloc (.cells #[.slice a n cap] 26)))
  clear hi hn
  cases hs : neB l s t with
  | false =>
    obtain ⟨k1, k2, k3, k4, k5, k6, k7⟩ := kp_no hs
    have HK := Lib.hid k4
    rw [k7]
    have hv : ((-1 : Int) != -1) = false := rfl
    clear hs k1 k2 k3 k4 k5 k6 k7
    go_enter Tryz.func18, Tryz.ntmps18
    go_upto_region 2 with (first | (go_at_call 12; refine (iKn _ _ _ _ _ _ _ HN.out hm (HI.out.below rfl T0.out) B (Nat.le_trans hB0 HB.out.size) (HTE.out.on (HB.out.mono hB0))).mono ?_; rw [HK.out]; rintro e w1 ⟨rfl, hb1⟩; have T1 := Lib.hid (T0.out.trans (hb1.mono T0.out.size)); have c1 := keepC T1.out (by simp) C1))
    have TD := Lib.hid T1.out.drew
    refine wp_region_held_drew (S := (fun W => W.cell? ⟨w.heap.size, 0, none⟩ = some (.slice a n cap))) (by kernel_rfl) (c1) (fun hHeld => ?_)
    refine wpAnyH_take (i := 0) (oi := _) (v := ?_) rfl (by as_aux_lemma => kernel_rfl) (by as_aux_lemma => kernel_rfl) (by as_aux_lemma => kernel_rfl) (fun _ _ _ h => h) (Or.inl ⟨by rfl, ?_⟩) (by assumption) ?_
    rotate_left
    · intro W' hSw
      try dsimp only at hSw
      simp only [List.getElem_toArray, List.getElem_cons_zero]
      go_simp
      try with_reducible rfl
    try simp only [Act.put, List.getElem_toArray, List.getElem_cons_zero, List.setIfInBounds_toArray, List.set_cons_zero, List.set_cons_succ]
    refine wpAnyH_take (i := 1) (oi := _) (v := ?_) rfl (by as_aux_lemma => kernel_rfl) (by as_aux_lemma => kernel_rfl) (by as_aux_lemma => kernel_rfl) (fun _ _ _ h => h) (Or.inl ⟨by rfl, ?_⟩) (by assumption) ?_
    rotate_left
    · intro W' hSw
      try dsimp only at hSw
      simp only [List.getElem_toArray, List.getElem_cons_succ, List.getElem_cons_zero]
      go_simp
      try with_reducible rfl
    try simp only [Act.put, List.getElem_toArray, List.getElem_cons_succ, List.getElem_cons_zero, List.setIfInBounds_toArray, List.set_cons_zero, List.set_cons_succ]
    refine wpAnyH_take (i := 2) (oi := _) (v := ?_) rfl (by as_aux_lemma => kernel_rfl) (by as_aux_lemma => kernel_rfl) (by as_aux_lemma => kernel_rfl) (fun _ _ _ h => h) (Or.inl ⟨by rfl, ?_⟩) (by assumption) ?_
    rotate_left
    · intro W' hSw
      try dsimp only at hSw
      simp only [List.getElem_toArray, List.getElem_cons_succ, List.getElem_cons_zero]
      go_simp
      try with_reducible rfl
    try simp only [Act.put, List.getElem_toArray, List.getElem_cons_succ, List.getElem_cons_zero, List.setIfInBounds_toArray, List.set_cons_zero, List.set_cons_succ]
    refine wpAnyH_take (i := 3) (oi := _) (v := undef) rfl (by as_aux_lemma => kernel_rfl) (by as_aux_lemma => kernel_rfl) (by as_aux_lemma => kernel_rfl) (fun _ _ _ h => h) (Or.inr ⟨by rfl, rfl⟩) (by assumption) ?_
    try simp only [Act.put, List.getElem_toArray, List.getElem_cons_succ, List.getElem_cons_zero, List.setIfInBounds_toArray, List.set_cons_zero, List.set_cons_succ]
    refine wpAnyH_take (i := 4) (oi := _) (v := undef) rfl (by as_aux_lemma => kernel_rfl) (by as_aux_lemma => kernel_rfl) (by as_aux_lemma => kernel_rfl) (fun _ _ _ h => h) (Or.inr ⟨by rfl, rfl⟩) (by assumption) ?_
    try simp only [Act.put, List.getElem_toArray, List.getElem_cons_succ, List.getElem_cons_zero, List.setIfInBounds_toArray, List.set_cons_zero, List.set_cons_succ]
    refine wpAnyH_take (i := 5) (oi := _) (v := undef) rfl (by as_aux_lemma => kernel_rfl) (by as_aux_lemma => kernel_rfl) (by as_aux_lemma => kernel_rfl) (fun _ _ _ h => h) (Or.inr ⟨by rfl, rfl⟩) (by assumption) ?_
    try simp only [Act.put, List.getElem_toArray, List.getElem_cons_succ, List.getElem_cons_zero, List.setIfInBounds_toArray, List.set_cons_zero, List.set_cons_succ]
    refine wpAnyH_take (i := 6) (oi := _) (v := undef) rfl (by as_aux_lemma => kernel_rfl) (by as_aux_lemma => kernel_rfl) (by as_aux_lemma => kernel_rfl) (fun _ _ _ h => h) (Or.inr ⟨by rfl, rfl⟩) (by assumption) ?_
    try simp only [Act.put, List.getElem_toArray, List.getElem_cons_succ, List.getElem_cons_zero, List.setIfInBounds_toArray, List.set_cons_zero, List.set_cons_succ]
    refine wpAnyH_take (i := 7) (oi := _) (v := undef) rfl (by as_aux_lemma => kernel_rfl) (by as_aux_lemma => kernel_rfl) (by as_aux_lemma => kernel_rfl) (fun _ _ _ h => h) (Or.inr ⟨by rfl, rfl⟩) (by assumption) ?_
    try simp only [Act.put, List.getElem_toArray, List.getElem_cons_succ, List.getElem_cons_zero, List.setIfInBounds_toArray, List.set_cons_zero, List.set_cons_succ]
    refine wpAnyH_take (i := 8) (oi := _) (v := undef) rfl (by as_aux_lemma => kernel_rfl) (by as_aux_lemma => kernel_rfl) (by as_aux_lemma => kernel_rfl) (fun _ _ _ h => h) (Or.inr ⟨by rfl, rfl⟩) (by assumption) ?_
    try simp only [Act.put, List.getElem_toArray, List.getElem_cons_succ, List.getElem_cons_zero, List.setIfInBounds_toArray, List.set_cons_zero, List.set_cons_succ]
    refine wpAnyH_take (i := 9) (oi := _) (v := undef) rfl (by as_aux_lemma => kernel_rfl) (by as_aux_lemma => kernel_rfl) (by as_aux_lemma => kernel_rfl) (fun _ _ _ h => h) (Or.inr ⟨by rfl, rfl⟩) (by assumption) ?_
    try simp only [Act.put, List.getElem_toArray, List.getElem_cons_succ, List.getElem_cons_zero, List.setIfInBounds_toArray, List.set_cons_zero, List.set_cons_succ]
    refine wpAnyH_take (i := 10) (oi := _) (v := undef) rfl (by as_aux_lemma => kernel_rfl) (by as_aux_lemma => kernel_rfl) (by as_aux_lemma => kernel_rfl) (fun _ _ _ h => h) (Or.inr ⟨by rfl, rfl⟩) (by assumption) ?_
    try simp only [Act.put, List.getElem_toArray, List.getElem_cons_succ, List.getElem_cons_zero, List.setIfInBounds_toArray, List.set_cons_zero, List.set_cons_succ]
    refine wpAnyH_take (i := 11) (oi := _) (v := ?_) rfl (by as_aux_lemma => kernel_rfl) (by as_aux_lemma => kernel_rfl) (by as_aux_lemma => kernel_rfl) (fun _ _ _ h => h) (Or.inl ⟨by rfl, ?_⟩) (by assumption) ?_
    rotate_left
    · intro W' hSw
      try dsimp only at hSw
      simp only [List.getElem_toArray, List.getElem_cons_succ, List.getElem_cons_zero]
      go_simp
      try with_reducible rfl
    try simp only [Act.put, List.getElem_toArray, List.getElem_cons_succ, List.getElem_cons_zero, List.setIfInBounds_toArray, List.set_cons_zero, List.set_cons_succ]
    refine wpAnyH_take (i := 12) (oi := _) (v := ?_) rfl (by as_aux_lemma => kernel_rfl) (by as_aux_lemma => kernel_rfl) (by as_aux_lemma => kernel_rfl) (fun _ _ _ h => h) (Or.inl ⟨by rfl, ?_⟩) (by assumption) ?_
    rotate_left
    · intro W' hSw
      try dsimp only at hSw
      simp only [List.getElem_toArray, List.getElem_cons_succ, List.getElem_cons_zero]
      go_simp
      try with_reducible rfl
    try simp only [Act.put, List.getElem_toArray, List.getElem_cons_succ, List.getElem_cons_zero, List.setIfInBounds_toArray, List.set_cons_zero, List.set_cons_succ]
    refine wpAnyH_done (by kernel_rfl) ?_ _
    go_wp2
    go_ret
    exact ⟨rfl, HB.out.trans (TD.out.mono (by simp))⟩
  | true =>
    have HS := Lib.hid hs
    obtain ⟨hg, u, v, rfl, rfl, hu0, hv0, hul, hvl⟩ := neB_yes hs
    have hu24 := grp_pow hg hul
    have hv24 := grp_pow hg hvl
    have HSE : Hid (sumE l u v = ((sumN l u v : Nat) : Int)) := Lib.hid (by
      have h2 : two l u v = true := by unfold neB at hs; rw [Bool.and_eq_true] at hs; exact hs.1
      unfold sumE; rw [if_pos h2]; rfl)
    have HCE : Hid (cntE l ((sumN l u v : Nat) : Int) = (((bitsN (sumN l u v)).length : Nat) : Int)) := Lib.hid (by unfold cntE; rw [isS_of hg (sumN_lt hg u v)]; rfl)
    have hkn := knN_pos (n := v) hg hul hu0
    have HK : Hid (knE l u v = knN l u v) := Lib.hid (by unfold knE; rw [if_pos hs]; rfl)
    rw [show tgtB l u v = (((bitsN (sumN l u v)).length : Int) == knN l u v) by unfold tgtB; rw [hs]; rfl]
    obtain ⟨K, hK⟩ : ∃ K, knN l u v = K := ⟨_, rfl⟩
    rw [hK] at HK hkn ⊢
    obtain ⟨X, hX⟩ : ∃ X, sumN l u v = X := ⟨_, rfl⟩
    rw [hX] at HSE HCE ⊢
    obtain ⟨L, hL⟩ : ∃ L, (bitsN X).length = L := ⟨_, rfl⟩
    rw [hL] at HCE ⊢
    have hv : (K != -1) = true := by
      have : K ≠ -1 := by omega
      simpa using this
    clear hs hK hX hL hul hvl hg hu24 hv24 hkn
    go_enter Tryz.func18, Tryz.ntmps18
    go_upto_region 2 with (first | (go_at_call 12; refine (iKn _ _ _ _ _ _ _ HN.out hm (HI.out.below rfl T0.out) B (Nat.le_trans hB0 HB.out.size) (HTE.out.on (HB.out.mono hB0))).mono ?_; rw [HK.out]; rintro e w1 ⟨rfl, hb1⟩; have T1 := Lib.hid (T0.out.trans (hb1.mono T0.out.size)); have c1 := keepC T1.out (by simp) C1))
    have TD := Lib.hid T1.out.drew
    refine wp_region_held_drew (S := (fun W => W.cell? ⟨w.heap.size, 0, none⟩ = some (.slice a n cap))) (by kernel_rfl) (c1) (fun hHeld => ?_)
    refine wpAnyH_take (i := 0) (oi := _) (v := ?_) rfl (by as_aux_lemma => kernel_rfl) (by as_aux_lemma => kernel_rfl) (by as_aux_lemma => kernel_rfl) (fun _ _ _ h => h) (Or.inl ⟨by rfl, ?_⟩) (by assumption) ?_
    rotate_left
    · intro W' hSw
      try dsimp only at hSw
      simp only [List.getElem_toArray, List.getElem_cons_zero]
      go_simp
      try with_reducible rfl
    try simp only [Act.put, List.getElem_toArray, List.getElem_cons_zero, List.setIfInBounds_toArray, List.set_cons_zero, List.set_cons_succ]
    refine wpAnyH_take (i := 1) (oi := _) (v := ?_) rfl (by as_aux_lemma => kernel_rfl) (by as_aux_lemma => kernel_rfl) (by as_aux_lemma => kernel_rfl) (fun _ _ _ h => h) (Or.inl ⟨by rfl, ?_⟩) (by assumption) ?_
    rotate_left
    · intro W' hSw
      try dsimp only at hSw
      simp only [List.getElem_toArray, List.getElem_cons_succ, List.getElem_cons_zero]
      go_simp
      try with_reducible rfl
    try simp only [Act.put, List.getElem_toArray, List.getElem_cons_succ, List.getElem_cons_zero, List.setIfInBounds_toArray, List.set_cons_zero, List.set_cons_succ]
    refine wpAnyH_take (i := 2) (oi := _) (v := ?_) rfl (by as_aux_lemma => kernel_rfl) (by as_aux_lemma => kernel_rfl) (by as_aux_lemma => kernel_rfl) (fun _ _ _ h => h) (Or.inl ⟨by rfl, ?_⟩) (by assumption) ?_
    rotate_left
    · intro W' hSw
      try dsimp only at hSw
      simp only [List.getElem_toArray, List.getElem_cons_succ, List.getElem_cons_zero]
      go_simp
      try with_reducible rfl
    try simp only [Act.put, List.getElem_toArray, List.getElem_cons_succ, List.getElem_cons_zero, List.setIfInBounds_toArray, List.set_cons_zero, List.set_cons_succ]
    refine wpAnyH_take (i := 3) (oi := _) (v := ?_) rfl (by as_aux_lemma => kernel_rfl) (by as_aux_lemma => kernel_rfl) (by as_aux_lemma => kernel_rfl) (fun _ _ _ h => h) (Or.inl ⟨by rfl, ?_⟩) (by assumption) ?_
    rotate_left
    · intro W' hSw
      try dsimp only at hSw
      simp only [List.getElem_toArray, List.getElem_cons_succ, List.getElem_cons_zero]
      go_simp
      try with_reducible rfl
    try simp only [Act.put, List.getElem_toArray, List.getElem_cons_succ, List.getElem_cons_zero, List.setIfInBounds_toArray, List.set_cons_zero, List.set_cons_succ]
    refine wpAnyH_take (i := 4) (oi := _) (v := ?_) rfl (by as_aux_lemma => kernel_rfl) (by as_aux_lemma => kernel_rfl) (by as_aux_lemma => kernel_rfl) (fun _ _ _ h => h) (Or.inl ⟨by rfl, ?_⟩) (by assumption) ?_
    rotate_left
    · intro W' hSw
      try dsimp only at hSw
      simp only [List.getElem_toArray, List.getElem_cons_succ, List.getElem_cons_zero]
      go_simp
      try with_reducible rfl
    try simp only [Act.put, List.getElem_toArray, List.getElem_cons_succ, List.getElem_cons_zero, List.setIfInBounds_toArray, List.set_cons_zero, List.set_cons_succ]
    refine wpAnyH_take (i := 5) (oi := _) (v := ?_) rfl (by as_aux_lemma => kernel_rfl) (by as_aux_lemma => kernel_rfl) (by as_aux_lemma => kernel_rfl) (fun _ _ _ h => h) (Or.inl ⟨by rfl, ?_⟩) (by assumption) ?_
    rotate_left
    · intro W' hSw
      try dsimp only at hSw
      simp only [List.getElem_toArray, List.getElem_cons_succ, List.getElem_cons_zero]
      go_simp
      try with_reducible rfl
    try simp only [Act.put, List.getElem_toArray, List.getElem_cons_succ, List.getElem_cons_zero, List.setIfInBounds_toArray, List.set_cons_zero, List.set_cons_succ]
    refine wpAnyH_take (i := 6) (oi := _) (v := ?_) rfl (by as_aux_lemma => kernel_rfl) (by as_aux_lemma => kernel_rfl) (by as_aux_lemma => kernel_rfl) (fun _ _ _ h => h) (Or.inl ⟨by rfl, ?_⟩) (by assumption) ?_
    rotate_left
    · intro W' hSw
      try dsimp only at hSw
      simp only [List.getElem_toArray, List.getElem_cons_succ, List.getElem_cons_zero]
      go_simp
      try with_reducible rfl
    try simp only [Act.put, List.getElem_toArray, List.getElem_cons_succ, List.getElem_cons_zero, List.setIfInBounds_toArray, List.set_cons_zero, List.set_cons_succ]
    refine wpAnyH_take (i := 9) (oi := _) (v := ?_) rfl (by as_aux_lemma => kernel_rfl) (by as_aux_lemma => kernel_rfl) (by as_aux_lemma => kernel_rfl) (fun _ _ _ h => h) (Or.inl ⟨by rfl, ?_⟩) (by assumption) ?_
    rotate_left
    · intro W' hSw
      try dsimp only at hSw
      simp only [List.getElem_toArray, List.getElem_cons_succ, List.getElem_cons_zero]
      go_simp
      try with_reducible rfl
    try simp only [Act.put, List.getElem_toArray, List.getElem_cons_succ, List.getElem_cons_zero, List.setIfInBounds_toArray, List.set_cons_zero, List.set_cons_succ]
    refine wpAnyH_ready (rs := [7]) (by as_aux_lemma => kernel_rfl) (by simp) ?_
    refine AllReadyH.cons (o := _) rfl (fun K hK => ?_) (AllReadyH.nil)
    simp only [List.getElem_toArray, List.getElem_cons_succ, List.getElem_cons_zero]
    go_simp
    refine (iSumS _ _ _ _ _ _ _ HN.out hm (HI.out.below rfl TD.out) B (Nat.le_trans (Nat.le_trans hB0 HB.out.size) TD.out.size) (HTZ.out.on ((HB.out.trans (TD.out.mono (by simp))).mono hB0))).mono ?_
    rw [HSE.out]
    rintro e w3 ⟨rfl, hb3⟩
    have T3 := Lib.hid (TD.out.trans (hb3.mono TD.out.size))
    have ck := keepC T3.out (by simp) C1
    refine hK.out _ _ (ck) (fun hHeld => ?_)
    clear hK K
    try simp only [Act.put, List.getElem_toArray, List.getElem_cons_succ, List.getElem_cons_zero, List.setIfInBounds_toArray, List.set_cons_zero, List.set_cons_succ]
    refine wpAnyH_ready (rs := [8]) (by as_aux_lemma => kernel_rfl) (by simp) ?_
    refine AllReadyH.cons (o := _) rfl (fun K hK => ?_) (AllReadyH.nil)
    simp only [List.getElem_toArray, List.getElem_cons_succ, List.getElem_cons_zero]
    go_simp
    refine (iCount _ _ _ _ _ _ HN.out hm (HI.out.below rfl T3.out)).mono ?_
    rw [HCE.out]
    rintro e w4 ⟨rfl, hb4⟩
    have T4 := Lib.hid (T3.out.trans (hb4.mono T3.out.size))
    have ck := keepC T4.out (by simp) C1
    refine hK.out _ _ (ck) (fun hHeld => ?_)
    clear hK K
    try simp only [Act.put, List.getElem_toArray, List.getElem_cons_succ, List.getElem_cons_zero, List.setIfInBounds_toArray, List.set_cons_zero, List.set_cons_succ]
    refine wpAnyH_take (i := 10) (oi := _) (v := ?_) rfl (by as_aux_lemma => kernel_rfl) (by as_aux_lemma => kernel_rfl) (by as_aux_lemma => kernel_rfl) (fun _ _ _ h => h) (Or.inl ⟨by rfl, ?_⟩) (by assumption) ?_
    rotate_left
    · intro W' hSw
      try dsimp only at hSw
      simp only [List.getElem_toArray, List.getElem_cons_succ, List.getElem_cons_zero]
      go_simp
      try with_reducible rfl
    try simp only [Act.put, List.getElem_toArray, List.getElem_cons_succ, List.getElem_cons_zero, List.setIfInBounds_toArray, List.set_cons_zero, List.set_cons_succ]
    refine wpAnyH_take (i := 11) (oi := _) (v := ?_) rfl (by as_aux_lemma => kernel_rfl) (by as_aux_lemma => kernel_rfl) (by as_aux_lemma => kernel_rfl) (fun _ _ _ h => h) (Or.inl ⟨by rfl, ?_⟩) (by assumption) ?_
    rotate_left
    · intro W' hSw
      try dsimp only at hSw
      simp only [List.getElem_toArray, List.getElem_cons_succ, List.getElem_cons_zero]
      go_simp
      try with_reducible rfl
    try simp only [Act.put, List.getElem_toArray, List.getElem_cons_succ, List.getElem_cons_zero, List.setIfInBounds_toArray, List.set_cons_zero, List.set_cons_succ]
    refine wpAnyH_take (i := 12) (oi := _) (v := ?_) rfl (by as_aux_lemma => kernel_rfl) (by as_aux_lemma => kernel_rfl) (by as_aux_lemma => kernel_rfl) (fun _ _ _ h => h) (Or.inl ⟨by rfl, ?_⟩) (by assumption) ?_
    rotate_left
    · intro W' hSw
      try dsimp only at hSw
      simp only [List.getElem_toArray, List.getElem_cons_succ, List.getElem_cons_zero]
      go_simp
      try with_reducible rfl
    try simp only [Act.put, List.getElem_toArray, List.getElem_cons_succ, List.getElem_cons_zero, List.setIfInBounds_toArray, List.set_cons_zero, List.set_cons_succ]
    refine wpAnyH_done (by kernel_rfl) ?_ _
    go_wp2
    go_ret
    exact ⟨rfl, HB.out.trans (T4.out.mono (by simp))⟩
theorem cho_val {l : List Int} {u v : Nat} (h : neB l u v = true) : choB l u v = (v.testBit 0 && (bitsN v).all fun x => x == 0 || fullO l x) := by
  unfold neB at h
  rw [Bool.and_eq_true, Bool.and_eq_true] at h
  unfold choB
  rw [h.1, h.2.1]
  simp
theorem cho_no {l : List Int} {s t : Int} (h : neB l s t = false) : choB l s t = false := by
  cases h2 : two l s t with
  | false => unfold choB; rw [h2]; rfl
  | true =>
    obtain ⟨hg, u, v, rfl, rfl, hu, hv⟩ := two_true h2
    unfold neB at h
    rw [h2, Bool.true_and] at h
    unfold choB
    rw [h2]
    by_cases e : u = 0
    · subst e; simp
    · have e2 : v = 0 := by
        have : ((u : Int) == 0) = false := by simp; omega
        rw [this] at h
        simp at h
        omega
      subst e2
      simp
theorem cho_yes {l : List Int} {u v : Nat} (h : neB l u v = true) (hv : v < 2 ^ 24) (h0 : v.testBit 0 = true) (ha : ∀ z ∈ bitsN (woN v 0), fullO l z = true) : choB l u v = true := by
  rw [cho_val h, h0, Bool.true_and, List.all_eq_true]
  intro x hx
  by_cases e : x = 0
  · simp [e]
  · rw [ha x ((mem_bits (woN_le v 0 hv) x).2 (by rw [woN_bit, (mem_bits hv x).1 hx]; simp [e]))]
    simp
theorem cho_bad {l : List Int} {u v z : Nat} (h : neB l u v = true) (hv : v < 2 ^ 24) (hz : (woN v 0).testBit z = true) (hf : fullO l z = false) : choB l u v = false := by
  rw [woN_bit, Bool.and_eq_true] at hz
  have hz0 : z ≠ 0 := by simpa using hz.2
  rw [cho_val h]
  have : ((bitsN v).all fun x => x == 0 || fullO l x) = false := by
    rw [List.all_eq_false]
    exact ⟨z, (mem_bits hv z).2 hz.1, by simp [hz0, hf]⟩
  rw [this, Bool.and_false]
theorem box_cell {w : World} {B : Nat} {x : Value} {T : TypeId} (h : w.heap[B]? = some (.cells #[x] T (0, 0))) : w.cell? ⟨B, 0, none⟩ = some x ∧ w.frozen? ⟨B, 0, none⟩ = false := ⟨by simp [World.cell?, h], by simp [World.frozen?, h]⟩
set_option maxHeartbeats 4000000 in
theorem iCho_no (w : World) (a : Option Addr) (l : List Int) (n cap : Nat) (s t : Int) (hn : n = l.length) (hm : n ≤ 9223372036854775807) (hi : Ints w a l) (B : Nat) (hB0 : B ≤ w.heap.size) (ht : TabE B w) (hs : neB l s t = false) :
    Calls Tryz.prog 28 #[.agg #[.slice a n cap], .int .i64 s, .int .i64 t] w fun e w' => e = .returned (.bool false) ∧ Below w.heap.size w w' := by
  have HTZ := Lib.hid ht.1
  have HER := Lib.hid ht.2
  clear ht
  have HI := Lib.hid (ints_alloc (ints_alloc hi (.cells #[.slice a n cap] 26)) (.cells #[.bool false] 4))
  have HI0 := Lib.hid hi
  have HN := Lib.hid hn
  have C1 := keepC (Joins.below_alloc1 _ (.cells #[.bool false] 4)) (by simp <;> omega) (newC w (.slice a n cap) 26 (n := w.heap.size) rfl)
  have RG := Lib.hid (keepH (Joins.below_alloc1 (w.alloc (.cells #[.slice a n cap] 26)) (.cells #[.bool false] 4)) (by simp) (heap_alloc_new w (.cells #[.slice a n cap] 26)))
  have RR : Hid (((w.alloc (.cells #[.slice a n cap] 26)).alloc (.cells #[.bool false] 4)).heap[w.heap.size + 1]? = some (.cells #[.bool false] 4 (0, 0))) := Lib.hid (by simpa using heap_alloc_new (w.alloc (.cells #[.slice a n cap] 26)) (.cells #[.bool false] 4))
  have HB := Lib.hid (Joins.below_alloc2 w (.cells #[.slice a n cap] 26) (.cells #[.bool false] 4))
  have T0 := Lib.hid (Below.refl ((w.alloc (.cells #[.slice a n cap] 26)).alloc (.cells #[.bool false] 4)).heap.size ((w.alloc (.cells #[.slice a n cap] 26)).alloc (.cells #[.bool false] 4)))
  clear hi hn
  have HS := Lib.hid hs
  clear hs
  go_enter Tryz.func28, Tryz.ntmps28
  go_wp2_with (first
    | (go_at_call 51; refine (iRef_yes _ ex ey B (Nat.le_trans hB0 (Nat.le_trans HB.out.size (Nat.le_trans (by simp) T1.out.size))) (HER.out.on ((HB.out.trans (T1.out.mono (by simp <;> omega))).mono hB0))).mono ?_; rintro e w2 ⟨rfl, hb2⟩; have T2 := Lib.hid (T1.out.trans (hb2.mono T1.out.size)); have c2 := keepC T2.out (by simp <;> omega) C1; have G2 := Lib.hid (keepH T2.out (by simp <;> omega) RG.out); have R2 := Lib.hid (keepH T2.out (by simp <;> omega) RR.out); have r2 := box_cell R2.out; have O2 := Lib.hid (keepH hb2 (by simp) O1.out); obtain ⟨y0, y1, y2, yf0, yf1, yf2⟩ := trip_cell O2.out)
    | (go_at_call 50; refine (iFSS_no _ _ _ _ _ _ _ HN.out hm (HI.out.below rfl T0.out) HS.out).mono ?_; rintro e w1 ⟨ex, ey, rfl, hb1⟩; have S1 := Lib.hid (T0.out.trans (hb1.mono T0.out.size)); have T1 := Lib.hid (S1.out.alloc S1.out.size (.cells #[.int .i64 0, .int .i64 0, .int .i64 0] 41)); have c1 := keepC T1.out (by simp <;> omega) C1; have G1 := Lib.hid (keepH T1.out (by simp <;> omega) RG.out); have R1 := Lib.hid (keepH T1.out (by simp <;> omega) RR.out); have O1 := Lib.hid (heap_alloc_new w1 (.cells #[.int .i64 0, .int .i64 0, .int .i64 0] 41)); obtain ⟨z0, z1, z2, zf0, zf1, zf2⟩ := trip_cell O1.out; have hw1 : w.heap.size + 1 < w1.heap.size := by have := S1.out.size; simp at this; omega))
  have hF : ((w2.setCell ⟨w.heap.size + 1, 0, none⟩ (.bool false)).cell? ⟨w.heap.size + 1, 0, none⟩) = some (.bool false) := Boxed.cell (Boxed.set (.bool false) R2.out)
  refine bodyPost_ret (v := .bool false) (by simp [results, Tryz.results28, go_sem, hF]) rfl ⟨rfl, (HB.out.trans (T2.out.mono (by simp <;> omega))).setCell (p := ⟨w.heap.size + 1, 0, none⟩) (by simp) _⟩
set_option maxHeartbeats 4000000 in
theorem iCho_zero (w : World) (a : Option Addr) (l : List Int) (n cap : Nat) (s t : Int) (hn : n = l.length) (hm : n ≤ 9223372036854775807) (hi : Ints w a l) (hs : neB l s t = true) (h0 : t.toNat.testBit 0 = false) :
    Calls Tryz.prog 28 #[.agg #[.slice a n cap], .int .i64 s, .int .i64 t] w fun e w' => e = .returned (.bool false) ∧ Below w.heap.size w w' := by
  have HI := Lib.hid (ints_alloc (ints_alloc hi (.cells #[.slice a n cap] 26)) (.cells #[.bool false] 4))
  have HI0 := Lib.hid hi
  have HN := Lib.hid hn
  have C1 := keepC (Joins.below_alloc1 _ (.cells #[.bool false] 4)) (by simp <;> omega) (newC w (.slice a n cap) 26 (n := w.heap.size) rfl)
  have RG := Lib.hid (keepH (Joins.below_alloc1 (w.alloc (.cells #[.slice a n cap] 26)) (.cells #[.bool false] 4)) (by simp) (heap_alloc_new w (.cells #[.slice a n cap] 26)))
  have RR : Hid (((w.alloc (.cells #[.slice a n cap] 26)).alloc (.cells #[.bool false] 4)).heap[w.heap.size + 1]? = some (.cells #[.bool false] 4 (0, 0))) := Lib.hid (by simpa using heap_alloc_new (w.alloc (.cells #[.slice a n cap] 26)) (.cells #[.bool false] 4))
  have HB := Lib.hid (Joins.below_alloc2 w (.cells #[.slice a n cap] 26) (.cells #[.bool false] 4))
  have T0 := Lib.hid (Below.refl ((w.alloc (.cells #[.slice a n cap] 26)).alloc (.cells #[.bool false] 4)).heap.size ((w.alloc (.cells #[.slice a n cap] 26)).alloc (.cells #[.bool false] 4)))
  clear hi hn
  obtain ⟨hg, u, v, rfl, rfl, hu0, hv0, hul, hvl⟩ := neB_yes hs
  have HS := Lib.hid hs
  have hv24 := grp_pow hg hvl
  have HV24 := Lib.hid hv24
  rw [Int.toNat_natCast] at h0
  have HB0 := Lib.hid h0
  obtain ⟨p, EP⟩ : ∃ p, Hid (l.getD 0 1 = p) := ⟨_, Lib.hid rfl⟩
  obtain ⟨q, EQ⟩ : ∃ q, Hid (l.getD 1 1 = q) := ⟨_, Lib.hid rfl⟩
  obtain ⟨r, ER⟩ : ∃ r, Hid (l.getD 2 1 = r) := ⟨_, Lib.hid rfl⟩
  clear hs hg hul hvl hv24 h0
  go_enter Tryz.func28, Tryz.ntmps28
  go_wp2_with (first
    | (go_at_call 66; refine (iHas _ v 0 HV24.out (by decide)).mono ?_; rw [HB0.out]; rintro e w3 ⟨rfl, rfl⟩)
    | (go_at_call 51; refine (iRef_no _).mono ?_; rintro e w2 ⟨rfl, hb2⟩; have T2 := Lib.hid (T1.out.trans (hb2.mono T1.out.size)); have c2 := keepC T2.out (by simp <;> omega) C1; have G2 := Lib.hid (keepH T2.out (by simp <;> omega) RG.out); have R2 := Lib.hid (keepH T2.out (by simp <;> omega) RR.out); have r2 := box_cell R2.out; have O2 := Lib.hid (keepH hb2 (by simp) O1.out); obtain ⟨y0, y1, y2, yf0, yf1, yf2⟩ := trip_cell O2.out)
    | (go_at_call 50; refine (iFSS_yes _ _ _ _ _ _ _ HN.out hm (HI.out.below rfl T0.out) HS.out).mono ?_; rw [EP.out, EQ.out, ER.out]; rintro e w1 ⟨rfl, hb1⟩; have S1 := Lib.hid (T0.out.trans (hb1.mono T0.out.size)); have T1 := Lib.hid (S1.out.alloc S1.out.size (.cells #[.int .i64 p, .int .i64 q, .int .i64 r] 41)); have c1 := keepC T1.out (by simp <;> omega) C1; have G1 := Lib.hid (keepH T1.out (by simp <;> omega) RG.out); have R1 := Lib.hid (keepH T1.out (by simp <;> omega) RR.out); have O1 := Lib.hid (heap_alloc_new w1 (.cells #[.int .i64 p, .int .i64 q, .int .i64 r] 41)); obtain ⟨z0, z1, z2, zf0, zf1, zf2⟩ := trip_cell O1.out; have hw1 : w.heap.size + 1 < w1.heap.size := by have := S1.out.size; simp at this; omega))
  have hF : ((w2.setCell ⟨w.heap.size + 1, 0, none⟩ (.bool false)).cell? ⟨w.heap.size + 1, 0, none⟩) = some (.bool false) := Boxed.cell (Boxed.set (.bool false) R2.out)
  refine bodyPost_ret (v := .bool false) (by simp [results, Tryz.results28, go_sem, hF]) rfl ⟨rfl, (HB.out.trans (T2.out.mono (by simp <;> omega))).setCell (p := ⟨w.heap.size + 1, 0, none⟩) (by simp) _⟩
theorem keeps_belowX {W W' : World} (h : Below W.heap.size W W') : KeepsOthers W W' := ⟨h.size, fun k _ ho _ => (h.block k (Array.getElem?_eq_some_iff.1 ho).1).trans ho⟩
set_option maxHeartbeats 4000000 in
theorem iCho_yes (w : World) (a : Option Addr) (l : List Int) (n cap : Nat) (s t : Int) (hn : n = l.length) (hm : n ≤ 9223372036854775807) (hi : Ints w a l) (B : Nat) (hB0 : B ≤ w.heap.size) (ht : TabE B w) (hs : neB l s t = true) (h0 : t.toNat.testBit 0 = true) :
    Calls Tryz.prog 28 #[.agg #[.slice a n cap], .int .i64 s, .int .i64 t] w fun e w' => e = .returned (.bool (choB l s t)) ∧ Below w.heap.size w w' := by
  have HTZ := Lib.hid ht.1
  have HER := Lib.hid ht.2
  clear ht
  have HI := Lib.hid (ints_alloc (ints_alloc hi (.cells #[.slice a n cap] 26)) (.cells #[.bool false] 4))
  have HI0 := Lib.hid hi
  have HN := Lib.hid hn
  have C1 := keepC (Joins.below_alloc1 _ (.cells #[.bool false] 4)) (by simp <;> omega) (newC w (.slice a n cap) 26 (n := w.heap.size) rfl)
  have RG := Lib.hid (keepH (Joins.below_alloc1 (w.alloc (.cells #[.slice a n cap] 26)) (.cells #[.bool false] 4)) (by simp) (heap_alloc_new w (.cells #[.slice a n cap] 26)))
  have RR : Hid (((w.alloc (.cells #[.slice a n cap] 26)).alloc (.cells #[.bool false] 4)).heap[w.heap.size + 1]? = some (.cells #[.bool false] 4 (0, 0))) := Lib.hid (by simpa using heap_alloc_new (w.alloc (.cells #[.slice a n cap] 26)) (.cells #[.bool false] 4))
  have HB := Lib.hid (Joins.below_alloc2 w (.cells #[.slice a n cap] 26) (.cells #[.bool false] 4))
  have T0 := Lib.hid (Below.refl ((w.alloc (.cells #[.slice a n cap] 26)).alloc (.cells #[.bool false] 4)).heap.size ((w.alloc (.cells #[.slice a n cap] 26)).alloc (.cells #[.bool false] 4)))
  clear hi hn
  obtain ⟨hg, u, v, rfl, rfl, hu0, hv0, hul, hvl⟩ := neB_yes hs
  have HS := Lib.hid hs
  have hv24 := grp_pow hg hvl
  have HV24 := Lib.hid hv24
  rw [Int.toNat_natCast] at h0
  have HB0 := Lib.hid h0
  have HT := Lib.hid (tri_grp hg)
  obtain ⟨M, hM⟩ : ∃ M : Nat → Nat, ∀ x : Nat, OrdX l (x : Int) (M x) := ⟨fun x => (ordX_ex l x).choose, fun x => (ordX_ex l x).choose_spec⟩
  have HM := Lib.hid hM
  have hp := (ords_grp hg).prod
  have HP := prod_pad (grpB_true hg).1
  obtain ⟨N, hN⟩ : ∃ N : Nat, prodI l = (N : Int) := ⟨(prodI l).toNat, by omega⟩
  have HF : Hid (∀ x : Nat, (x : Int) < (N : Int) → fullO l x = ((M x : Int) == (N : Int))) := Lib.hid (fun x hx => by
    rw [← hN] at hx ⊢
    exact fullO_one hg ((hM x).1 (by unfold isE; rw [ordN_grp hg]; simp; omega)))
  have HEL : Hid (∀ y : Nat, (woN v 0).testBit y = true → (y : Int) < (N : Int)) := Lib.hid (fun y hy => by rw [← hN]; exact el_of hg (woN_le v 0 hvl) hy)
  have HYES := Lib.hid (fun ha => cho_yes hs hv24 h0 ha)
  have HBAD := Lib.hid (fun z h1 h2 => cho_bad (z := z) hs hv24 h1 h2)
  have HS24 := Lib.hid (woN_le v 0 hv24)
  obtain ⟨p, EP⟩ : ∃ p, Hid (l.getD 0 1 = p) := ⟨_, Lib.hid rfl⟩
  obtain ⟨q, EQ⟩ : ∃ q, Hid (l.getD 1 1 = q) := ⟨_, Lib.hid rfl⟩
  obtain ⟨r, ER⟩ : ∃ r, Hid (l.getD 2 1 = r) := ⟨_, Lib.hid rfl⟩
  rw [EP.out, EQ.out, ER.out] at HT HP
  have HPV : Hid (p * q * r = (N : Int)) := Lib.hid (by rw [← HP, hN])
  obtain ⟨CB, hCB⟩ : ∃ c, choB l u v = c := ⟨_, rfl⟩
  rw [hCB] at HYES HBAD
  rw [hCB]
  clear hs hg hul hvl hv24 h0 hM hp HP hN hCB
  have hmf : ∀ (fn : Fn) (first cap : Array Value) (w : World), (Instr.makeFunc fn first cap).run Tryz.prog w = .ok (.func fn first cap) w := fun _ _ _ _ => rfl
  refine (callsIn_wide (n := 4)).1 ?_
  refine callsIn_of_wp_marks Tryz.func28 rfl trivial ?_ rfl
  simp only [Tryz.ntmps28, List.size_toArray, List.length_cons, List.length_nil, Nat.reduceAdd, Nat.reduceSub, Array.replicate_succ, Array.replicate_zero, List.push_toArray, List.append_toArray, List.nil_append, List.cons_append]
  gi_wp2
  refine ⟨trivial, ?_⟩
  refine (callsIn_wide.2 (iFSS_yes _ _ _ _ _ _ _ HN.out hm (HI.out.below rfl T0.out) HS.out)).mono ?_
  rw [EP.out, EQ.out, ER.out]
  rintro e w1 ⟨rfl, hb1⟩; have S1 := Lib.hid (T0.out.trans (hb1.mono T0.out.size)); have T1 := Lib.hid (S1.out.alloc S1.out.size (.cells #[.int .i64 p, .int .i64 q, .int .i64 r] 41)); have c1 := keepC T1.out (by simp <;> omega) C1; have G1 := Lib.hid (keepH T1.out (by simp <;> omega) RG.out); have R1 := Lib.hid (keepH T1.out (by simp <;> omega) RR.out); have O1 := Lib.hid (heap_alloc_new w1 (.cells #[.int .i64 p, .int .i64 q, .int .i64 r] 41)); obtain ⟨z0, z1, z2, zf0, zf1, zf2⟩ := trip_cell O1.out; have hw1 : w.heap.size + 1 < w1.heap.size := by have := S1.out.size; simp at this; omega
  gi_wp2
  refine ⟨trivial, ?_⟩
  refine (callsIn_wide.2 (iRef_no _)).mono ?_
  rintro e w2 ⟨rfl, hb2⟩; have T2 := Lib.hid (T1.out.trans (hb2.mono T1.out.size)); have c2 := keepC T2.out (by simp <;> omega) C1; have G2 := Lib.hid (keepH T2.out (by simp <;> omega) RG.out); have R2 := Lib.hid (keepH T2.out (by simp <;> omega) RR.out); have r2 := box_cell R2.out; have O2 := Lib.hid (keepH hb2 (by simp) O1.out); obtain ⟨y0, y1, y2, yf0, yf1, yf2⟩ := trip_cell O2.out
  gi_wp2
  refine ⟨trivial, ?_⟩
  refine (callsIn_wide.2 (iHas _ v 0 HV24.out (by decide))).mono ?_
  rw [HB0.out]
  rintro e w3 ⟨rfl, rfl⟩
  gi_wp2
  refine ⟨trivial, ?_⟩
  refine (callsIn_wide.2 (iWithout _ v 0 HV24.out (by decide))).mono ?_
  rintro e w3 ⟨rfl, rfl⟩
  gi_wp2
  obtain ⟨S, hS⟩ : ∃ S, woN v 0 = S := ⟨_, rfl⟩
  rw [hS] at HEL HYES HBAD HS24
  simp only [hS]
  have HB2 := Lib.hid (HB.out.trans (T2.out.mono (by simp <;> omega)))
  have hw2 : w1.heap.size < w2.heap.size := (Array.getElem?_eq_some_iff.1 O2.out).1
  refine each_loopX S HS24.out rfl B
    (fun pre W => (W.heap[w.heap.size + 1]? = some (.cells #[.bool false] 4 (0, 0)) ∧ W.heap[w.heap.size]? = some (.cells #[.slice a n cap] 26 (0, 0)) ∧ W.heap[w1.heap.size]? = some (.cells #[.int .i64 p, .int .i64 q, .int .i64 r] 41 (0, 0))) ∧ ((∀ z ∈ pre, fullO l z = true) ∧ Below w.heap.size w W))
    (fun W => W.heap[w.heap.size + 1]? = some (.cells #[.bool false] 4 (0, 0)) ∧ (CB = false ∧ Below w.heap.size w W))
    (OwnFrom.and (Own.from (fun s W W' row hs hg hr => ⟨cells_own (β := List Nat) (w.heap.size + 1) (fun _ => #[.bool false]) 4 s W W' row hs.1 hg hr, cells_own (β := List Nat) w.heap.size (fun _ => #[.slice a n cap]) 26 s W W' row hs.2.1 hg hr, cells_own (β := List Nat) w1.heap.size (fun _ => #[.int .i64 p, .int .i64 q, .int .i64 r]) 41 s W W' row hs.2.2 hg hr⟩) _) (OwnFrom.and (fun _ _ _ _ hs _ _ => hs) (ownFrom_below (Nat.le_refl _) (by omega))))
    (OwnFrom.and (Own.from (fun s W W' row hs hg hr => cells_own (β := List Nat) (w.heap.size + 1) (fun _ => #[.bool false]) 4 s W W' row hs hg hr) _) (OwnFrom.and (fun _ _ _ _ hs _ _ => hs) (ownFrom_below (Nat.le_refl _) (by omega))))
    (fun pre W h => HTZ.out.on (h.2.2.mono hB0))
    ⟨⟨R2.out, G2.out, O2.out⟩, (fun z hz => by cases hz), HB2.out⟩
    (fun y => { tmps := #[.agg #[.slice a n cap], .int .i64 (u : Nat), .int .i64 (v : Nat), .pointer (some ⟨w.heap.size, 0, none⟩), undef, undef, .pointer (some ⟨w.heap.size + 1, 0, none⟩), .pointer (some ⟨w1.heap.size, 0, none⟩), .int .u64 (u : Nat), .int .u64 (v : Nat), .nilIface, .int .i64 (y : Nat), .tuple #[tV p q r, .int .u64 (u : Nat), .int .u64 (v : Nat), .nilIface], .agg #[.slice a n cap], .int .i64 (u : Nat), .int .i64 (v : Nat), .tuple #[tV p q r, .int .u64 (u : Nat), .int .u64 (v : Nat), .nilIface], tV p q r, .int .u64 (u : Nat), .int .u64 (v : Nat), .nilIface, .nilIface, .bool false, .bool false, .int .u64 (v : Nat), .bool true, .bool false, .bool false, .int .u64 (v : Nat), .int .u64 (S : Nat), .func (.func 68) #[.int .u64 (S : Nat)] #[], .int .i64 (y : Nat), undef, undef, undef, undef, undef, undef], defers := [] }) ?assign ?body ?done ?ret
  case assign =>
    intro lo y W K hK
    gi_wp2
    exact hK
  case body =>
    rintro lo pre y W hpin hbt hpl ⟨⟨b1, b2, b3⟩, hpre, hB⟩
    have HB1 := Lib.hid b1
    have HG1 := Lib.hid b2
    have HO1 := Lib.hid b3
    have HPRE := Lib.hid hpre
    have HBW := Lib.hid hB
    have g1 := (box_cell b2).1
    have r1 := box_cell b1
    obtain ⟨d0, d1, d2, _, _, _⟩ := trip_cell b3
    have hyN := HEL.out y hbt
    have HFY := Lib.hid (HF.out y hyN)
    have HBY := Lib.hid (HBAD.out y hbt)
    have HMY := Lib.hid (HM.out y)
    obtain ⟨m, hmy⟩ : ∃ m, M y = m := ⟨_, rfl⟩
    rw [hmy] at HFY HMY
    clear b1 b2 b3 hpre hB hbt hpin hpl hmy hyN
    by_cases hq : (m : Int) = (N : Int)
    · have hne : ((m : Int) != (N : Int)) = false := by simpa using hq
      have hful : fullO l y = true := by rw [HFY.out]; simpa using hq
      have HFUL := Lib.hid hful
      clear hq hful HBY
      gi_wp2
      refine region_round (S := (fun W' => W'.cell? ⟨w.heap.size, 0, none⟩ = some (.slice a n cap) ∧ W'.cell? ⟨w1.heap.size, 0, none⟩ = some (.int .i64 p) ∧ W'.cell? ⟨w1.heap.size, 1, none⟩ = some (.int .i64 q) ∧ W'.cell? ⟨w1.heap.size, 2, none⟩ = some (.int .i64 r)))
        (by kernel_rfl) (no_defer (by kernel_rfl)) (fun ⟨a', w', h'⟩ => by rcases h' with h' | h' <;> cases h'.1) ⟨g1, d0, d1, d2⟩ (fun hHeld => ?_)
      refine wpAnyH_take (i := 0) (oi := _) (v := ?_) rfl (by as_aux_lemma => kernel_rfl) (by as_aux_lemma => kernel_rfl) (by as_aux_lemma => kernel_rfl) (fun _ _ _ h => h) (Or.inl ⟨by rfl, ?_⟩) (by assumption) ?_
      rotate_left
      · intro W' hSw
        try dsimp only at hSw
        obtain ⟨s0, s1, s2, s3⟩ := hSw
        simp only [List.getElem_toArray, List.getElem_cons_zero]
        go_simp
        try with_reducible rfl
      try simp only [Act.put, List.getElem_toArray, List.getElem_cons_zero, List.setIfInBounds_toArray, List.set_cons_zero, List.set_cons_succ]
      refine wpAnyH_take (i := 1) (oi := _) (v := ?_) rfl (by as_aux_lemma => kernel_rfl) (by as_aux_lemma => kernel_rfl) (by as_aux_lemma => kernel_rfl) (fun _ _ _ h => h) (Or.inl ⟨by rfl, ?_⟩) (by assumption) ?_
      rotate_left
      · intro W' hSw
        try dsimp only at hSw
        obtain ⟨s0, s1, s2, s3⟩ := hSw
        simp only [List.getElem_toArray, List.getElem_cons_succ, List.getElem_cons_zero]
        go_simp
        try with_reducible rfl
      try simp only [Act.put, List.getElem_toArray, List.getElem_cons_succ, List.getElem_cons_zero, List.setIfInBounds_toArray, List.set_cons_zero, List.set_cons_succ]
      refine wpAnyH_take (i := 3) (oi := _) (v := ?_) rfl (by as_aux_lemma => kernel_rfl) (by as_aux_lemma => kernel_rfl) (by as_aux_lemma => kernel_rfl) (fun _ _ _ h => h) (Or.inl ⟨by rfl, ?_⟩) (by assumption) ?_
      rotate_left
      · intro W' hSw
        try dsimp only at hSw
        obtain ⟨s0, s1, s2, s3⟩ := hSw
        simp only [List.getElem_toArray, List.getElem_cons_succ, List.getElem_cons_zero]
        go_simp
        try with_reducible rfl
      try simp only [Act.put, List.getElem_toArray, List.getElem_cons_succ, List.getElem_cons_zero, List.setIfInBounds_toArray, List.set_cons_zero, List.set_cons_succ]
      refine wpAnyH_ready (rs := [2]) (by as_aux_lemma => kernel_rfl) (by simp) ?_
      refine AllReadyH.cons (o := _) rfl (fun K hK => ?_) (AllReadyH.nil)
      simp only [List.getElem_toArray, List.getElem_cons_succ, List.getElem_cons_zero]
      go_simp
      refine (iOrd _ _ _ _ _ _ m HN.out hm (HI0.out.below rfl HBW.out.drew) HMY.out).mono ?_
      rintro e w5 ⟨rfl, hb5⟩
      have H5 : Hid (Below W.drew.heap.size W.drew w5) := Lib.hid hb5
      obtain ⟨e0, e1, e2, _, _, _⟩ := trip_cell (keepH H5.out (Array.getElem?_eq_some_iff.1 HO1.out).1 HO1.out)
      have ck := And.intro (box_cell (keepH H5.out (Array.getElem?_eq_some_iff.1 HG1.out).1 HG1.out)).1 (And.intro e0 (And.intro e1 e2))
      refine hK.out _ _ (ck) (fun hHeld => ?_)
      clear hK K
      try simp only [Act.put, List.getElem_toArray, List.getElem_cons_succ, List.getElem_cons_zero, List.setIfInBounds_toArray, List.set_cons_zero, List.set_cons_succ]
      refine wpAnyH_ready (rs := [4]) (by as_aux_lemma => kernel_rfl) (by simp) ?_
      refine AllReadyH.cons (o := _) rfl (fun K hK => ?_) (AllReadyH.nil)
      simp only [List.getElem_toArray, List.getElem_cons_succ, List.getElem_cons_zero]
      go_simp
      refine (iProduct _ _ _ _ HT.out).mono ?_
      rw [HPV.out]
      rintro e w6 ⟨rfl, hb6⟩
      have H6 : Hid (Below W.drew.heap.size W.drew w6) := Lib.hid (H5.out.trans (hb6.mono H5.out.size))
      obtain ⟨i0, i1, i2, _, _, _⟩ := trip_cell (keepH H6.out (Array.getElem?_eq_some_iff.1 HO1.out).1 HO1.out)
      have ck := And.intro (box_cell (keepH H6.out (Array.getElem?_eq_some_iff.1 HG1.out).1 HG1.out)).1 (And.intro i0 (And.intro i1 i2))
      refine hK.out _ _ (ck) (fun hHeld => ?_)
      clear hK K
      try simp only [Act.put, List.getElem_toArray, List.getElem_cons_succ, List.getElem_cons_zero, List.setIfInBounds_toArray, List.set_cons_zero, List.set_cons_succ]
      refine wpAnyH_take (i := 5) (oi := _) (v := ?_) rfl (by as_aux_lemma => kernel_rfl) (by as_aux_lemma => kernel_rfl) (by as_aux_lemma => kernel_rfl) (fun _ _ _ h => h) (Or.inl ⟨by rfl, ?_⟩) (by assumption) ?_
      rotate_left
      · intro W' hSw
        try dsimp only at hSw
        obtain ⟨s0, s1, s2, s3⟩ := hSw
        simp only [List.getElem_toArray, List.getElem_cons_succ, List.getElem_cons_zero]
        go_simp
        try with_reducible rfl
      try simp only [Act.put, List.getElem_toArray, List.getElem_cons_succ, List.getElem_cons_zero, List.setIfInBounds_toArray, List.set_cons_zero, List.set_cons_succ]
      refine wpAnyH_done (by kernel_rfl) ?_ _
      have K1 := Lib.hid (keepH H6.out (Array.getElem?_eq_some_iff.1 HB1.out).1 HB1.out)
      have K2 := Lib.hid (keepH H6.out (Array.getElem?_eq_some_iff.1 HG1.out).1 HG1.out)
      have K3 := Lib.hid (keepH H6.out (Array.getElem?_eq_some_iff.1 HO1.out).1 HO1.out)
      gi_wp2
      exact .inl ⟨rfl, keeps_belowX (W := W) ((Below.refl _ W).drew.trans H6.out), ⟨K1.out, K2.out, K3.out⟩, (fun z hz => by
        rcases List.mem_append.1 hz with h | h
        · exact HPRE.out z h
        · rw [List.mem_singleton.1 h]; exact HFUL.out), HBW.out.drew.trans (H6.out.mono HBW.out.drew.size)⟩
    · have hne : ((m : Int) != (N : Int)) = true := by simpa using hq
      have hful : fullO l y = false := by rw [HFY.out]; simpa using hq
      have HCB := Lib.hid (HBY.out hful)
      clear hq hful HBY
      gi_wp2
      refine region_round (S := (fun W' => W'.cell? ⟨w.heap.size, 0, none⟩ = some (.slice a n cap) ∧ W'.cell? ⟨w1.heap.size, 0, none⟩ = some (.int .i64 p) ∧ W'.cell? ⟨w1.heap.size, 1, none⟩ = some (.int .i64 q) ∧ W'.cell? ⟨w1.heap.size, 2, none⟩ = some (.int .i64 r)))
        (by kernel_rfl) (no_defer (by kernel_rfl)) (fun ⟨a', w', h'⟩ => by rcases h' with h' | h' <;> cases h'.1) ⟨g1, d0, d1, d2⟩ (fun hHeld => ?_)
      refine wpAnyH_take (i := 0) (oi := _) (v := ?_) rfl (by as_aux_lemma => kernel_rfl) (by as_aux_lemma => kernel_rfl) (by as_aux_lemma => kernel_rfl) (fun _ _ _ h => h) (Or.inl ⟨by rfl, ?_⟩) (by assumption) ?_
      rotate_left
      · intro W' hSw
        try dsimp only at hSw
        obtain ⟨s0, s1, s2, s3⟩ := hSw
        simp only [List.getElem_toArray, List.getElem_cons_zero]
        go_simp
        try with_reducible rfl
      try simp only [Act.put, List.getElem_toArray, List.getElem_cons_zero, List.setIfInBounds_toArray, List.set_cons_zero, List.set_cons_succ]
      refine wpAnyH_take (i := 1) (oi := _) (v := ?_) rfl (by as_aux_lemma => kernel_rfl) (by as_aux_lemma => kernel_rfl) (by as_aux_lemma => kernel_rfl) (fun _ _ _ h => h) (Or.inl ⟨by rfl, ?_⟩) (by assumption) ?_
      rotate_left
      · intro W' hSw
        try dsimp only at hSw
        obtain ⟨s0, s1, s2, s3⟩ := hSw
        simp only [List.getElem_toArray, List.getElem_cons_succ, List.getElem_cons_zero]
        go_simp
        try with_reducible rfl
      try simp only [Act.put, List.getElem_toArray, List.getElem_cons_succ, List.getElem_cons_zero, List.setIfInBounds_toArray, List.set_cons_zero, List.set_cons_succ]
      refine wpAnyH_take (i := 3) (oi := _) (v := ?_) rfl (by as_aux_lemma => kernel_rfl) (by as_aux_lemma => kernel_rfl) (by as_aux_lemma => kernel_rfl) (fun _ _ _ h => h) (Or.inl ⟨by rfl, ?_⟩) (by assumption) ?_
      rotate_left
      · intro W' hSw
        try dsimp only at hSw
        obtain ⟨s0, s1, s2, s3⟩ := hSw
        simp only [List.getElem_toArray, List.getElem_cons_succ, List.getElem_cons_zero]
        go_simp
        try with_reducible rfl
      try simp only [Act.put, List.getElem_toArray, List.getElem_cons_succ, List.getElem_cons_zero, List.setIfInBounds_toArray, List.set_cons_zero, List.set_cons_succ]
      refine wpAnyH_ready (rs := [2]) (by as_aux_lemma => kernel_rfl) (by simp) ?_
      refine AllReadyH.cons (o := _) rfl (fun K hK => ?_) (AllReadyH.nil)
      simp only [List.getElem_toArray, List.getElem_cons_succ, List.getElem_cons_zero]
      go_simp
      refine (iOrd _ _ _ _ _ _ m HN.out hm (HI0.out.below rfl HBW.out.drew) HMY.out).mono ?_
      rintro e w5 ⟨rfl, hb5⟩
      have H5 : Hid (Below W.drew.heap.size W.drew w5) := Lib.hid hb5
      obtain ⟨e0, e1, e2, _, _, _⟩ := trip_cell (keepH H5.out (Array.getElem?_eq_some_iff.1 HO1.out).1 HO1.out)
      have ck := And.intro (box_cell (keepH H5.out (Array.getElem?_eq_some_iff.1 HG1.out).1 HG1.out)).1 (And.intro e0 (And.intro e1 e2))
      refine hK.out _ _ (ck) (fun hHeld => ?_)
      clear hK K
      try simp only [Act.put, List.getElem_toArray, List.getElem_cons_succ, List.getElem_cons_zero, List.setIfInBounds_toArray, List.set_cons_zero, List.set_cons_succ]
      refine wpAnyH_ready (rs := [4]) (by as_aux_lemma => kernel_rfl) (by simp) ?_
      refine AllReadyH.cons (o := _) rfl (fun K hK => ?_) (AllReadyH.nil)
      simp only [List.getElem_toArray, List.getElem_cons_succ, List.getElem_cons_zero]
      go_simp
      refine (iProduct _ _ _ _ HT.out).mono ?_
      rw [HPV.out]
      rintro e w6 ⟨rfl, hb6⟩
      have H6 : Hid (Below W.drew.heap.size W.drew w6) := Lib.hid (H5.out.trans (hb6.mono H5.out.size))
      obtain ⟨i0, i1, i2, _, _, _⟩ := trip_cell (keepH H6.out (Array.getElem?_eq_some_iff.1 HO1.out).1 HO1.out)
      have ck := And.intro (box_cell (keepH H6.out (Array.getElem?_eq_some_iff.1 HG1.out).1 HG1.out)).1 (And.intro i0 (And.intro i1 i2))
      refine hK.out _ _ (ck) (fun hHeld => ?_)
      clear hK K
      try simp only [Act.put, List.getElem_toArray, List.getElem_cons_succ, List.getElem_cons_zero, List.setIfInBounds_toArray, List.set_cons_zero, List.set_cons_succ]
      refine wpAnyH_take (i := 5) (oi := _) (v := ?_) rfl (by as_aux_lemma => kernel_rfl) (by as_aux_lemma => kernel_rfl) (by as_aux_lemma => kernel_rfl) (fun _ _ _ h => h) (Or.inl ⟨by rfl, ?_⟩) (by assumption) ?_
      rotate_left
      · intro W' hSw
        try dsimp only at hSw
        obtain ⟨s0, s1, s2, s3⟩ := hSw
        simp only [List.getElem_toArray, List.getElem_cons_succ, List.getElem_cons_zero]
        go_simp
        try with_reducible rfl
      try simp only [Act.put, List.getElem_toArray, List.getElem_cons_succ, List.getElem_cons_zero, List.setIfInBounds_toArray, List.set_cons_zero, List.set_cons_succ]
      refine wpAnyH_done (by kernel_rfl) ?_ _
      have K1 := Lib.hid (keepH H6.out (Array.getElem?_eq_some_iff.1 HB1.out).1 HB1.out)
      have r6 := box_cell K1.out
      gi_wp2
      exact .inr ⟨rfl, (keeps_belowX (W := W) ((Below.refl _ W).drew.trans H6.out)).trans (KeepsOthers.setCell _ _ _), Boxed.set _ K1.out, HCB.out, (HBW.out.drew.trans (H6.out.mono HBW.out.drew.size)).setCell (p := ⟨w.heap.size + 1, 0, none⟩) (by simp) _⟩
  case done =>
    rintro D W hD ⟨⟨b1, b2, b3⟩, hpre, hB⟩ hK
    have hcb := HYES.out hpre
    have r1 := box_cell b1
    have hDl := (Array.getElem?_eq_some_iff.1 hK).1
    have hK2 : (W.setCell ⟨w.heap.size + 1, 0, none⟩ (.bool true)).heap[D]? = some (.deferred (some [])) := ((grownBy_setCell' W (w.heap.size + 1) (.bool true)).block D hDl (by simp; omega)).trans hK
    have hB3 := (Boxed.set (.bool true) b1)
    have hBB := hB.setCell (p := ⟨w.heap.size + 1, 0, none⟩) (by simp) (.bool true)
    have hPB := belowK_b (n₀ := w.heap.size) (w := w) (Nat.le_refl _) (W.setCell ⟨w.heap.size + 1, 0, none⟩ (.bool true)) D (.deferred (some [])) (.deferred none) (by omega) hK2 rfl rfl
    have hF : ((W.setCell ⟨w.heap.size + 1, 0, none⟩ (.bool true)).putObj D (.deferred none)).cell? ⟨w.heap.size + 1, 0, none⟩ = some (.bool true) := (box_cell ((World.putObj_heap_other (by omega)).trans hB3)).1
    subst hcb
    clear hpre b2 b3 HYES HBAD
    gi_wp2
    refine ⟨by simp, .inl ⟨_, _, rfl, run_takeDeferred hK2, ?_⟩⟩
    exact ⟨.bool true, by simp [results, Tryz.results28, go_sem, hF], rfl, hBB.trans hPB⟩
  case ret =>
    rintro D W hD ⟨b1, hcb, hB⟩ hK
    have hPB := belowK_b (n₀ := w.heap.size) (w := w) (Nat.le_refl _) W D (.deferred (some [])) (.deferred none) (by omega) hK rfl rfl
    have hF : (W.putObj D (.deferred none)).cell? ⟨w.heap.size + 1, 0, none⟩ = some (.bool false) := (box_cell ((World.putObj_heap_other (by omega)).trans b1)).1
    subst hcb
    refine ⟨by simp, .inl ⟨_, _, rfl, run_takeDeferred hK, ?_⟩⟩
    exact ⟨.bool false, by simp [results, Tryz.results28, go_sem, hF], rfl, hB.trans hPB⟩
set_option maxHeartbeats 1000000 in
theorem iCho (w : World) (a : Option Addr) (l : List Int) (n cap : Nat) (s t : Int) (hn : n = l.length) (hm : n ≤ 9223372036854775807) (hi : Ints w a l) (B : Nat) (hB0 : B ≤ w.heap.size) (ht : TabE B w) :
    Calls Tryz.prog 28 #[.agg #[.slice a n cap], .int .i64 s, .int .i64 t] w fun e w' => e = .returned (.bool (choB l s t)) ∧ Below w.heap.size w w' := by
  cases hs : neB l s t with
  | false => rw [cho_no hs]; exact iCho_no w a l n cap s t hn hm hi B hB0 ht hs
  | true =>
    cases h0 : t.toNat.testBit 0 with
    | true => exact iCho_yes w a l n cap s t hn hm hi B hB0 ht hs h0
    | false =>
      have e : choB l s t = false := by unfold choB; rw [h0]; simp
      rw [e]
      exact iCho_zero w a l n cap s t hn hm hi hs h0
end Go.Proofs.YtaacofbmbpkeoaaGreatDoor
