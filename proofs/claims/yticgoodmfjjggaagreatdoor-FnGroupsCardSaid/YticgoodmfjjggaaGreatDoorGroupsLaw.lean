/- The walk of the law FnGroups: at every code it answers true. -/
import Derived.Test.YticgoodmfjjggaaGreatDoorQG
import Derived.Deep.RegionHeld3
import Derived.Deep.DeepCutAuto
namespace Go.Proofs.YticgoodmfjjggaaGreatDoor
open Go.RowKit
set_option maxRecDepth 1000000
theorem plc_few (l : List Int) (x : Int) : (plc l x).length ≤ 3 := by
  unfold plc
  split
  · next h => simp only [List.length_map, List.length_range]; exact (grpB_true (isE_true h).1).1
  · simp
set_option maxHeartbeats 8000000 in
theorem walkGroups (w : World) (a : Option Addr) (len cap : Nat) (hlen : len ≤ 9223372036854775807) (hd : CodeIn w a len) (mx : Int) (hv : w.cell? ⟨0, 0, none⟩ = some (.int .i64 mx)) (ht : TabOn w.heap.size w) :
    Calls Tryz.prog 3 #[.slice a len cap] w fun e w' => e = .returned (.bool true) ∧ Below w.heap.size w w' := by
  have HD := Lib.hid hd
  have HV := Lib.hid hv
  have HT := Lib.hid ht
  clear hd hv ht
  by_cases hbig : 1048576 < len
  · go_enter Tryz.func3, Tryz.ntmps3
    go_wp2_with (go_at_call 5; refine (big_yes _ _ _ _ hbig).mono ?_; rintro e w1 ⟨rfl, rfl⟩)
    go_ret
    exact ⟨rfl, Below.refl _ _⟩
  have hl20 : len ≤ 1048576 := by omega
  have b0 : Hid (Below w.heap.size w w) := Lib.hid (Below.refl _ _)
  clear hlen hbig
  go_enter Tryz.func3, Tryz.ntmps3
  go_upto_region 4 with (first
    | (go_at_call 6; refine (dAdd_any _ a len cap hl20 HD.out).mono ?_; rintro e w1 ⟨u1, l1, x, y, rfl, hx0, hx1, hy0, hy1, ho, hl, hb⟩; obtain ⟨au1, cu1, rfl⟩ := own_slice' rfl ho; have HO1 := Lib.hid ho; have HL1 := Lib.hid hl; have HB1 := Lib.hid hb; clear ho hl hb)
    | (go_at_call 5; refine (big_no _ _ _ _ hl20).mono ?_; rintro e w1 ⟨rfl, rfl⟩))
  obtain ⟨b1, i1, k1, s1⟩ := laid_of b0.out (Below.size b0.out) HO1.out HB1.out
  obtain ⟨gb1, hgb1⟩ : ∃ g, g = w1.heap.size := ⟨_, rfl⟩
  rw [← hgb1] at k1
  obtain ⟨W1, hW1⟩ : ∃ W, W = w1.alloc (.cells #[.slice au1 l1.length cu1] 26) := ⟨_, rfl⟩
  rw [← hW1] at b1 i1 k1 s1
  rw [← hW1, ← hgb1]
  have B1 := Lib.hid b1
  have I1 := Lib.hid i1
  have S1 := Lib.hid s1
  have o1 : On W1 W1 := Below.refl _ _
  clear b1 i1 s1 hW1 hgb1 HO1 HB1
  obtain ⟨z, hz⟩ : ∃ z, addE l1 x y = z := ⟨_, rfl⟩
  have HZ := Lib.hid hz
  have HZ2 : Hid (addE l1 y x = z) := Lib.hid ((addE_comm l1 y x).trans hz)
  obtain ⟨n, hn⟩ : ∃ n, ordN l1 = n := ⟨_, rfl⟩
  have HNN := Lib.hid hn
  obtain ⟨q, hq⟩ : ∃ q, expE l1 = q := ⟨_, rfl⟩
  have HQ := Lib.hid hq
  clear hz hn hq
  go_upto_region 6 with (first
    | (go_at_call 8; refine (giOrder I1.out HL1.out (by assumption)).mono ?_; rintro e w7 ⟨he, ho⟩; rw [HNN.out] at he; subst he; have g7 := ho.cell k1; have I7 := Lib.hid (ho.ints I1.out); have S7 := Lib.hid (Nat.le_trans S1.out (Below.size ho)); have B7 := Lib.hid (B1.out.trans (Below.mono ho S1.out)); clear ho)
    | (go_at_call 7; refine (giAdd I1.out HL1.out (by assumption)).mono ?_; rintro e wk ⟨he, ho⟩; rw [HZ.out] at he; subst he; have gk := ho.cell k1))
  go_cut [74] (fun s74 wx => s74 = .bool false ∧ Hid (On w7 wx))
  case first =>
    as_aux_lemma =>
    have ho : On w7 w7.drew := (show On w7 w7 from Below.refl _ _).drew
    try simp only [List.append_eq, List.cons_append, List.nil_append]
    refine wp_region_held_drew (S := (fun W => W.cell? ⟨gb1, 0, none⟩ = some (.slice au1 l1.length cu1))) (by kernel_rfl) (g7) (fun hHeld => ?_)
    refine wpAnyH_take (i := 0) (oi := _) (v := ?_) rfl (by as_aux_lemma => kernel_rfl) (by as_aux_lemma => kernel_rfl) (by as_aux_lemma => kernel_rfl) (fun _ _ _ h => h) (Or.inl ⟨by rfl, ?_⟩) (by assumption) ?_
    rotate_left
    · intro W' hSw
      try dsimp only at hSw
      simp only [List.getElem_toArray, List.getElem_cons_zero]
      go_simp
      try with_reducible rfl
    try simp only [Act.put, List.getElem_toArray, List.getElem_cons_zero, List.setIfInBounds_toArray, List.set_cons_zero, List.set_cons_succ]
    refine wpAnyH_take (i := 1) (oi := _) (v := ?_) rfl (by as_aux_lemma => kernel_rfl) (by as_aux_lemma => kernel_rfl) (by as_aux_lemma => kernel_rfl) (fun _ _ _ h => h) (Or.inl ⟨by rfl, ?_⟩) (by assumption) ?_
    rotate_left
    · intro W' hSw
      try dsimp only at hSw
      simp only [List.getElem_toArray, List.getElem_cons_succ, List.getElem_cons_zero]
      go_simp
      try with_reducible rfl
    try simp only [Act.put, List.getElem_toArray, List.getElem_cons_succ, List.getElem_cons_zero, List.setIfInBounds_toArray, List.set_cons_zero, List.set_cons_succ]
    refine wpAnyH_take (i := 2) (oi := _) (v := ?_) rfl (by as_aux_lemma => kernel_rfl) (by as_aux_lemma => kernel_rfl) (by as_aux_lemma => kernel_rfl) (fun _ _ _ h => h) (Or.inl ⟨by rfl, ?_⟩) (by assumption) ?_
    rotate_left
    · intro W' hSw
      try dsimp only at hSw
      simp only [List.getElem_toArray, List.getElem_cons_succ, List.getElem_cons_zero]
      go_simp
      try with_reducible rfl
    try simp only [Act.put, List.getElem_toArray, List.getElem_cons_succ, List.getElem_cons_zero, List.setIfInBounds_toArray, List.set_cons_zero, List.set_cons_succ]
    refine wpAnyH_take (i := 3) (oi := _) (v := ?_) rfl (by as_aux_lemma => kernel_rfl) (by as_aux_lemma => kernel_rfl) (by as_aux_lemma => kernel_rfl) (fun _ _ _ h => h) (Or.inl ⟨by rfl, ?_⟩) (by assumption) ?_
    rotate_left
    · intro W' hSw
      try dsimp only at hSw
      simp only [List.getElem_toArray, List.getElem_cons_succ, List.getElem_cons_zero]
      go_simp
      try with_reducible rfl
    try simp only [Act.put, List.getElem_toArray, List.getElem_cons_succ, List.getElem_cons_zero, List.setIfInBounds_toArray, List.set_cons_zero, List.set_cons_succ]
    refine wpAnyH_ready (rs := [4]) (by as_aux_lemma => kernel_rfl) (by simp) ?_
    refine AllReadyH.cons (o := _) rfl (fun K hK => ?_) (AllReadyH.nil)
    simp only [List.getElem_toArray, List.getElem_cons_succ, List.getElem_cons_zero]
    go_simp
    refine (gsAdd I7.out HL1.out (by assumption)).mono ?_
    rw [HZ.out]
    rintro e wk ⟨rfl, ho⟩
    refine hK.out _ _ (ho.cell g7) (fun hHeld => ?_)
    clear hK K
    try simp only [Act.put, List.getElem_toArray, List.getElem_cons_succ, List.getElem_cons_zero, List.setIfInBounds_toArray, List.set_cons_zero, List.set_cons_succ]
    refine wpAnyH_take (i := 5) (oi := _) (v := ?_) rfl (by as_aux_lemma => kernel_rfl) (by as_aux_lemma => kernel_rfl) (by as_aux_lemma => kernel_rfl) (fun _ _ _ h => h) (Or.inl ⟨by rfl, ?_⟩) (by assumption) ?_
    rotate_left
    · intro W' hSw
      try dsimp only at hSw
      simp only [List.getElem_toArray, List.getElem_cons_succ, List.getElem_cons_zero]
      go_simp
      try with_reducible rfl
    try simp only [Act.put, List.getElem_toArray, List.getElem_cons_succ, List.getElem_cons_zero, List.setIfInBounds_toArray, List.set_cons_zero, List.set_cons_succ]
    refine wpAnyH_take (i := 6) (oi := _) (v := ?_) rfl (by as_aux_lemma => kernel_rfl) (by as_aux_lemma => kernel_rfl) (by as_aux_lemma => kernel_rfl) (fun _ _ _ h => h) (Or.inl ⟨by rfl, ?_⟩) (by assumption) ?_
    rotate_left
    · intro W' hSw
      try dsimp only at hSw
      simp only [List.getElem_toArray, List.getElem_cons_succ, List.getElem_cons_zero]
      go_simp
      try with_reducible rfl
    try simp only [Act.put, List.getElem_toArray, List.getElem_cons_succ, List.getElem_cons_zero, List.setIfInBounds_toArray, List.set_cons_zero, List.set_cons_succ]
    refine wpAnyH_take (i := 7) (oi := _) (v := ?_) rfl (by as_aux_lemma => kernel_rfl) (by as_aux_lemma => kernel_rfl) (by as_aux_lemma => kernel_rfl) (fun _ _ _ h => h) (Or.inl ⟨by rfl, ?_⟩) (by assumption) ?_
    rotate_left
    · intro W' hSw
      try dsimp only at hSw
      simp only [List.getElem_toArray, List.getElem_cons_succ, List.getElem_cons_zero]
      go_simp
      try with_reducible rfl
    try simp only [Act.put, List.getElem_toArray, List.getElem_cons_succ, List.getElem_cons_zero, List.setIfInBounds_toArray, List.set_cons_zero, List.set_cons_succ]
    refine wpAnyH_take (i := 8) (oi := _) (v := ?_) rfl (by as_aux_lemma => kernel_rfl) (by as_aux_lemma => kernel_rfl) (by as_aux_lemma => kernel_rfl) (fun _ _ _ h => h) (Or.inl ⟨by rfl, ?_⟩) (by assumption) ?_
    rotate_left
    · intro W' hSw
      try dsimp only at hSw
      simp only [List.getElem_toArray, List.getElem_cons_succ, List.getElem_cons_zero]
      go_simp
      try with_reducible rfl
    try simp only [Act.put, List.getElem_toArray, List.getElem_cons_succ, List.getElem_cons_zero, List.setIfInBounds_toArray, List.set_cons_zero, List.set_cons_succ]
    refine wpAnyH_ready (rs := [9]) (by as_aux_lemma => kernel_rfl) (by simp) ?_
    refine AllReadyH.cons (o := _) rfl (fun K hK => ?_) (AllReadyH.nil)
    simp only [List.getElem_toArray, List.getElem_cons_succ, List.getElem_cons_zero]
    go_simp
    refine (gsOrder I7.out HL1.out (by assumption)).mono ?_
    rw [HNN.out]
    rintro e wk ⟨rfl, ho⟩
    refine hK.out _ _ (ho.cell g7) (fun hHeld => ?_)
    clear hK K
    try simp only [Act.put, List.getElem_toArray, List.getElem_cons_succ, List.getElem_cons_zero, List.setIfInBounds_toArray, List.set_cons_zero, List.set_cons_succ]
    refine wpAnyH_take (i := 10) (oi := _) (v := ?_) rfl (by as_aux_lemma => kernel_rfl) (by as_aux_lemma => kernel_rfl) (by as_aux_lemma => kernel_rfl) (fun _ _ _ h => h) (Or.inl ⟨by rfl, ?_⟩) (by assumption) ?_
    rotate_left
    · intro W' hSw
      try dsimp only at hSw
      simp only [List.getElem_toArray, List.getElem_cons_succ, List.getElem_cons_zero]
      go_simp
      try with_reducible rfl
    try simp only [Act.put, List.getElem_toArray, List.getElem_cons_succ, List.getElem_cons_zero, List.setIfInBounds_toArray, List.set_cons_zero, List.set_cons_succ]
    refine wpAnyH_take (i := 11) (oi := _) (v := ?_) rfl (by as_aux_lemma => kernel_rfl) (by as_aux_lemma => kernel_rfl) (by as_aux_lemma => kernel_rfl) (fun _ _ _ h => h) (Or.inl ⟨by rfl, ?_⟩) (by assumption) ?_
    rotate_left
    · intro W' hSw
      try dsimp only at hSw
      simp only [List.getElem_toArray, List.getElem_cons_succ, List.getElem_cons_zero]
      go_simp
      try with_reducible rfl
    try simp only [Act.put, List.getElem_toArray, List.getElem_cons_succ, List.getElem_cons_zero, List.setIfInBounds_toArray, List.set_cons_zero, List.set_cons_succ]
    refine wpAnyH_take (i := 12) (oi := _) (v := ?_) rfl (by as_aux_lemma => kernel_rfl) (by as_aux_lemma => kernel_rfl) (by as_aux_lemma => kernel_rfl) (fun _ _ _ h => h) (Or.inl ⟨by rfl, ?_⟩) (by assumption) ?_
    rotate_left
    · intro W' hSw
      try dsimp only at hSw
      simp only [List.getElem_toArray, List.getElem_cons_succ, List.getElem_cons_zero]
      go_simp
      try with_reducible rfl
    try simp only [Act.put, List.getElem_toArray, List.getElem_cons_succ, List.getElem_cons_zero, List.setIfInBounds_toArray, List.set_cons_zero, List.set_cons_succ]
    refine wpAnyH_take (i := 13) (oi := _) (v := ?_) rfl (by as_aux_lemma => kernel_rfl) (by as_aux_lemma => kernel_rfl) (by as_aux_lemma => kernel_rfl) (fun _ _ _ h => h) (Or.inl ⟨by rfl, ?_⟩) (by assumption) ?_
    rotate_left
    · intro W' hSw
      try dsimp only at hSw
      simp only [List.getElem_toArray, List.getElem_cons_succ, List.getElem_cons_zero]
      go_simp
      try with_reducible rfl
    try simp only [Act.put, List.getElem_toArray, List.getElem_cons_succ, List.getElem_cons_zero, List.setIfInBounds_toArray, List.set_cons_zero, List.set_cons_succ]
    refine wpAnyH_take (i := 15) (oi := _) (v := ?_) rfl (by as_aux_lemma => kernel_rfl) (by as_aux_lemma => kernel_rfl) (by as_aux_lemma => kernel_rfl) (fun _ _ _ h => h) (Or.inl ⟨by rfl, ?_⟩) (by assumption) ?_
    rotate_left
    · intro W' hSw
      try dsimp only at hSw
      simp only [List.getElem_toArray, List.getElem_cons_succ, List.getElem_cons_zero]
      go_simp
      try with_reducible rfl
    try simp only [Act.put, List.getElem_toArray, List.getElem_cons_succ, List.getElem_cons_zero, List.setIfInBounds_toArray, List.set_cons_zero, List.set_cons_succ]
    refine wpAnyH_ready (rs := [14]) (by as_aux_lemma => kernel_rfl) (by simp) ?_
    refine AllReadyH.cons (o := _) rfl (fun K hK => ?_) (AllReadyH.nil)
    simp only [List.getElem_toArray, List.getElem_cons_succ, List.getElem_cons_zero]
    go_simp
    refine (giExp I7.out HL1.out (by assumption)).mono ?_
    rw [HQ.out]
    rintro e wk ⟨rfl, ho⟩
    refine hK.out _ _ (ho.cell g7) (fun hHeld => ?_)
    clear hK K
    try simp only [Act.put, List.getElem_toArray, List.getElem_cons_succ, List.getElem_cons_zero, List.setIfInBounds_toArray, List.set_cons_zero, List.set_cons_succ]
    refine wpAnyH_ready (rs := [16]) (by as_aux_lemma => kernel_rfl) (by simp) ?_
    refine AllReadyH.cons (o := _) rfl (fun K hK => ?_) (AllReadyH.nil)
    simp only [List.getElem_toArray, List.getElem_cons_succ, List.getElem_cons_zero]
    go_simp
    refine (gsExp I7.out HL1.out (by assumption)).mono ?_
    rw [HQ.out]
    rintro e wk ⟨rfl, ho⟩
    refine hK.out _ _ (ho.cell g7) (fun hHeld => ?_)
    clear hK K
    try simp only [Act.put, List.getElem_toArray, List.getElem_cons_succ, List.getElem_cons_zero, List.setIfInBounds_toArray, List.set_cons_zero, List.set_cons_succ]
    refine wpAnyH_take (i := 17) (oi := _) (v := ?_) rfl (by as_aux_lemma => kernel_rfl) (by as_aux_lemma => kernel_rfl) (by as_aux_lemma => kernel_rfl) (fun _ _ _ h => h) (Or.inl ⟨by rfl, ?_⟩) (by assumption) ?_
    rotate_left
    · intro W' hSw
      try dsimp only at hSw
      simp only [List.getElem_toArray, List.getElem_cons_succ, List.getElem_cons_zero]
      go_simp
      try with_reducible rfl
    try simp only [Act.put, List.getElem_toArray, List.getElem_cons_succ, List.getElem_cons_zero, List.setIfInBounds_toArray, List.set_cons_zero, List.set_cons_succ]
    refine wpAnyH_take (i := 18) (oi := _) (v := ?_) rfl (by as_aux_lemma => kernel_rfl) (by as_aux_lemma => kernel_rfl) (by as_aux_lemma => kernel_rfl) (fun _ _ _ h => h) (Or.inl ⟨by rfl, ?_⟩) (by assumption) ?_
    rotate_left
    · intro W' hSw
      try dsimp only at hSw
      simp only [List.getElem_toArray, List.getElem_cons_succ, List.getElem_cons_zero]
      go_simp
      try with_reducible rfl
    try simp only [Act.put, List.getElem_toArray, List.getElem_cons_succ, List.getElem_cons_zero, List.setIfInBounds_toArray, List.set_cons_zero, List.set_cons_succ]
    refine wpAnyH_take (i := 19) (oi := _) (v := ?_) rfl (by as_aux_lemma => kernel_rfl) (by as_aux_lemma => kernel_rfl) (by as_aux_lemma => kernel_rfl) (fun _ _ _ h => h) (Or.inl ⟨by rfl, ?_⟩) (by assumption) ?_
    rotate_left
    · intro W' hSw
      try dsimp only at hSw
      simp only [List.getElem_toArray, List.getElem_cons_succ, List.getElem_cons_zero]
      go_simp
      try with_reducible rfl
    try simp only [Act.put, List.getElem_toArray, List.getElem_cons_succ, List.getElem_cons_zero, List.setIfInBounds_toArray, List.set_cons_zero, List.set_cons_succ]
    refine wpAnyH_take (i := 20) (oi := _) (v := ?_) rfl (by as_aux_lemma => kernel_rfl) (by as_aux_lemma => kernel_rfl) (by as_aux_lemma => kernel_rfl) (fun _ _ _ h => h) (Or.inl ⟨by rfl, ?_⟩) (by assumption) ?_
    rotate_left
    · intro W' hSw
      try dsimp only at hSw
      simp only [List.getElem_toArray, List.getElem_cons_succ, List.getElem_cons_zero]
      go_simp
      try with_reducible rfl
    try simp only [Act.put, List.getElem_toArray, List.getElem_cons_succ, List.getElem_cons_zero, List.setIfInBounds_toArray, List.set_cons_zero, List.set_cons_succ]
    refine wpAnyH_take (i := 21) (oi := _) (v := ?_) rfl (by as_aux_lemma => kernel_rfl) (by as_aux_lemma => kernel_rfl) (by as_aux_lemma => kernel_rfl) (fun _ _ _ h => h) (Or.inl ⟨by rfl, ?_⟩) (by assumption) ?_
    rotate_left
    · intro W' hSw
      try dsimp only at hSw
      simp only [List.getElem_toArray, List.getElem_cons_succ, List.getElem_cons_zero]
      go_simp
      try with_reducible rfl
    try simp only [Act.put, List.getElem_toArray, List.getElem_cons_succ, List.getElem_cons_zero, List.setIfInBounds_toArray, List.set_cons_zero, List.set_cons_succ]
    refine wpAnyH_take (i := 22) (oi := _) (v := ?_) rfl (by as_aux_lemma => kernel_rfl) (by as_aux_lemma => kernel_rfl) (by as_aux_lemma => kernel_rfl) (fun _ _ _ h => h) (Or.inl ⟨by rfl, ?_⟩) (by assumption) ?_
    rotate_left
    · intro W' hSw
      try dsimp only at hSw
      simp only [List.getElem_toArray, List.getElem_cons_succ, List.getElem_cons_zero]
      go_simp
      try with_reducible rfl
    try simp only [Act.put, List.getElem_toArray, List.getElem_cons_succ, List.getElem_cons_zero, List.setIfInBounds_toArray, List.set_cons_zero, List.set_cons_succ]
    refine wpAnyH_take (i := 23) (oi := _) (v := ?_) rfl (by as_aux_lemma => kernel_rfl) (by as_aux_lemma => kernel_rfl) (by as_aux_lemma => kernel_rfl) (fun _ _ _ h => h) (Or.inl ⟨by rfl, ?_⟩) (by assumption) ?_
    rotate_left
    · intro W' hSw
      try dsimp only at hSw
      simp only [List.getElem_toArray, List.getElem_cons_succ, List.getElem_cons_zero]
      go_simp
      try with_reducible rfl
    try simp only [Act.put, List.getElem_toArray, List.getElem_cons_succ, List.getElem_cons_zero, List.setIfInBounds_toArray, List.set_cons_zero, List.set_cons_succ]
    refine wpAnyH_ready (rs := [24]) (by as_aux_lemma => kernel_rfl) (by simp) ?_
    refine AllReadyH.cons (o := _) rfl (fun K hK => ?_) (AllReadyH.nil)
    simp only [List.getElem_toArray, List.getElem_cons_succ, List.getElem_cons_zero]
    go_simp
    refine (giAdd I7.out HL1.out (by assumption)).mono ?_
    rw [HZ2.out]
    rintro e wk ⟨rfl, ho⟩
    refine hK.out _ _ (ho.cell g7) (fun hHeld => ?_)
    clear hK K
    try simp only [Act.put, List.getElem_toArray, List.getElem_cons_succ, List.getElem_cons_zero, List.setIfInBounds_toArray, List.set_cons_zero, List.set_cons_succ]
    refine wpAnyH_take (i := 25) (oi := _) (v := ?_) rfl (by as_aux_lemma => kernel_rfl) (by as_aux_lemma => kernel_rfl) (by as_aux_lemma => kernel_rfl) (fun _ _ _ h => h) (Or.inl ⟨by rfl, ?_⟩) (by assumption) ?_
    rotate_left
    · intro W' hSw
      try dsimp only at hSw
      simp only [List.getElem_toArray, List.getElem_cons_succ, List.getElem_cons_zero]
      go_simp
      try with_reducible rfl
    try simp only [Act.put, List.getElem_toArray, List.getElem_cons_succ, List.getElem_cons_zero, List.setIfInBounds_toArray, List.set_cons_zero, List.set_cons_succ]
    refine wpAnyH_take (i := 26) (oi := _) (v := ?_) rfl (by as_aux_lemma => kernel_rfl) (by as_aux_lemma => kernel_rfl) (by as_aux_lemma => kernel_rfl) (fun _ _ _ h => h) (Or.inl ⟨by rfl, ?_⟩) (by assumption) ?_
    rotate_left
    · intro W' hSw
      try dsimp only at hSw
      simp only [List.getElem_toArray, List.getElem_cons_succ, List.getElem_cons_zero]
      go_simp
      try with_reducible rfl
    try simp only [Act.put, List.getElem_toArray, List.getElem_cons_succ, List.getElem_cons_zero, List.setIfInBounds_toArray, List.set_cons_zero, List.set_cons_succ]
    refine wpAnyH_done (by kernel_rfl) ?_ _
    go_wp2_with fail
    go_meet
    exact ⟨rfl, Lib.hid ho⟩
  case rest =>
    obtain ⟨rfl, H8⟩ := hcut
    have I8 := Lib.hid (H8.out.ints I7.out)
    have g8 := H8.out.cell g7
    have S8 := Lib.hid (Nat.le_trans S7.out (Below.size H8.out))
    have B8 := Lib.hid (B7.out.trans (Below.mono H8.out S7.out))
    obtain ⟨W8, hW8⟩ : ∃ W, W = wc := ⟨_, rfl⟩
    rw [← hW8] at I8 g8 S8 B8
    rw [← hW8]
    clear H8 g7 I7 S7 B7 hW8 wc
    go_upto_if 76 with fail
    go_cut [7] (fun s7 wx => s7 = .int .i64 n ∧ Hid (On W8 wx))
    case first =>
      by_cases hz0 : 0 ≤ z
      · as_aux_lemma =>
        obtain ⟨hx, hy, hzs⟩ := addE_sum (l := l1) (x := x) (y := y) (by rw [HZ.out]; exact hz0)
        obtain ⟨e1, e2, e3⟩ := sum_back (l := l1) (x := x) (y := y) (by rw [HZ.out]; exact hz0)
        rw [HZ.out] at e1 e3
        obtain ⟨u, hu⟩ : ∃ u, negE l1 y = u := ⟨_, rfl⟩
        rw [hu] at e1
        have HU := Lib.hid hu
        have E1 := Lib.hid e1
        have E2 := Lib.hid e2
        have E3 := Lib.hid e3
        have HX := Lib.hid hx
        have hn1 : 1 ≤ n := by rw [← HNN.out, ordN_grp (isE_true hx).1]; exact (ords_grp (isE_true hx).1).prod.1
        have hn2 : n ≤ 24 := by rw [← HNN.out, ordN_grp (isE_true hx).1]; exact (ords_grp (isE_true hx).1).prod.2
        have hnz : ¬ n = 0 := by omega
        have o8 : On W8 W8 := Below.refl _ _
        clear hx hy hzs e1 e2 e3 hu 
        go_upto_region 11 with (first
          | (go_at_call 14; refine (at_any _ a len cap 3 (by decide) (by decide) hl20 (HD.out.keep (B8.out.trans (Below.mono O9.out S8.out)))).mono ?_; rintro e w10 ⟨b, he, hb0, hb1, hw⟩; subst he; subst hw)
          | (go_at_call 13; refine (giNeg I8.out HL1.out (by assumption)).mono ?_; rintro e w9 ⟨he, ho⟩; rw [HU.out] at he; subst he; have g9 := ho.cell g8; have O9 := Lib.hid ho; clear ho))
        as_aux_lemma =>
        obtain ⟨v, hve⟩ : ∃ v, b % n = v := ⟨_, rfl⟩
        have hE : isE l1 v = true := by rw [← hve]; exact isE_elem (isE_true HX.out).1 (Int.emod_nonneg _ (by omega)) (by rw [← ordN_grp (isE_true HX.out).1, HNN.out]; exact Int.emod_lt_of_pos _ (by omega))
        rw [hve]
        have e3 := E3.out v hE
        obtain ⟨s, hs⟩ : ∃ s, addE l1 y v = s := ⟨_, rfl⟩
        obtain ⟨t, ht⟩ : ∃ t, addE l1 z v = t := ⟨_, rfl⟩
        rw [hs, ht] at e3
        have F1 := Lib.hid hs
        have F2 := Lib.hid ht
        have F3 : Hid (addE l1 x s = t) := Lib.hid e3.symm
        have I9 := Lib.hid (O9.out.ints I8.out)
        clear hve hE e3 hs ht hb0 hb1
        have ho : On w9 w9.drew := (show On w9 w9 from Below.refl _ _).drew
        try simp only [List.append_eq, List.cons_append, List.nil_append]
        refine wp_region_held_drew (S := (fun W => W.cell? ⟨gb1, 0, none⟩ = some (.slice au1 l1.length cu1))) (by kernel_rfl) (g9) (fun hHeld => ?_)
        refine wpAnyH_take (i := 0) (oi := _) (v := ?_) rfl (by as_aux_lemma => kernel_rfl) (by as_aux_lemma => kernel_rfl) (by as_aux_lemma => kernel_rfl) (fun _ _ _ h => h) (Or.inl ⟨by rfl, ?_⟩) (by assumption) ?_
        rotate_left
        · intro W' hSw
          try dsimp only at hSw
          simp only [List.getElem_toArray, List.getElem_cons_zero]
          go_simp
          try with_reducible rfl
        try simp only [Act.put, List.getElem_toArray, List.getElem_cons_zero, List.setIfInBounds_toArray, List.set_cons_zero, List.set_cons_succ]
        refine wpAnyH_take (i := 1) (oi := _) (v := ?_) rfl (by as_aux_lemma => kernel_rfl) (by as_aux_lemma => kernel_rfl) (by as_aux_lemma => kernel_rfl) (fun _ _ _ h => h) (Or.inl ⟨by rfl, ?_⟩) (by assumption) ?_
        rotate_left
        · intro W' hSw
          try dsimp only at hSw
          simp only [List.getElem_toArray, List.getElem_cons_succ, List.getElem_cons_zero]
          go_simp
          try with_reducible rfl
        try simp only [Act.put, List.getElem_toArray, List.getElem_cons_succ, List.getElem_cons_zero, List.setIfInBounds_toArray, List.set_cons_zero, List.set_cons_succ]
        refine wpAnyH_take (i := 2) (oi := _) (v := ?_) rfl (by as_aux_lemma => kernel_rfl) (by as_aux_lemma => kernel_rfl) (by as_aux_lemma => kernel_rfl) (fun _ _ _ h => h) (Or.inl ⟨by rfl, ?_⟩) (by assumption) ?_
        rotate_left
        · intro W' hSw
          try dsimp only at hSw
          simp only [List.getElem_toArray, List.getElem_cons_succ, List.getElem_cons_zero]
          go_simp
          try with_reducible rfl
        try simp only [Act.put, List.getElem_toArray, List.getElem_cons_succ, List.getElem_cons_zero, List.setIfInBounds_toArray, List.set_cons_zero, List.set_cons_succ]
        refine wpAnyH_take (i := 4) (oi := _) (v := ?_) rfl (by as_aux_lemma => kernel_rfl) (by as_aux_lemma => kernel_rfl) (by as_aux_lemma => kernel_rfl) (fun _ _ _ h => h) (Or.inl ⟨by rfl, ?_⟩) (by assumption) ?_
        rotate_left
        · intro W' hSw
          try dsimp only at hSw
          simp only [List.getElem_toArray, List.getElem_cons_succ, List.getElem_cons_zero]
          go_simp
          try with_reducible rfl
        try simp only [Act.put, List.getElem_toArray, List.getElem_cons_succ, List.getElem_cons_zero, List.setIfInBounds_toArray, List.set_cons_zero, List.set_cons_succ]
        refine wpAnyH_ready (rs := [3]) (by as_aux_lemma => kernel_rfl) (by simp) ?_
        refine AllReadyH.cons (o := _) rfl (fun K hK => ?_) (AllReadyH.nil)
        simp only [List.getElem_toArray, List.getElem_cons_succ, List.getElem_cons_zero]
        go_simp
        refine (giAdd I9.out HL1.out (by assumption)).mono ?_
        first | rw [E1.out] | rw [E2.out] | rw [F2.out] | rw [F3.out]
        rintro e wk ⟨rfl, ho⟩
        refine hK.out _ _ (ho.cell g9) (fun hHeld => ?_)
        clear hK K
        try simp only [Act.put, List.getElem_toArray, List.getElem_cons_succ, List.getElem_cons_zero, List.setIfInBounds_toArray, List.set_cons_zero, List.set_cons_succ]
        refine wpAnyH_take (i := 5) (oi := _) (v := ?_) rfl (by as_aux_lemma => kernel_rfl) (by as_aux_lemma => kernel_rfl) (by as_aux_lemma => kernel_rfl) (fun _ _ _ h => h) (Or.inl ⟨by rfl, ?_⟩) (by assumption) ?_
        rotate_left
        · intro W' hSw
          try dsimp only at hSw
          simp only [List.getElem_toArray, List.getElem_cons_succ, List.getElem_cons_zero]
          go_simp
          try with_reducible rfl
        try simp only [Act.put, List.getElem_toArray, List.getElem_cons_succ, List.getElem_cons_zero, List.setIfInBounds_toArray, List.set_cons_zero, List.set_cons_succ]
        refine wpAnyH_take (i := 6) (oi := _) (v := ?_) rfl (by as_aux_lemma => kernel_rfl) (by as_aux_lemma => kernel_rfl) (by as_aux_lemma => kernel_rfl) (fun _ _ _ h => h) (Or.inl ⟨by rfl, ?_⟩) (by assumption) ?_
        rotate_left
        · intro W' hSw
          try dsimp only at hSw
          simp only [List.getElem_toArray, List.getElem_cons_succ, List.getElem_cons_zero]
          go_simp
          try with_reducible rfl
        try simp only [Act.put, List.getElem_toArray, List.getElem_cons_succ, List.getElem_cons_zero, List.setIfInBounds_toArray, List.set_cons_zero, List.set_cons_succ]
        refine wpAnyH_take (i := 7) (oi := _) (v := ?_) rfl (by as_aux_lemma => kernel_rfl) (by as_aux_lemma => kernel_rfl) (by as_aux_lemma => kernel_rfl) (fun _ _ _ h => h) (Or.inl ⟨by rfl, ?_⟩) (by assumption) ?_
        rotate_left
        · intro W' hSw
          try dsimp only at hSw
          simp only [List.getElem_toArray, List.getElem_cons_succ, List.getElem_cons_zero]
          go_simp
          try with_reducible rfl
        try simp only [Act.put, List.getElem_toArray, List.getElem_cons_succ, List.getElem_cons_zero, List.setIfInBounds_toArray, List.set_cons_zero, List.set_cons_succ]
        refine wpAnyH_take (i := 8) (oi := _) (v := ?_) rfl (by as_aux_lemma => kernel_rfl) (by as_aux_lemma => kernel_rfl) (by as_aux_lemma => kernel_rfl) (fun _ _ _ h => h) (Or.inl ⟨by rfl, ?_⟩) (by assumption) ?_
        rotate_left
        · intro W' hSw
          try dsimp only at hSw
          simp only [List.getElem_toArray, List.getElem_cons_succ, List.getElem_cons_zero]
          go_simp
          try with_reducible rfl
        try simp only [Act.put, List.getElem_toArray, List.getElem_cons_succ, List.getElem_cons_zero, List.setIfInBounds_toArray, List.set_cons_zero, List.set_cons_succ]
        refine wpAnyH_take (i := 10) (oi := _) (v := ?_) rfl (by as_aux_lemma => kernel_rfl) (by as_aux_lemma => kernel_rfl) (by as_aux_lemma => kernel_rfl) (fun _ _ _ h => h) (Or.inl ⟨by rfl, ?_⟩) (by assumption) ?_
        rotate_left
        · intro W' hSw
          try dsimp only at hSw
          simp only [List.getElem_toArray, List.getElem_cons_succ, List.getElem_cons_zero]
          go_simp
          try with_reducible rfl
        try simp only [Act.put, List.getElem_toArray, List.getElem_cons_succ, List.getElem_cons_zero, List.setIfInBounds_toArray, List.set_cons_zero, List.set_cons_succ]
        refine wpAnyH_ready (rs := [9]) (by as_aux_lemma => kernel_rfl) (by simp) ?_
        refine AllReadyH.cons (o := _) rfl (fun K hK => ?_) (AllReadyH.nil)
        simp only [List.getElem_toArray, List.getElem_cons_succ, List.getElem_cons_zero]
        go_simp
        refine (giAdd I9.out HL1.out (by assumption)).mono ?_
        first | rw [E1.out] | rw [E2.out] | rw [F2.out] | rw [F3.out]
        rintro e wk ⟨rfl, ho⟩
        refine hK.out _ _ (ho.cell g9) (fun hHeld => ?_)
        clear hK K
        try simp only [Act.put, List.getElem_toArray, List.getElem_cons_succ, List.getElem_cons_zero, List.setIfInBounds_toArray, List.set_cons_zero, List.set_cons_succ]
        refine wpAnyH_take (i := 11) (oi := _) (v := ?_) rfl (by as_aux_lemma => kernel_rfl) (by as_aux_lemma => kernel_rfl) (by as_aux_lemma => kernel_rfl) (fun _ _ _ h => h) (Or.inl ⟨by rfl, ?_⟩) (by assumption) ?_
        rotate_left
        · intro W' hSw
          try dsimp only at hSw
          simp only [List.getElem_toArray, List.getElem_cons_succ, List.getElem_cons_zero]
          go_simp
          try with_reducible rfl
        try simp only [Act.put, List.getElem_toArray, List.getElem_cons_succ, List.getElem_cons_zero, List.setIfInBounds_toArray, List.set_cons_zero, List.set_cons_succ]
        refine wpAnyH_take (i := 12) (oi := _) (v := ?_) rfl (by as_aux_lemma => kernel_rfl) (by as_aux_lemma => kernel_rfl) (by as_aux_lemma => kernel_rfl) (fun _ _ _ h => h) (Or.inl ⟨by rfl, ?_⟩) (by assumption) ?_
        rotate_left
        · intro W' hSw
          try dsimp only at hSw
          simp only [List.getElem_toArray, List.getElem_cons_succ, List.getElem_cons_zero]
          go_simp
          try with_reducible rfl
        try simp only [Act.put, List.getElem_toArray, List.getElem_cons_succ, List.getElem_cons_zero, List.setIfInBounds_toArray, List.set_cons_zero, List.set_cons_succ]
        refine wpAnyH_take (i := 13) (oi := _) (v := ?_) rfl (by as_aux_lemma => kernel_rfl) (by as_aux_lemma => kernel_rfl) (by as_aux_lemma => kernel_rfl) (fun _ _ _ h => h) (Or.inl ⟨by rfl, ?_⟩) (by assumption) ?_
        rotate_left
        · intro W' hSw
          try dsimp only at hSw
          simp only [List.getElem_toArray, List.getElem_cons_succ, List.getElem_cons_zero]
          go_simp
          try with_reducible rfl
        try simp only [Act.put, List.getElem_toArray, List.getElem_cons_succ, List.getElem_cons_zero, List.setIfInBounds_toArray, List.set_cons_zero, List.set_cons_succ]
        refine wpAnyH_take (i := 14) (oi := _) (v := ?_) rfl (by as_aux_lemma => kernel_rfl) (by as_aux_lemma => kernel_rfl) (by as_aux_lemma => kernel_rfl) (fun _ _ _ h => h) (Or.inl ⟨by rfl, ?_⟩) (by assumption) ?_
        rotate_left
        · intro W' hSw
          try dsimp only at hSw
          simp only [List.getElem_toArray, List.getElem_cons_succ, List.getElem_cons_zero]
          go_simp
          try with_reducible rfl
        try simp only [Act.put, List.getElem_toArray, List.getElem_cons_succ, List.getElem_cons_zero, List.setIfInBounds_toArray, List.set_cons_zero, List.set_cons_succ]
        refine wpAnyH_take (i := 15) (oi := _) (v := ?_) rfl (by as_aux_lemma => kernel_rfl) (by as_aux_lemma => kernel_rfl) (by as_aux_lemma => kernel_rfl) (fun _ _ _ h => h) (Or.inl ⟨by rfl, ?_⟩) (by assumption) ?_
        rotate_left
        · intro W' hSw
          try dsimp only at hSw
          simp only [List.getElem_toArray, List.getElem_cons_succ, List.getElem_cons_zero]
          go_simp
          try with_reducible rfl
        try simp only [Act.put, List.getElem_toArray, List.getElem_cons_succ, List.getElem_cons_zero, List.setIfInBounds_toArray, List.set_cons_zero, List.set_cons_succ]
        refine wpAnyH_take (i := 16) (oi := _) (v := ?_) rfl (by as_aux_lemma => kernel_rfl) (by as_aux_lemma => kernel_rfl) (by as_aux_lemma => kernel_rfl) (fun _ _ _ h => h) (Or.inl ⟨by rfl, ?_⟩) (by assumption) ?_
        rotate_left
        · intro W' hSw
          try dsimp only at hSw
          simp only [List.getElem_toArray, List.getElem_cons_succ, List.getElem_cons_zero]
          go_simp
          try with_reducible rfl
        try simp only [Act.put, List.getElem_toArray, List.getElem_cons_succ, List.getElem_cons_zero, List.setIfInBounds_toArray, List.set_cons_zero, List.set_cons_succ]
        refine wpAnyH_take (i := 18) (oi := _) (v := ?_) rfl (by as_aux_lemma => kernel_rfl) (by as_aux_lemma => kernel_rfl) (by as_aux_lemma => kernel_rfl) (fun _ _ _ h => h) (Or.inl ⟨by rfl, ?_⟩) (by assumption) ?_
        rotate_left
        · intro W' hSw
          try dsimp only at hSw
          simp only [List.getElem_toArray, List.getElem_cons_succ, List.getElem_cons_zero]
          go_simp
          try with_reducible rfl
        try simp only [Act.put, List.getElem_toArray, List.getElem_cons_succ, List.getElem_cons_zero, List.setIfInBounds_toArray, List.set_cons_zero, List.set_cons_succ]
        refine wpAnyH_take (i := 19) (oi := _) (v := ?_) rfl (by as_aux_lemma => kernel_rfl) (by as_aux_lemma => kernel_rfl) (by as_aux_lemma => kernel_rfl) (fun _ _ _ h => h) (Or.inl ⟨by rfl, ?_⟩) (by assumption) ?_
        rotate_left
        · intro W' hSw
          try dsimp only at hSw
          simp only [List.getElem_toArray, List.getElem_cons_succ, List.getElem_cons_zero]
          go_simp
          try with_reducible rfl
        try simp only [Act.put, List.getElem_toArray, List.getElem_cons_succ, List.getElem_cons_zero, List.setIfInBounds_toArray, List.set_cons_zero, List.set_cons_succ]
        refine wpAnyH_take (i := 20) (oi := _) (v := ?_) rfl (by as_aux_lemma => kernel_rfl) (by as_aux_lemma => kernel_rfl) (by as_aux_lemma => kernel_rfl) (fun _ _ _ h => h) (Or.inl ⟨by rfl, ?_⟩) (by assumption) ?_
        rotate_left
        · intro W' hSw
          try dsimp only at hSw
          simp only [List.getElem_toArray, List.getElem_cons_succ, List.getElem_cons_zero]
          go_simp
          try with_reducible rfl
        try simp only [Act.put, List.getElem_toArray, List.getElem_cons_succ, List.getElem_cons_zero, List.setIfInBounds_toArray, List.set_cons_zero, List.set_cons_succ]
        refine wpAnyH_take (i := 21) (oi := _) (v := ?_) rfl (by as_aux_lemma => kernel_rfl) (by as_aux_lemma => kernel_rfl) (by as_aux_lemma => kernel_rfl) (fun _ _ _ h => h) (Or.inl ⟨by rfl, ?_⟩) (by assumption) ?_
        rotate_left
        · intro W' hSw
          try dsimp only at hSw
          simp only [List.getElem_toArray, List.getElem_cons_succ, List.getElem_cons_zero]
          go_simp
          try with_reducible rfl
        try simp only [Act.put, List.getElem_toArray, List.getElem_cons_succ, List.getElem_cons_zero, List.setIfInBounds_toArray, List.set_cons_zero, List.set_cons_succ]
        refine wpAnyH_take (i := 22) (oi := _) (v := ?_) rfl (by as_aux_lemma => kernel_rfl) (by as_aux_lemma => kernel_rfl) (by as_aux_lemma => kernel_rfl) (fun _ _ _ h => h) (Or.inl ⟨by rfl, ?_⟩) (by assumption) ?_
        rotate_left
        · intro W' hSw
          try dsimp only at hSw
          simp only [List.getElem_toArray, List.getElem_cons_succ, List.getElem_cons_zero]
          go_simp
          try with_reducible rfl
        try simp only [Act.put, List.getElem_toArray, List.getElem_cons_succ, List.getElem_cons_zero, List.setIfInBounds_toArray, List.set_cons_zero, List.set_cons_succ]
        refine wpAnyH_ready (rs := [17]) (by as_aux_lemma => kernel_rfl) (by simp) ?_
        refine AllReadyH.cons (o := _) rfl (fun K hK => ?_) (AllReadyH.nil)
        simp only [List.getElem_toArray, List.getElem_cons_succ, List.getElem_cons_zero]
        go_simp
        refine (giAdd I9.out HL1.out (by assumption)).mono ?_
        first | rw [E1.out] | rw [E2.out] | rw [F2.out] | rw [F3.out]
        rintro e wk ⟨rfl, ho⟩
        refine hK.out _ _ (ho.cell g9) (fun hHeld => ?_)
        clear hK K
        try simp only [Act.put, List.getElem_toArray, List.getElem_cons_succ, List.getElem_cons_zero, List.setIfInBounds_toArray, List.set_cons_zero, List.set_cons_succ]
        refine wpAnyH_ready (rs := [23]) (by as_aux_lemma => kernel_rfl) (by simp) ?_
        refine AllReadyH.cons (o := _) rfl (fun K hK => ?_) (AllReadyH.nil)
        simp only [List.getElem_toArray, List.getElem_cons_succ, List.getElem_cons_zero]
        go_simp
        refine (gsAdd I9.out HL1.out (by assumption)).mono ?_
        rw [F1.out]
        rintro e wk ⟨rfl, ho⟩
        refine hK.out _ _ (ho.cell g9) (fun hHeld => ?_)
        clear hK K
        try simp only [Act.put, List.getElem_toArray, List.getElem_cons_succ, List.getElem_cons_zero, List.setIfInBounds_toArray, List.set_cons_zero, List.set_cons_succ]
        refine wpAnyH_ready (rs := [24]) (by as_aux_lemma => kernel_rfl) (by simp) ?_
        refine AllReadyH.cons (o := _) rfl (fun K hK => ?_) (AllReadyH.nil)
        simp only [List.getElem_toArray, List.getElem_cons_succ, List.getElem_cons_zero]
        go_simp
        refine (giAdd I9.out HL1.out (by assumption)).mono ?_
        first | rw [E1.out] | rw [E2.out] | rw [F2.out] | rw [F3.out]
        rintro e wk ⟨rfl, ho⟩
        refine hK.out _ _ (ho.cell g9) (fun hHeld => ?_)
        clear hK K
        try simp only [Act.put, List.getElem_toArray, List.getElem_cons_succ, List.getElem_cons_zero, List.setIfInBounds_toArray, List.set_cons_zero, List.set_cons_succ]
        refine wpAnyH_take (i := 25) (oi := _) (v := ?_) rfl (by as_aux_lemma => kernel_rfl) (by as_aux_lemma => kernel_rfl) (by as_aux_lemma => kernel_rfl) (fun _ _ _ h => h) (Or.inl ⟨by rfl, ?_⟩) (by assumption) ?_
        rotate_left
        · intro W' hSw
          try dsimp only at hSw
          simp only [List.getElem_toArray, List.getElem_cons_succ, List.getElem_cons_zero]
          go_simp
          try with_reducible rfl
        try simp only [Act.put, List.getElem_toArray, List.getElem_cons_succ, List.getElem_cons_zero, List.setIfInBounds_toArray, List.set_cons_zero, List.set_cons_succ]
        refine wpAnyH_take (i := 26) (oi := _) (v := ?_) rfl (by as_aux_lemma => kernel_rfl) (by as_aux_lemma => kernel_rfl) (by as_aux_lemma => kernel_rfl) (fun _ _ _ h => h) (Or.inl ⟨by rfl, ?_⟩) (by assumption) ?_
        rotate_left
        · intro W' hSw
          try dsimp only at hSw
          simp only [List.getElem_toArray, List.getElem_cons_succ, List.getElem_cons_zero]
          go_simp
          try with_reducible rfl
        try simp only [Act.put, List.getElem_toArray, List.getElem_cons_succ, List.getElem_cons_zero, List.setIfInBounds_toArray, List.set_cons_zero, List.set_cons_succ]
        refine wpAnyH_done (by kernel_rfl) ?_ _
        obtain ⟨m, hm⟩ := ordX_ex l1 x
        obtain ⟨m1, m2, m3, m4, m5, m6, m7⟩ := ord_facts HX.out hm
        have HM := Lib.hid hm
        obtain ⟨om, hom⟩ : ∃ om : Int, ((m : Nat) : Int) = om := ⟨_, rfl⟩
        have HOM := Lib.hid hom
        rw [HNN.out] at m5
        rw [HQ.out] at m4 m6 m7
        rw [hom] at m3 m4 m5
        have hom1 : 1 ≤ om := by omega
        have hom2 : om ≤ 24 := by omega
        have homz : ¬ om = 0 := by omega
        have homl : decide (om < 1) = false := decide_eq_false (by omega)
        have homl2 : ¬ om < 1 := by omega
        have HMU := Lib.hid m3
        have HEB := Lib.hid (elem_back HX.out)
        have hg9 := ho.cell g9
        clear hm hom m1 m2 m3
        go_upto_region 14 with (first
          | (go_at_call 15; refine (giOrd I9.out HL1.out HM.out (by assumption)).mono ?_; rintro e w13 ⟨he, ho⟩; rw [HOM.out] at he; subst he; have g13 := ho.cell g9; have I13 := Lib.hid (ho.ints I9.out); have O13 := Lib.hid (O9.out.step ho); clear ho))
        as_aux_lemma =>
        have ho : On w13 w13.drew := (show On w13 w13 from Below.refl _ _).drew
        try simp only [List.append_eq, List.cons_append, List.nil_append]
        refine wp_region_held_drew (S := (fun W => W.cell? ⟨gb1, 0, none⟩ = some (.slice au1 l1.length cu1))) (by kernel_rfl) (g13) (fun hHeld => ?_)
        refine wpAnyH_take (i := 0) (oi := _) (v := ?_) rfl (by as_aux_lemma => kernel_rfl) (by as_aux_lemma => kernel_rfl) (by as_aux_lemma => kernel_rfl) (fun _ _ _ h => h) (Or.inl ⟨by rfl, ?_⟩) (by assumption) ?_
        rotate_left
        · intro W' hSw
          try dsimp only at hSw
          simp only [List.getElem_toArray, List.getElem_cons_zero]
          go_simp
          try with_reducible rfl
        try simp only [Act.put, List.getElem_toArray, List.getElem_cons_zero, List.setIfInBounds_toArray, List.set_cons_zero, List.set_cons_succ]
        refine wpAnyH_take (i := 1) (oi := _) (v := ?_) rfl (by as_aux_lemma => kernel_rfl) (by as_aux_lemma => kernel_rfl) (by as_aux_lemma => kernel_rfl) (fun _ _ _ h => h) (Or.inl ⟨by rfl, ?_⟩) (by assumption) ?_
        rotate_left
        · intro W' hSw
          try dsimp only at hSw
          simp only [List.getElem_toArray, List.getElem_cons_succ, List.getElem_cons_zero]
          go_simp
          try with_reducible rfl
        try simp only [Act.put, List.getElem_toArray, List.getElem_cons_succ, List.getElem_cons_zero, List.setIfInBounds_toArray, List.set_cons_zero, List.set_cons_succ]
        refine wpAnyH_take (i := 2) (oi := _) (v := ?_) rfl (by as_aux_lemma => kernel_rfl) (by as_aux_lemma => kernel_rfl) (by as_aux_lemma => kernel_rfl) (fun _ _ _ h => h) (Or.inl ⟨by rfl, ?_⟩) (by assumption) ?_
        rotate_left
        · intro W' hSw
          try dsimp only at hSw
          simp only [List.getElem_toArray, List.getElem_cons_succ, List.getElem_cons_zero]
          go_simp
          try with_reducible rfl
        try simp only [Act.put, List.getElem_toArray, List.getElem_cons_succ, List.getElem_cons_zero, List.setIfInBounds_toArray, List.set_cons_zero, List.set_cons_succ]
        refine wpAnyH_ready (rs := [3]) (by as_aux_lemma => kernel_rfl) (by simp) ?_
        refine AllReadyH.cons (o := _) rfl (fun K hK => ?_) (AllReadyH.nil)
        simp only [List.getElem_toArray, List.getElem_cons_succ, List.getElem_cons_zero]
        go_simp
        refine (giPl I13.out HL1.out (by assumption)).mono ?_
        rintro e wk ⟨a9, c9, rfl, hi9, ho, _⟩
        have IPL := Lib.hid hi9
        clear hi9
        refine hK.out _ _ (ho.cell g13) (fun hHeld => ?_)
        clear hK K
        try simp only [Act.put, List.getElem_toArray, List.getElem_cons_succ, List.getElem_cons_zero, List.setIfInBounds_toArray, List.set_cons_zero, List.set_cons_succ]
        refine wpAnyH_ready (rs := [4]) (by as_aux_lemma => kernel_rfl) (by simp) ?_
        refine AllReadyH.cons (o := _) rfl (fun K hK => ?_) (AllReadyH.nil)
        simp only [List.getElem_toArray, List.getElem_cons_succ, List.getElem_cons_zero]
        go_simp
        refine (giEl I13.out HL1.out IPL.out (by assumption)).mono ?_
        rw [HEB.out.1, HEB.out.2]
        rintro e wk ⟨rfl, ho⟩
        refine hK.out _ _ (ho.cell g13) (fun hHeld => ?_)
        clear hK K
        try simp only [Act.put, List.getElem_toArray, List.getElem_cons_succ, List.getElem_cons_zero, List.setIfInBounds_toArray, List.set_cons_zero, List.set_cons_succ]
        refine wpAnyH_take (i := 5) (oi := _) (v := ?_) rfl (by as_aux_lemma => kernel_rfl) (by as_aux_lemma => kernel_rfl) (by as_aux_lemma => kernel_rfl) (fun _ _ _ h => h) (Or.inl ⟨by rfl, ?_⟩) (by assumption) ?_
        rotate_left
        · intro W' hSw
          try dsimp only at hSw
          simp only [List.getElem_toArray, List.getElem_cons_succ, List.getElem_cons_zero]
          go_simp
          try with_reducible rfl
        try simp only [Act.put, List.getElem_toArray, List.getElem_cons_succ, List.getElem_cons_zero, List.setIfInBounds_toArray, List.set_cons_zero, List.set_cons_succ]
        refine wpAnyH_take (i := 6) (oi := _) (v := ?_) rfl (by as_aux_lemma => kernel_rfl) (by as_aux_lemma => kernel_rfl) (by as_aux_lemma => kernel_rfl) (fun _ _ _ h => h) (Or.inl ⟨by rfl, ?_⟩) (by assumption) ?_
        rotate_left
        · intro W' hSw
          try dsimp only at hSw
          simp only [List.getElem_toArray, List.getElem_cons_succ, List.getElem_cons_zero]
          go_simp
          try with_reducible rfl
        try simp only [Act.put, List.getElem_toArray, List.getElem_cons_succ, List.getElem_cons_zero, List.setIfInBounds_toArray, List.set_cons_zero, List.set_cons_succ]
        refine wpAnyH_take (i := 7) (oi := _) (v := ?_) rfl (by as_aux_lemma => kernel_rfl) (by as_aux_lemma => kernel_rfl) (by as_aux_lemma => kernel_rfl) (fun _ _ _ h => h) (Or.inl ⟨by rfl, ?_⟩) (by assumption) ?_
        rotate_left
        · intro W' hSw
          try dsimp only at hSw
          simp only [List.getElem_toArray, List.getElem_cons_succ, List.getElem_cons_zero]
          go_simp
          try with_reducible rfl
        try simp only [Act.put, List.getElem_toArray, List.getElem_cons_succ, List.getElem_cons_zero, List.setIfInBounds_toArray, List.set_cons_zero, List.set_cons_succ]
        refine wpAnyH_take (i := 8) (oi := _) (v := ?_) rfl (by as_aux_lemma => kernel_rfl) (by as_aux_lemma => kernel_rfl) (by as_aux_lemma => kernel_rfl) (fun _ _ _ h => h) (Or.inl ⟨by rfl, ?_⟩) (by assumption) ?_
        rotate_left
        · intro W' hSw
          try dsimp only at hSw
          simp only [List.getElem_toArray, List.getElem_cons_succ, List.getElem_cons_zero]
          go_simp
          try with_reducible rfl
        try simp only [Act.put, List.getElem_toArray, List.getElem_cons_succ, List.getElem_cons_zero, List.setIfInBounds_toArray, List.set_cons_zero, List.set_cons_succ]
        refine wpAnyH_take (i := 9) (oi := _) (v := ?_) rfl (by as_aux_lemma => kernel_rfl) (by as_aux_lemma => kernel_rfl) (by as_aux_lemma => kernel_rfl) (fun _ _ _ h => h) (Or.inl ⟨by rfl, ?_⟩) (by assumption) ?_
        rotate_left
        · intro W' hSw
          try dsimp only at hSw
          simp only [List.getElem_toArray, List.getElem_cons_succ, List.getElem_cons_zero]
          go_simp
          try with_reducible rfl
        try simp only [Act.put, List.getElem_toArray, List.getElem_cons_succ, List.getElem_cons_zero, List.setIfInBounds_toArray, List.set_cons_zero, List.set_cons_succ]
        refine wpAnyH_done (by kernel_rfl) ?_ _
        have gk := ho.cell g13
        go_wp2_with (first
          | (go_at_call 11; refine (giExp I13.out HL1.out (by assumption)).mono ?_; rintro e wk ⟨he, ho⟩; rw [HQ.out] at he; subst he; have gk := ho.cell g13)
          | (go_at_call 18; refine (giMul I13.out HL1.out (by assumption)).mono ?_; rintro e wk ⟨he, ho⟩; rw [HMU.out] at he; subst he; have gk := ho.cell g13))
        go_meet
        exact ⟨rfl, Lib.hid (O13.out.step ho)⟩
      · have hz2 : decide (0 ≤ z) = false := decide_eq_false hz0
        have hz3 : decide (z ≥ 0) = false := decide_eq_false hz0
        have hz4 : z < 0 := by omega
        clear hz0
        go_wp2_with fail
        go_meet
        exact ⟨rfl, Lib.hid (Below.refl _ _)⟩
    case rest =>
      obtain ⟨hs7, H16⟩ := hcut
      clear hs7
      have I16 := Lib.hid (H16.out.ints I8.out)
      have g16 := H16.out.cell g8
      have S16 := Lib.hid (Nat.le_trans S8.out (Below.size H16.out))
      have B16 := Lib.hid (B8.out.trans (Below.mono H16.out S8.out))
      obtain ⟨W16, hW16⟩ : ∃ W, W = wc := ⟨_, rfl⟩
      rw [← hW16] at I16 g16 S16 B16
      rw [← hW16]
      clear H16 g8 I8 S8 B8 hW16 wc HZ HZ2
      as_aux_lemma =>
      have o16 : On W16 W16 := Below.refl _ _
      have I116 := I16
      have g116 := g16
      clear I16 g16
      obtain ⟨l2, hl2⟩ : ∃ r, (if grpB l1 = true then some l1 else none : Option (List Int)).getD [] = r := ⟨_, rfl⟩
      obtain ⟨b2, hb2⟩ : ∃ r, (if grpB l1 = true then some l1 else none : Option (List Int)).isSome = r := ⟨_, rfl⟩
      have HL2 : Hid (l2.length ≤ 4) := Lib.hid (by rw [← hl2]; cases hg : grpB l1 <;> simp; exact HL1.out)
      have HG2 : Hid (grpB l1 = b2) := Lib.hid (by rw [← hb2]; cases hg : grpB l1 <;> simp)
      have HE2 : Hid (b2 = true → l2 = l1) := Lib.hid (fun h => by rw [h] at hb2; rw [← hl2]; cases hg : grpB l1 <;> rw [hg] at hb2 <;> simp at hb2 ⊢)
      have HL2E := Lib.hid hl2
      have HB2E := Lib.hid hb2
      clear hl2 hb2
      go_upto_region 18 with (first
        | (go_at_call 19; refine (giFmt I116.out HL1.out (by assumption)).mono ?_; rintro e w17 ⟨he, ho⟩; subst he; have O17 := Lib.hid ho; have B17 := Lib.hid (B16.out.trans (Below.mono ho S16.out)); have S17 := Lib.hid (Nat.le_trans S16.out (Below.size ho)); clear ho))
      go_upto_region 19 with (first
        | (go_at_call 20; refine (giParF w17 l1 mx (keepD (show Below w.heap.size w w17 from B17.out) HV.out) ((HT.out.on B17.out).up S17.out)).mono ?_; rintro e w18 ⟨au2, cu2, he, ho, hb⟩; rw [HL2E.out, HB2E.out] at he; rw [HL2E.out] at ho; subst he; have HO2 := Lib.hid ho; have HB2 := Lib.hid hb; clear ho hb))
      have q2 := (O17.out.step HB2.out).step (Joins.below_alloc1 w18 (.cells #[.slice au2 l2.length cu2] 26))
      obtain ⟨b2, i2, k2, s2⟩ := laid_of B17.out S17.out HO2.out HB2.out
      obtain ⟨gb2, hgb2⟩ : ∃ g, g = w18.heap.size := ⟨_, rfl⟩
      rw [← hgb2] at k2
      obtain ⟨W18, hW2⟩ : ∃ W, W = w18.alloc (.cells #[.slice au2 l2.length cu2] 26) := ⟨_, rfl⟩
      rw [← hW2] at b2 i2 k2 s2 q2
      rw [← hW2, ← hgb2]
      have B2 := Lib.hid b2
      have I22 := Lib.hid i2
      have S2 := Lib.hid s2
      have g22 := k2
      have o2 : On W18 W18 := Below.refl _ _
      clear b2 i2 s2 k2 hW2 hgb2 HO2 HB2
      have I12 := Lib.hid (q2.ints I116.out)
      have g12 := q2.cell g116
      clear I116 g116
      go_upto_region 20 with (first
        | (go_at_call 21; refine (dParG_any _ a len cap hl20 (HD.out.keep B2.out)).mono ?_; rintro e w19 ⟨t, he, ht, hb⟩; subst he; have O19 := Lib.hid (show On W18 w19 from hb); have B19 := Lib.hid (B2.out.trans (Below.mono hb S2.out)); have S19 := Lib.hid (Nat.le_trans S2.out (Below.size hb)); have HTS := Lib.hid ht; clear hb ht))
      obtain ⟨l3, hl3⟩ : ∃ r, (specR t.data.toList).getD [] = r := ⟨_, rfl⟩
      obtain ⟨b3, hb3⟩ : ∃ r, (specR t.data.toList).isSome = r := ⟨_, rfl⟩
      have HL3 : Hid (l3.length ≤ 4) := Lib.hid (by rw [← hl3]; have := read_few t.data.toList; omega)
      have HL3E := Lib.hid hl3
      have HB3E := Lib.hid hb3
      clear hl3 hb3
      go_upto_region 21 with (first
        | (go_at_call 20; refine (giPar w19 t mx (by have := HTS.out; omega) (keepD (show Below w.heap.size w w19 from B19.out) HV.out) ((HT.out.on B19.out).up S19.out)).mono ?_; rintro e w20 ⟨au3, cu3, he, ho, hb⟩; rw [HL3E.out, HB3E.out] at he; rw [HL3E.out] at ho; subst he; have HO3 := Lib.hid ho; have HB3 := Lib.hid hb; clear ho hb))
      have q3 := (O19.out.step HB3.out).step (Joins.below_alloc1 w20 (.cells #[.slice au3 l3.length cu3] 26))
      obtain ⟨b3, i3, k3, s3⟩ := laid_of B19.out S19.out HO3.out HB3.out
      obtain ⟨gb3, hgb3⟩ : ∃ g, g = w20.heap.size := ⟨_, rfl⟩
      rw [← hgb3] at k3
      obtain ⟨W20, hW3⟩ : ∃ W, W = w20.alloc (.cells #[.slice au3 l3.length cu3] 26) := ⟨_, rfl⟩
      rw [← hW3] at b3 i3 k3 s3 q3
      rw [← hW3, ← hgb3]
      have B3 := Lib.hid b3
      have I33 := Lib.hid i3
      have S3 := Lib.hid s3
      have g33 := k3
      have o3 : On W20 W20 := Below.refl _ _
      clear b3 i3 s3 k3 hW3 hgb3 HO3 HB3
      have I13 := Lib.hid (q3.ints I12.out)
      have g13 := q3.cell g12
      have I23 := Lib.hid (q3.ints I22.out)
      have g23 := q3.cell g22
      clear I12 g12 I22 g22
      go_upto_region 22 with (first
        | (go_at_call 22; refine (gsPar W20 t (by have := HTS.out; omega)).mono ?_; rintro e w21 ⟨au4, cu4, he, ho, hb⟩; rw [HL3E.out, HB3E.out] at he; rw [HL3E.out] at ho; subst he; have HO4 := Lib.hid ho; have HB4 := Lib.hid hb; clear ho hb))
      have q4 := (o3.step HB4.out).step (Joins.below_alloc1 w21 (.cells #[.slice au4 l3.length cu4] 26))
      obtain ⟨b4, i4, k4, s4⟩ := laid_of B3.out S3.out HO4.out HB4.out
      obtain ⟨gb4, hgb4⟩ : ∃ g, g = w21.heap.size := ⟨_, rfl⟩
      rw [← hgb4] at k4
      obtain ⟨W21, hW4⟩ : ∃ W, W = w21.alloc (.cells #[.slice au4 l3.length cu4] 26) := ⟨_, rfl⟩
      rw [← hW4] at b4 i4 k4 s4 q4
      rw [← hW4, ← hgb4]
      have B4 := Lib.hid b4
      have I44 := Lib.hid i4
      have S4 := Lib.hid s4
      have g44 := k4
      have o4 : On W21 W21 := Below.refl _ _
      clear b4 i4 s4 k4 hW4 hgb4 HO4 HB4
      have I14 := Lib.hid (q4.ints I13.out)
      have g14 := q4.cell g13
      have I24 := Lib.hid (q4.ints I23.out)
      have g24 := q4.cell g23
      have I34 := Lib.hid (q4.ints I33.out)
      have g34 := q4.cell g33
      clear I13 g13 I23 g23 I33 g33
      go_cut [207] (fun s207 wx => s207 = .bool false ∧ Hid (On W21 wx))
      case first =>
        have HC := Lib.hid (And.intro (o4.cell g14) (And.intro (o4.cell g24) (And.intro (o4.cell g34) (o4.cell g44))))
        cases b2
        case false =>
          as_aux_lemma =>
          go_wp2_with (first
            | (go_at_call 26; refine (gsEqS I34.out HL3.out I44.out (by assumption)).mono ?_; rintro e wk ⟨he, ho⟩; subst he; have c1 := ho.cell g14; have c2 := ho.cell g24; have c3 := ho.cell g34; have c4 := ho.cell g44)
            | (go_at_call 25; refine (giIs I14.out HL1.out (by assumption)).mono ?_; rintro e wk ⟨he, ho⟩; rw [HG2.out] at he; subst he; have c1 := ho.cell g14; have c2 := ho.cell g24; have c3 := ho.cell g34; have c4 := ho.cell g44)
            | (go_at_call 24; refine (gsIs I14.out HL1.out (by assumption)).mono ?_; rintro e wk ⟨he, ho⟩; rw [HG2.out] at he; subst he; have c1 := ho.cell g14; have c2 := ho.cell g24; have c3 := ho.cell g34; have c4 := ho.cell g44)
            | (go_at_call 23; refine (gsFmt I14.out HL1.out (by assumption)).mono ?_; rintro e wk ⟨he, ho⟩; subst he; have c1 := ho.cell g14; have c2 := ho.cell g24; have c3 := ho.cell g34; have c4 := ho.cell g44))
          go_meet
          exact ⟨rfl, Lib.hid ho⟩
        case true =>
          have hll := HE2.out rfl
          subst hll
          as_aux_lemma =>
          go_wp2_with (first
            | (go_at_call 26; have hx_ := HFL; clear hx_; refine (gsEqS I34.out HL3.out I44.out (by assumption)).mono ?_; rintro e wk ⟨he, ho⟩; subst he; have c1 := ho.cell g14; have c2 := ho.cell g24; have c3 := ho.cell g34; have c4 := ho.cell g44)
            | (go_at_call 26; refine (gsEqS I24.out HL2.out I14.out (by assumption)).mono ?_; rintro e wk ⟨he, ho⟩; subst he; have c1 := ho.cell g14; have c2 := ho.cell g24; have c3 := ho.cell g34; have c4 := ho.cell g44; have HFL := Lib.hid True.intro)
            | (go_at_call 25; refine (giIs I14.out HL1.out (by assumption)).mono ?_; rintro e wk ⟨he, ho⟩; rw [HG2.out] at he; subst he; have c1 := ho.cell g14; have c2 := ho.cell g24; have c3 := ho.cell g34; have c4 := ho.cell g44)
            | (go_at_call 24; refine (gsIs I14.out HL1.out (by assumption)).mono ?_; rintro e wk ⟨he, ho⟩; rw [HG2.out] at he; subst he; have c1 := ho.cell g14; have c2 := ho.cell g24; have c3 := ho.cell g34; have c4 := ho.cell g44)
            | (go_at_call 23; refine (gsFmt I14.out HL1.out (by assumption)).mono ?_; rintro e wk ⟨he, ho⟩; subst he; have c1 := ho.cell g14; have c2 := ho.cell g24; have c3 := ho.cell g34; have c4 := ho.cell g44))
          go_meet
          exact ⟨rfl, Lib.hid ho⟩
      case rest =>
        obtain ⟨rfl, H23⟩ := hcut
        have B23 := Lib.hid (B4.out.trans (Below.mono H23.out S4.out))
        have S23 := Lib.hid (Nat.le_trans S4.out (Below.size H23.out))
        obtain ⟨W23, hW23⟩ : ∃ W, W = wc := ⟨_, rfl⟩
        rw [← hW23] at B23 S23
        rw [← hW23]
        clear H23 hW23 wc I14 I24 I34 I44 g14 g24 g34 g44 HE2 HG2 HL2E HB2E HL3E HB3E B4 S4 B3 S3 B2 S2 B19 S19 B17 S17 o2 o3 o4 q2 q3 q4 O17 O19
        as_aux_lemma =>
          go_upto_region 25 with (first
            | (go_at_call 27; refine (dPlaces_any _ a len cap hl20 (HD.out.keep B23.out)).mono ?_; rintro e w24 ⟨u5, l5, x5, rfl, hx50, hx51, ho, hl, hb⟩; obtain ⟨au5, cu5, rfl⟩ := own_slice' rfl ho; have HO5 := Lib.hid ho; have HL5 := Lib.hid hl; have HB5 := Lib.hid hb; clear ho hl hb))
          obtain ⟨b5, i5, k5, s5⟩ := laid_of B23.out S23.out HO5.out HB5.out
          obtain ⟨gb5, hgb5⟩ : ∃ g, g = w24.heap.size := ⟨_, rfl⟩
          rw [← hgb5] at k5
          obtain ⟨W24, hW5⟩ : ∃ W, W = w24.alloc (.cells #[.slice au5 l5.length cu5] 26) := ⟨_, rfl⟩
          rw [← hW5] at b5 i5 k5 s5
          rw [← hW5, ← hgb5]
          have B5 := Lib.hid b5
          have I55 := Lib.hid i5
          have S5 := Lib.hid s5
          have g55 := k5
          have o5 : On W24 W24 := Below.refl _ _
          clear b5 i5 s5 k5 hW5 hgb5 HO5 HB5
          go_upto_region 26 with (first
            | (go_at_call 28; refine (dElem_any _ a len cap hl20 (HD.out.keep B5.out)).mono ?_; rintro e w25 ⟨u6, l6, v6, p6, rfl, hov, hp6, ho, hl, hb⟩; obtain ⟨au6, cu6, rfl⟩ := own_slice' rfl ho; have HO6 := Lib.hid ho; have HL6 := Lib.hid hl; have HB6 := Lib.hid hb; obtain ⟨av6, cv6, rfl⟩ := own_slice' rfl hov; have HW6 := Lib.hid hov; have HP6 := Lib.hid hp6; clear hov hp6; clear ho hl hb))
          have q6 := (show On W24 w25 from HB6.out).step (Joins.below_alloc1 w25 (.cells #[.slice au6 l6.length cu6] 26))
          obtain ⟨b6, i6, k6, s6⟩ := laid_of B5.out S5.out HO6.out HB6.out
          have j6 := own_ints' rfl (HW6.out.alloc (.cells #[.slice au6 l6.length cu6] 26))
          obtain ⟨gb6, hgb6⟩ : ∃ g, g = w25.heap.size := ⟨_, rfl⟩
          rw [← hgb6] at k6
          obtain ⟨W25, hW6⟩ : ∃ W, W = w25.alloc (.cells #[.slice au6 l6.length cu6] 26) := ⟨_, rfl⟩
          rw [← hW6] at b6 i6 k6 s6 q6 j6
          rw [← hW6, ← hgb6]
          have B6 := Lib.hid b6
          have I66 := Lib.hid i6
          have S6 := Lib.hid s6
          have g66 := k6
          have J6 := Lib.hid j6
          clear j6
          have o6 : On W25 W25 := Below.refl _ _
          clear b6 i6 s6 k6 hW6 hgb6 HO6 HB6
          have I56 := Lib.hid (q6.ints I55.out)
          have g56 := q6.cell g55
          clear I55 g55
          obtain ⟨ev, hev⟩ : ∃ r, elemV l6 p6 = r := ⟨_, rfl⟩
          obtain ⟨eb, heb⟩ : ∃ r, decide (ElemP l6 p6) = r := ⟨_, rfl⟩
          have HEV := Lib.hid hev
          have HEB := Lib.hid heb
          clear hev heb
          go_upto_region 28 with (first
            | (go_at_call 29; refine (gsEl I66.out HL6.out (O26.out.ints J6.out) O26.out).mono ?_; rintro e w27 ⟨he, ho⟩; rw [HEV.out, HEB.out] at he; subst he; have O27 := Lib.hid ho; have B27 := Lib.hid (B6.out.trans (Below.mono ho S6.out)); have S27 := Lib.hid (Nat.le_trans S6.out (Below.size ho)); clear ho)
            | (go_at_call 16; refine (giEl I66.out HL6.out J6.out (by assumption)).mono ?_; rintro e w26 ⟨he, ho⟩; rw [HEV.out, HEB.out] at he; subst he; have O26 := Lib.hid ho; have c6 := ho.cell g66; clear ho))
          go_upto_region 29 with (first
            | (go_at_call 30; refine (dMul_any _ a len cap hl20 (HD.out.keep B27.out)).mono ?_; rintro e w28 ⟨u7, l7, x7, y7, rfl, hx70, hx71, hy70, hy71, ho, hl, hb⟩; obtain ⟨au7, cu7, rfl⟩ := own_slice' rfl ho; have HO7 := Lib.hid ho; have HL7 := Lib.hid hl; have HB7 := Lib.hid hb; clear ho hl hb))
          have q7 := (O27.out.step HB7.out).step (Joins.below_alloc1 w28 (.cells #[.slice au7 l7.length cu7] 26))
          obtain ⟨b7, i7, k7, s7⟩ := laid_of B27.out S27.out HO7.out HB7.out
          obtain ⟨gb7, hgb7⟩ : ∃ g, g = w28.heap.size := ⟨_, rfl⟩
          rw [← hgb7] at k7
          obtain ⟨W28, hW7⟩ : ∃ W, W = w28.alloc (.cells #[.slice au7 l7.length cu7] 26) := ⟨_, rfl⟩
          rw [← hW7] at b7 i7 k7 s7 q7
          rw [← hW7, ← hgb7]
          have B7 := Lib.hid b7
          have I77 := Lib.hid i7
          have S7 := Lib.hid s7
          have g77 := k7
          have o7 : On W28 W28 := Below.refl _ _
          clear b7 i7 s7 k7 hW7 hgb7 HO7 HB7
          have I57 := Lib.hid (q7.ints I56.out)
          have g57 := q7.cell g56
          clear I56 g56
          as_aux_lemma =>
            go_upto_region 30 with (first
              | (go_at_call 31; refine (dEqG_any _ a len cap hl20 (HD.out.keep B7.out)).mono ?_; rintro e w29 ⟨u8, l8, v9, l9, rfl, hov, hl9, ho, hl, hb⟩; obtain ⟨au8, cu8, rfl⟩ := own_slice' rfl ho; obtain ⟨au9, cu9, rfl⟩ := own_slice' rfl hov; have HO8 := Lib.hid ho; have HL8 := Lib.hid hl; have HB8 := Lib.hid hb; have HO9 := Lib.hid hov; have HL9 := Lib.hid hl9; clear ho hl hb hov hl9))
            have f1 := Joins.below_alloc1 w29 (.cells #[.slice au8 l8.length cu8] 26)
            have f2 := Joins.below_alloc1 (w29.alloc (.cells #[.slice au8 l8.length cu8] 26)) (.cells #[.slice au9 l9.length cu9] 26)
            have q9 := ((show On W28 w29 from HB8.out).step f1).step f2
            have q10 : On w29 ((w29.alloc (.cells #[.slice au8 l8.length cu8] 26)).alloc (.cells #[.slice au9 l9.length cu9] 26)) := On.step (show On w29 (w29.alloc (.cells #[.slice au8 l8.length cu8] 26)) from f1) f2
            have i8 := q10.ints (own_ints' rfl HO8.out)
            have i9 := q10.ints (own_ints' rfl HO9.out)
            have k8 := (show On (w29.alloc (.cells #[.slice au8 l8.length cu8] 26)) ((w29.alloc (.cells #[.slice au8 l8.length cu8] 26)).alloc (.cells #[.slice au9 l9.length cu9] 26)) from f2).cell (newC w29 (.slice au8 l8.length cu8) 26 (n := w29.heap.size) rfl)
            have k9 := newC (w29.alloc (.cells #[.slice au8 l8.length cu8] 26)) (.slice au9 l9.length cu9) 26 (n := w29.heap.size + 1) (by simp)
            obtain ⟨W29, hW29⟩ : ∃ W, W = ((w29.alloc (.cells #[.slice au8 l8.length cu8] 26)).alloc (.cells #[.slice au9 l9.length cu9] 26)) := ⟨_, rfl⟩
            obtain ⟨gb8, hgb8⟩ : ∃ g, g = w29.heap.size := ⟨_, rfl⟩
            obtain ⟨gb9, hgb9⟩ : ∃ g, g = w29.heap.size + 1 := ⟨_, rfl⟩
            rw [← hW29] at q9 i8 i9 k8 k9
            rw [← hgb8] at k8
            rw [← hgb9] at k9
            rw [← hW29, ← hgb9, ← hgb8]
            have I8 := Lib.hid i8
            have I9 := Lib.hid i9
            have B29 := Lib.hid (B7.out.trans (Below.mono q9 S7.out))
            have S29 := Lib.hid (Nat.le_trans S7.out (Below.size q9))
            have I58 := Lib.hid (q9.ints I57.out)
            have g58 := q9.cell g57
            have I78 := Lib.hid (q9.ints I77.out)
            have g78 := q9.cell g77
            clear I57 g57 I77 g77
            clear f1 f2 q9 q10 i8 i9 hW29 hgb8 hgb9 HO8 HO9 HB8
            as_aux_lemma =>
              clear HD HV HT I66 J6 g66 HL6 HP6 c6 O26 O27 B27 S27 B6 S6 B5 S5 B7 S7
              obtain ⟨m5, hm5⟩ := ordX_ex l5 x5
              have HM5 := Lib.hid hm5
              obtain ⟨t7, ht7⟩ : ∃ t, mulE l7 x7 y7 = t := ⟨_, rfl⟩
              have HT7 := Lib.hid ht7
              obtain ⟨n5, hn5⟩ : ∃ t, negE l5 x5 = t := ⟨_, rfl⟩
              have HN5 := Lib.hid hn5
              obtain ⟨q8, hq8⟩ : ∃ t, decide (l8 = l9) = t := ⟨_, rfl⟩
              have HQ8 := Lib.hid hq8
              obtain ⟨o5, ho5⟩ : ∃ t : Int, ((m5 : Nat) : Int) = t := ⟨_, rfl⟩
              have HO5 := Lib.hid ho5
              have HPL : Hid ((plc l5 x5).length ≤ 1048576) := Lib.hid (by have := plc_few l5 x5; omega)
              obtain ⟨pl, hpl⟩ : ∃ t, plc l5 x5 = t := ⟨_, rfl⟩
              have HPE := Lib.hid hpl
              rw [hpl] at HPL
              clear hm5 ht7 hn5 hq8 ho5 hpl
              have ho : On W29 W29.drew := (show On W29 W29 from Below.refl _ _).drew
              try simp only [List.append_eq, List.cons_append, List.nil_append]
              refine wp_region_held_drew (S := (fun W => W.cell? ⟨gb5, 0, none⟩ = some (.slice au5 l5.length cu5) ∧ W.cell? ⟨gb7, 0, none⟩ = some (.slice au7 l7.length cu7) ∧ W.cell? ⟨gb8, 0, none⟩ = some (.slice au8 l8.length cu8) ∧ W.cell? ⟨gb9, 0, none⟩ = some (.slice au9 l9.length cu9))) (by kernel_rfl) (⟨g58, g78, k8, k9⟩) (fun hHeld => ?_)
              refine wpAnyH_take (i := 0) (oi := _) (v := ?_) rfl (by as_aux_lemma => kernel_rfl) (by as_aux_lemma => kernel_rfl) (by as_aux_lemma => kernel_rfl) (fun _ _ _ h => h) (Or.inl ⟨by rfl, ?_⟩) (by assumption) ?_
              rotate_left
              · intro W' hSw
                try dsimp only at hSw
                simp only [List.getElem_toArray, List.getElem_cons_zero]
                go_simp
                try with_reducible rfl
              try simp only [Act.put, List.getElem_toArray, List.getElem_cons_zero, List.setIfInBounds_toArray, List.set_cons_zero, List.set_cons_succ]
              refine wpAnyH_take (i := 1) (oi := _) (v := ?_) rfl (by as_aux_lemma => kernel_rfl) (by as_aux_lemma => kernel_rfl) (by as_aux_lemma => kernel_rfl) (fun _ _ _ h => h) (Or.inl ⟨by rfl, ?_⟩) (by assumption) ?_
              rotate_left
              · intro W' hSw
                try dsimp only at hSw
                simp only [List.getElem_toArray, List.getElem_cons_succ, List.getElem_cons_zero]
                go_simp
                try with_reducible rfl
              try simp only [Act.put, List.getElem_toArray, List.getElem_cons_succ, List.getElem_cons_zero, List.setIfInBounds_toArray, List.set_cons_zero, List.set_cons_succ]
              refine wpAnyH_take (i := 3) (oi := _) (v := ?_) rfl (by as_aux_lemma => kernel_rfl) (by as_aux_lemma => kernel_rfl) (by as_aux_lemma => kernel_rfl) (fun _ _ _ h => h) (Or.inl ⟨by rfl, ?_⟩) (by assumption) ?_
              rotate_left
              · intro W' hSw
                try dsimp only at hSw
                simp only [List.getElem_toArray, List.getElem_cons_succ, List.getElem_cons_zero]
                go_simp
                try with_reducible rfl
              try simp only [Act.put, List.getElem_toArray, List.getElem_cons_succ, List.getElem_cons_zero, List.setIfInBounds_toArray, List.set_cons_zero, List.set_cons_succ]
              refine wpAnyH_take (i := 4) (oi := _) (v := ?_) rfl (by as_aux_lemma => kernel_rfl) (by as_aux_lemma => kernel_rfl) (by as_aux_lemma => kernel_rfl) (fun _ _ _ h => h) (Or.inl ⟨by rfl, ?_⟩) (by assumption) ?_
              rotate_left
              · intro W' hSw
                try dsimp only at hSw
                simp only [List.getElem_toArray, List.getElem_cons_succ, List.getElem_cons_zero]
                go_simp
                try with_reducible rfl
              try simp only [Act.put, List.getElem_toArray, List.getElem_cons_succ, List.getElem_cons_zero, List.setIfInBounds_toArray, List.set_cons_zero, List.set_cons_succ]
              refine wpAnyH_ready (rs := [2]) (by as_aux_lemma => kernel_rfl) (by simp) ?_
              refine AllReadyH.cons (o := _) rfl (fun K hK => ?_) (AllReadyH.nil)
              simp only [List.getElem_toArray, List.getElem_cons_succ, List.getElem_cons_zero]
              go_simp
              refine (giPl I58.out HL5.out (by assumption)).mono ?_
              rw [HPE.out]
              rintro e wk ⟨a9, c9, rfl, hi9, ho, _⟩
              have IPA := Lib.hid hi9
              clear hi9
              refine hK.out _ _ (⟨ho.cell g58, ho.cell g78, ho.cell k8, ho.cell k9⟩) (fun hHeld => ?_)
              clear hK K
              try simp only [Act.put, List.getElem_toArray, List.getElem_cons_succ, List.getElem_cons_zero, List.setIfInBounds_toArray, List.set_cons_zero, List.set_cons_succ]
              refine wpAnyH_ready (rs := [5]) (by as_aux_lemma => kernel_rfl) (by simp) ?_
              refine AllReadyH.cons (o := _) rfl (fun K hK => ?_) (AllReadyH.nil)
              simp only [List.getElem_toArray, List.getElem_cons_succ, List.getElem_cons_zero]
              go_simp
              refine (gsPl I58.out HL5.out (by assumption)).mono ?_
              rw [HPE.out]
              rintro e wk ⟨a10, c10, rfl, hi10, ho, hon⟩
              have IPB := Lib.hid hi10
              have IPC := Lib.hid (hon.ints IPA.out)
              clear hi10 hon IPA
              refine hK.out _ _ (⟨ho.cell g58, ho.cell g78, ho.cell k8, ho.cell k9⟩) (fun hHeld => ?_)
              clear hK K
              try simp only [Act.put, List.getElem_toArray, List.getElem_cons_succ, List.getElem_cons_zero, List.setIfInBounds_toArray, List.set_cons_zero, List.set_cons_succ]
              refine wpAnyH_ready (rs := [6]) (by as_aux_lemma => kernel_rfl) (by simp) ?_
              refine AllReadyH.cons (o := _) rfl (fun K hK => ?_) (AllReadyH.nil)
              simp only [List.getElem_toArray, List.getElem_cons_succ, List.getElem_cons_zero]
              go_simp
              refine (gSame HPL.out IPC.out IPB.out (by assumption)).mono ?_
              rintro e wk ⟨rfl, ho⟩
              clear IPB IPC
              refine hK.out _ _ (⟨ho.cell g58, ho.cell g78, ho.cell k8, ho.cell k9⟩) (fun hHeld => ?_)
              clear hK K
              try simp only [Act.put, List.getElem_toArray, List.getElem_cons_succ, List.getElem_cons_zero, List.setIfInBounds_toArray, List.set_cons_zero, List.set_cons_succ]
              refine wpAnyH_take (i := 7) (oi := _) (v := ?_) rfl (by as_aux_lemma => kernel_rfl) (by as_aux_lemma => kernel_rfl) (by as_aux_lemma => kernel_rfl) (fun _ _ _ h => h) (Or.inl ⟨by rfl, ?_⟩) (by assumption) ?_
              rotate_left
              · intro W' hSw
                try dsimp only at hSw
                simp only [List.getElem_toArray, List.getElem_cons_succ, List.getElem_cons_zero]
                go_simp
                try with_reducible rfl
              try simp only [Act.put, List.getElem_toArray, List.getElem_cons_succ, List.getElem_cons_zero, List.setIfInBounds_toArray, List.set_cons_zero, List.set_cons_succ]
              refine wpAnyH_take (i := 8) (oi := _) (v := ?_) rfl (by as_aux_lemma => kernel_rfl) (by as_aux_lemma => kernel_rfl) (by as_aux_lemma => kernel_rfl) (fun _ _ _ h => h) (Or.inl ⟨by rfl, ?_⟩) (by assumption) ?_
              rotate_left
              · intro W' hSw
                try dsimp only at hSw
                simp only [List.getElem_toArray, List.getElem_cons_succ, List.getElem_cons_zero]
                go_simp
                try with_reducible rfl
              try simp only [Act.put, List.getElem_toArray, List.getElem_cons_succ, List.getElem_cons_zero, List.setIfInBounds_toArray, List.set_cons_zero, List.set_cons_succ]
              refine wpAnyH_take (i := 9) (oi := _) (v := ?_) rfl (by as_aux_lemma => kernel_rfl) (by as_aux_lemma => kernel_rfl) (by as_aux_lemma => kernel_rfl) (fun _ _ _ h => h) (Or.inl ⟨by rfl, ?_⟩) (by assumption) ?_
              rotate_left
              · intro W' hSw
                try dsimp only at hSw
                simp only [List.getElem_toArray, List.getElem_cons_succ, List.getElem_cons_zero]
                go_simp
                try with_reducible rfl
              try simp only [Act.put, List.getElem_toArray, List.getElem_cons_succ, List.getElem_cons_zero, List.setIfInBounds_toArray, List.set_cons_zero, List.set_cons_succ]
              refine wpAnyH_take (i := 10) (oi := _) (v := ?_) rfl (by as_aux_lemma => kernel_rfl) (by as_aux_lemma => kernel_rfl) (by as_aux_lemma => kernel_rfl) (fun _ _ _ h => h) (Or.inl ⟨by rfl, ?_⟩) (by assumption) ?_
              rotate_left
              · intro W' hSw
                try dsimp only at hSw
                simp only [List.getElem_toArray, List.getElem_cons_succ, List.getElem_cons_zero]
                go_simp
                try with_reducible rfl
              try simp only [Act.put, List.getElem_toArray, List.getElem_cons_succ, List.getElem_cons_zero, List.setIfInBounds_toArray, List.set_cons_zero, List.set_cons_succ]
              refine wpAnyH_take (i := 11) (oi := _) (v := ?_) rfl (by as_aux_lemma => kernel_rfl) (by as_aux_lemma => kernel_rfl) (by as_aux_lemma => kernel_rfl) (fun _ _ _ h => h) (Or.inl ⟨by rfl, ?_⟩) (by assumption) ?_
              rotate_left
              · intro W' hSw
                try dsimp only at hSw
                simp only [List.getElem_toArray, List.getElem_cons_succ, List.getElem_cons_zero]
                go_simp
                try with_reducible rfl
              try simp only [Act.put, List.getElem_toArray, List.getElem_cons_succ, List.getElem_cons_zero, List.setIfInBounds_toArray, List.set_cons_zero, List.set_cons_succ]
              refine wpAnyH_take (i := 12) (oi := _) (v := ?_) rfl (by as_aux_lemma => kernel_rfl) (by as_aux_lemma => kernel_rfl) (by as_aux_lemma => kernel_rfl) (fun _ _ _ h => h) (Or.inl ⟨by rfl, ?_⟩) (by assumption) ?_
              rotate_left
              · intro W' hSw
                try dsimp only at hSw
                simp only [List.getElem_toArray, List.getElem_cons_succ, List.getElem_cons_zero]
                go_simp
                try with_reducible rfl
              try simp only [Act.put, List.getElem_toArray, List.getElem_cons_succ, List.getElem_cons_zero, List.setIfInBounds_toArray, List.set_cons_zero, List.set_cons_succ]
              refine wpAnyH_take (i := 13) (oi := _) (v := ?_) rfl (by as_aux_lemma => kernel_rfl) (by as_aux_lemma => kernel_rfl) (by as_aux_lemma => kernel_rfl) (fun _ _ _ h => h) (Or.inl ⟨by rfl, ?_⟩) (by assumption) ?_
              rotate_left
              · intro W' hSw
                try dsimp only at hSw
                simp only [List.getElem_toArray, List.getElem_cons_succ, List.getElem_cons_zero]
                go_simp
                try with_reducible rfl
              try simp only [Act.put, List.getElem_toArray, List.getElem_cons_succ, List.getElem_cons_zero, List.setIfInBounds_toArray, List.set_cons_zero, List.set_cons_succ]
              refine wpAnyH_take (i := 14) (oi := _) (v := ?_) rfl (by as_aux_lemma => kernel_rfl) (by as_aux_lemma => kernel_rfl) (by as_aux_lemma => kernel_rfl) (fun _ _ _ h => h) (Or.inl ⟨by rfl, ?_⟩) (by assumption) ?_
              rotate_left
              · intro W' hSw
                try dsimp only at hSw
                simp only [List.getElem_toArray, List.getElem_cons_succ, List.getElem_cons_zero]
                go_simp
                try with_reducible rfl
              try simp only [Act.put, List.getElem_toArray, List.getElem_cons_succ, List.getElem_cons_zero, List.setIfInBounds_toArray, List.set_cons_zero, List.set_cons_succ]
              refine wpAnyH_take (i := 15) (oi := _) (v := ?_) rfl (by as_aux_lemma => kernel_rfl) (by as_aux_lemma => kernel_rfl) (by as_aux_lemma => kernel_rfl) (fun _ _ _ h => h) (Or.inl ⟨by rfl, ?_⟩) (by assumption) ?_
              rotate_left
              · intro W' hSw
                try dsimp only at hSw
                simp only [List.getElem_toArray, List.getElem_cons_succ, List.getElem_cons_zero]
                go_simp
                try with_reducible rfl
              try simp only [Act.put, List.getElem_toArray, List.getElem_cons_succ, List.getElem_cons_zero, List.setIfInBounds_toArray, List.set_cons_zero, List.set_cons_succ]
              refine wpAnyH_take (i := 16) (oi := _) (v := ?_) rfl (by as_aux_lemma => kernel_rfl) (by as_aux_lemma => kernel_rfl) (by as_aux_lemma => kernel_rfl) (fun _ _ _ h => h) (Or.inl ⟨by rfl, ?_⟩) (by assumption) ?_
              rotate_left
              · intro W' hSw
                try dsimp only at hSw
                simp only [List.getElem_toArray, List.getElem_cons_succ, List.getElem_cons_zero]
                go_simp
                try with_reducible rfl
              try simp only [Act.put, List.getElem_toArray, List.getElem_cons_succ, List.getElem_cons_zero, List.setIfInBounds_toArray, List.set_cons_zero, List.set_cons_succ]
              refine wpAnyH_take (i := 17) (oi := _) (v := ?_) rfl (by as_aux_lemma => kernel_rfl) (by as_aux_lemma => kernel_rfl) (by as_aux_lemma => kernel_rfl) (fun _ _ _ h => h) (Or.inl ⟨by rfl, ?_⟩) (by assumption) ?_
              rotate_left
              · intro W' hSw
                try dsimp only at hSw
                simp only [List.getElem_toArray, List.getElem_cons_succ, List.getElem_cons_zero]
                go_simp
                try with_reducible rfl
              try simp only [Act.put, List.getElem_toArray, List.getElem_cons_succ, List.getElem_cons_zero, List.setIfInBounds_toArray, List.set_cons_zero, List.set_cons_succ]
              refine wpAnyH_take (i := 18) (oi := _) (v := ?_) rfl (by as_aux_lemma => kernel_rfl) (by as_aux_lemma => kernel_rfl) (by as_aux_lemma => kernel_rfl) (fun _ _ _ h => h) (Or.inl ⟨by rfl, ?_⟩) (by assumption) ?_
              rotate_left
              · intro W' hSw
                try dsimp only at hSw
                simp only [List.getElem_toArray, List.getElem_cons_succ, List.getElem_cons_zero]
                go_simp
                try with_reducible rfl
              try simp only [Act.put, List.getElem_toArray, List.getElem_cons_succ, List.getElem_cons_zero, List.setIfInBounds_toArray, List.set_cons_zero, List.set_cons_succ]
              refine wpAnyH_take (i := 19) (oi := _) (v := ?_) rfl (by as_aux_lemma => kernel_rfl) (by as_aux_lemma => kernel_rfl) (by as_aux_lemma => kernel_rfl) (fun _ _ _ h => h) (Or.inl ⟨by rfl, ?_⟩) (by assumption) ?_
              rotate_left
              · intro W' hSw
                try dsimp only at hSw
                simp only [List.getElem_toArray, List.getElem_cons_succ, List.getElem_cons_zero]
                go_simp
                try with_reducible rfl
              try simp only [Act.put, List.getElem_toArray, List.getElem_cons_succ, List.getElem_cons_zero, List.setIfInBounds_toArray, List.set_cons_zero, List.set_cons_succ]
              refine wpAnyH_take (i := 20) (oi := _) (v := ?_) rfl (by as_aux_lemma => kernel_rfl) (by as_aux_lemma => kernel_rfl) (by as_aux_lemma => kernel_rfl) (fun _ _ _ h => h) (Or.inl ⟨by rfl, ?_⟩) (by assumption) ?_
              rotate_left
              · intro W' hSw
                try dsimp only at hSw
                simp only [List.getElem_toArray, List.getElem_cons_succ, List.getElem_cons_zero]
                go_simp
                try with_reducible rfl
              try simp only [Act.put, List.getElem_toArray, List.getElem_cons_succ, List.getElem_cons_zero, List.setIfInBounds_toArray, List.set_cons_zero, List.set_cons_succ]
              refine wpAnyH_take (i := 22) (oi := _) (v := ?_) rfl (by as_aux_lemma => kernel_rfl) (by as_aux_lemma => kernel_rfl) (by as_aux_lemma => kernel_rfl) (fun _ _ _ h => h) (Or.inl ⟨by rfl, ?_⟩) (by assumption) ?_
              rotate_left
              · intro W' hSw
                try dsimp only at hSw
                simp only [List.getElem_toArray, List.getElem_cons_succ, List.getElem_cons_zero]
                go_simp
                try with_reducible rfl
              try simp only [Act.put, List.getElem_toArray, List.getElem_cons_succ, List.getElem_cons_zero, List.setIfInBounds_toArray, List.set_cons_zero, List.set_cons_succ]
              refine wpAnyH_take (i := 23) (oi := _) (v := ?_) rfl (by as_aux_lemma => kernel_rfl) (by as_aux_lemma => kernel_rfl) (by as_aux_lemma => kernel_rfl) (fun _ _ _ h => h) (Or.inl ⟨by rfl, ?_⟩) (by assumption) ?_
              rotate_left
              · intro W' hSw
                try dsimp only at hSw
                simp only [List.getElem_toArray, List.getElem_cons_succ, List.getElem_cons_zero]
                go_simp
                try with_reducible rfl
              try simp only [Act.put, List.getElem_toArray, List.getElem_cons_succ, List.getElem_cons_zero, List.setIfInBounds_toArray, List.set_cons_zero, List.set_cons_succ]
              refine wpAnyH_take (i := 24) (oi := _) (v := ?_) rfl (by as_aux_lemma => kernel_rfl) (by as_aux_lemma => kernel_rfl) (by as_aux_lemma => kernel_rfl) (fun _ _ _ h => h) (Or.inl ⟨by rfl, ?_⟩) (by assumption) ?_
              rotate_left
              · intro W' hSw
                try dsimp only at hSw
                simp only [List.getElem_toArray, List.getElem_cons_succ, List.getElem_cons_zero]
                go_simp
                try with_reducible rfl
              try simp only [Act.put, List.getElem_toArray, List.getElem_cons_succ, List.getElem_cons_zero, List.setIfInBounds_toArray, List.set_cons_zero, List.set_cons_succ]
              refine wpAnyH_ready (rs := [21]) (by as_aux_lemma => kernel_rfl) (by simp) ?_
              refine AllReadyH.cons (o := _) rfl (fun K hK => ?_) (AllReadyH.nil)
              simp only [List.getElem_toArray, List.getElem_cons_succ, List.getElem_cons_zero]
              go_simp
              refine (giMul I78.out HL7.out (by assumption)).mono ?_
              rw [HT7.out]
              rintro e wk ⟨rfl, ho⟩
              refine hK.out _ _ (⟨ho.cell g58, ho.cell g78, ho.cell k8, ho.cell k9⟩) (fun hHeld => ?_)
              clear hK K
              try simp only [Act.put, List.getElem_toArray, List.getElem_cons_succ, List.getElem_cons_zero, List.setIfInBounds_toArray, List.set_cons_zero, List.set_cons_succ]
              refine wpAnyH_ready (rs := [25]) (by as_aux_lemma => kernel_rfl) (by simp) ?_
              refine AllReadyH.cons (o := _) rfl (fun K hK => ?_) (AllReadyH.nil)
              simp only [List.getElem_toArray, List.getElem_cons_succ, List.getElem_cons_zero]
              go_simp
              refine (gsMul I78.out HL7.out (by assumption)).mono ?_
              rw [HT7.out]
              rintro e wk ⟨rfl, ho⟩
              refine hK.out _ _ (⟨ho.cell g58, ho.cell g78, ho.cell k8, ho.cell k9⟩) (fun hHeld => ?_)
              clear hK K
              try simp only [Act.put, List.getElem_toArray, List.getElem_cons_succ, List.getElem_cons_zero, List.setIfInBounds_toArray, List.set_cons_zero, List.set_cons_succ]
              refine wpAnyH_take (i := 26) (oi := _) (v := ?_) rfl (by as_aux_lemma => kernel_rfl) (by as_aux_lemma => kernel_rfl) (by as_aux_lemma => kernel_rfl) (fun _ _ _ h => h) (Or.inl ⟨by rfl, ?_⟩) (by assumption) ?_
              rotate_left
              · intro W' hSw
                try dsimp only at hSw
                simp only [List.getElem_toArray, List.getElem_cons_succ, List.getElem_cons_zero]
                go_simp
                try with_reducible rfl
              try simp only [Act.put, List.getElem_toArray, List.getElem_cons_succ, List.getElem_cons_zero, List.setIfInBounds_toArray, List.set_cons_zero, List.set_cons_succ]
              refine wpAnyH_take (i := 27) (oi := _) (v := ?_) rfl (by as_aux_lemma => kernel_rfl) (by as_aux_lemma => kernel_rfl) (by as_aux_lemma => kernel_rfl) (fun _ _ _ h => h) (Or.inl ⟨by rfl, ?_⟩) (by assumption) ?_
              rotate_left
              · intro W' hSw
                try dsimp only at hSw
                simp only [List.getElem_toArray, List.getElem_cons_succ, List.getElem_cons_zero]
                go_simp
                try with_reducible rfl
              try simp only [Act.put, List.getElem_toArray, List.getElem_cons_succ, List.getElem_cons_zero, List.setIfInBounds_toArray, List.set_cons_zero, List.set_cons_succ]
              refine wpAnyH_take (i := 28) (oi := _) (v := ?_) rfl (by as_aux_lemma => kernel_rfl) (by as_aux_lemma => kernel_rfl) (by as_aux_lemma => kernel_rfl) (fun _ _ _ h => h) (Or.inl ⟨by rfl, ?_⟩) (by assumption) ?_
              rotate_left
              · intro W' hSw
                try dsimp only at hSw
                simp only [List.getElem_toArray, List.getElem_cons_succ, List.getElem_cons_zero]
                go_simp
                try with_reducible rfl
              try simp only [Act.put, List.getElem_toArray, List.getElem_cons_succ, List.getElem_cons_zero, List.setIfInBounds_toArray, List.set_cons_zero, List.set_cons_succ]
              refine wpAnyH_take (i := 29) (oi := _) (v := ?_) rfl (by as_aux_lemma => kernel_rfl) (by as_aux_lemma => kernel_rfl) (by as_aux_lemma => kernel_rfl) (fun _ _ _ h => h) (Or.inl ⟨by rfl, ?_⟩) (by assumption) ?_
              rotate_left
              · intro W' hSw
                try dsimp only at hSw
                simp only [List.getElem_toArray, List.getElem_cons_succ, List.getElem_cons_zero]
                go_simp
                try with_reducible rfl
              try simp only [Act.put, List.getElem_toArray, List.getElem_cons_succ, List.getElem_cons_zero, List.setIfInBounds_toArray, List.set_cons_zero, List.set_cons_succ]
              refine wpAnyH_take (i := 30) (oi := _) (v := ?_) rfl (by as_aux_lemma => kernel_rfl) (by as_aux_lemma => kernel_rfl) (by as_aux_lemma => kernel_rfl) (fun _ _ _ h => h) (Or.inl ⟨by rfl, ?_⟩) (by assumption) ?_
              rotate_left
              · intro W' hSw
                try dsimp only at hSw
                simp only [List.getElem_toArray, List.getElem_cons_succ, List.getElem_cons_zero]
                go_simp
                try with_reducible rfl
              try simp only [Act.put, List.getElem_toArray, List.getElem_cons_succ, List.getElem_cons_zero, List.setIfInBounds_toArray, List.set_cons_zero, List.set_cons_succ]
              refine wpAnyH_take (i := 32) (oi := _) (v := ?_) rfl (by as_aux_lemma => kernel_rfl) (by as_aux_lemma => kernel_rfl) (by as_aux_lemma => kernel_rfl) (fun _ _ _ h => h) (Or.inl ⟨by rfl, ?_⟩) (by assumption) ?_
              rotate_left
              · intro W' hSw
                try dsimp only at hSw
                simp only [List.getElem_toArray, List.getElem_cons_succ, List.getElem_cons_zero]
                go_simp
                try with_reducible rfl
              try simp only [Act.put, List.getElem_toArray, List.getElem_cons_succ, List.getElem_cons_zero, List.setIfInBounds_toArray, List.set_cons_zero, List.set_cons_succ]
              refine wpAnyH_take (i := 33) (oi := _) (v := ?_) rfl (by as_aux_lemma => kernel_rfl) (by as_aux_lemma => kernel_rfl) (by as_aux_lemma => kernel_rfl) (fun _ _ _ h => h) (Or.inl ⟨by rfl, ?_⟩) (by assumption) ?_
              rotate_left
              · intro W' hSw
                try dsimp only at hSw
                simp only [List.getElem_toArray, List.getElem_cons_succ, List.getElem_cons_zero]
                go_simp
                try with_reducible rfl
              try simp only [Act.put, List.getElem_toArray, List.getElem_cons_succ, List.getElem_cons_zero, List.setIfInBounds_toArray, List.set_cons_zero, List.set_cons_succ]
              refine wpAnyH_ready (rs := [31]) (by as_aux_lemma => kernel_rfl) (by simp) ?_
              refine AllReadyH.cons (o := _) rfl (fun K hK => ?_) (AllReadyH.nil)
              simp only [List.getElem_toArray, List.getElem_cons_succ, List.getElem_cons_zero]
              go_simp
              refine (giOrd I58.out HL5.out HM5.out (by assumption)).mono ?_
              rw [HO5.out]
              rintro e wk ⟨rfl, ho⟩
              refine hK.out _ _ (⟨ho.cell g58, ho.cell g78, ho.cell k8, ho.cell k9⟩) (fun hHeld => ?_)
              clear hK K
              try simp only [Act.put, List.getElem_toArray, List.getElem_cons_succ, List.getElem_cons_zero, List.setIfInBounds_toArray, List.set_cons_zero, List.set_cons_succ]
              refine wpAnyH_ready (rs := [34]) (by as_aux_lemma => kernel_rfl) (by simp) ?_
              refine AllReadyH.cons (o := _) rfl (fun K hK => ?_) (AllReadyH.nil)
              simp only [List.getElem_toArray, List.getElem_cons_succ, List.getElem_cons_zero]
              go_simp
              refine (gsOrd I58.out HL5.out HM5.out (by assumption)).mono ?_
              rw [HO5.out]
              rintro e wk ⟨rfl, ho⟩
              refine hK.out _ _ (⟨ho.cell g58, ho.cell g78, ho.cell k8, ho.cell k9⟩) (fun hHeld => ?_)
              clear hK K
              try simp only [Act.put, List.getElem_toArray, List.getElem_cons_succ, List.getElem_cons_zero, List.setIfInBounds_toArray, List.set_cons_zero, List.set_cons_succ]
              refine wpAnyH_take (i := 35) (oi := _) (v := ?_) rfl (by as_aux_lemma => kernel_rfl) (by as_aux_lemma => kernel_rfl) (by as_aux_lemma => kernel_rfl) (fun _ _ _ h => h) (Or.inl ⟨by rfl, ?_⟩) (by assumption) ?_
              rotate_left
              · intro W' hSw
                try dsimp only at hSw
                simp only [List.getElem_toArray, List.getElem_cons_succ, List.getElem_cons_zero]
                go_simp
                try with_reducible rfl
              try simp only [Act.put, List.getElem_toArray, List.getElem_cons_succ, List.getElem_cons_zero, List.setIfInBounds_toArray, List.set_cons_zero, List.set_cons_succ]
              refine wpAnyH_take (i := 36) (oi := _) (v := ?_) rfl (by as_aux_lemma => kernel_rfl) (by as_aux_lemma => kernel_rfl) (by as_aux_lemma => kernel_rfl) (fun _ _ _ h => h) (Or.inl ⟨by rfl, ?_⟩) (by assumption) ?_
              rotate_left
              · intro W' hSw
                try dsimp only at hSw
                simp only [List.getElem_toArray, List.getElem_cons_succ, List.getElem_cons_zero]
                go_simp
                try with_reducible rfl
              try simp only [Act.put, List.getElem_toArray, List.getElem_cons_succ, List.getElem_cons_zero, List.setIfInBounds_toArray, List.set_cons_zero, List.set_cons_succ]
              refine wpAnyH_take (i := 37) (oi := _) (v := ?_) rfl (by as_aux_lemma => kernel_rfl) (by as_aux_lemma => kernel_rfl) (by as_aux_lemma => kernel_rfl) (fun _ _ _ h => h) (Or.inl ⟨by rfl, ?_⟩) (by assumption) ?_
              rotate_left
              · intro W' hSw
                try dsimp only at hSw
                simp only [List.getElem_toArray, List.getElem_cons_succ, List.getElem_cons_zero]
                go_simp
                try with_reducible rfl
              try simp only [Act.put, List.getElem_toArray, List.getElem_cons_succ, List.getElem_cons_zero, List.setIfInBounds_toArray, List.set_cons_zero, List.set_cons_succ]
              refine wpAnyH_take (i := 38) (oi := _) (v := ?_) rfl (by as_aux_lemma => kernel_rfl) (by as_aux_lemma => kernel_rfl) (by as_aux_lemma => kernel_rfl) (fun _ _ _ h => h) (Or.inl ⟨by rfl, ?_⟩) (by assumption) ?_
              rotate_left
              · intro W' hSw
                try dsimp only at hSw
                simp only [List.getElem_toArray, List.getElem_cons_succ, List.getElem_cons_zero]
                go_simp
                try with_reducible rfl
              try simp only [Act.put, List.getElem_toArray, List.getElem_cons_succ, List.getElem_cons_zero, List.setIfInBounds_toArray, List.set_cons_zero, List.set_cons_succ]
              refine wpAnyH_take (i := 39) (oi := _) (v := ?_) rfl (by as_aux_lemma => kernel_rfl) (by as_aux_lemma => kernel_rfl) (by as_aux_lemma => kernel_rfl) (fun _ _ _ h => h) (Or.inl ⟨by rfl, ?_⟩) (by assumption) ?_
              rotate_left
              · intro W' hSw
                try dsimp only at hSw
                simp only [List.getElem_toArray, List.getElem_cons_succ, List.getElem_cons_zero]
                go_simp
                try with_reducible rfl
              try simp only [Act.put, List.getElem_toArray, List.getElem_cons_succ, List.getElem_cons_zero, List.setIfInBounds_toArray, List.set_cons_zero, List.set_cons_succ]
              refine wpAnyH_take (i := 41) (oi := _) (v := ?_) rfl (by as_aux_lemma => kernel_rfl) (by as_aux_lemma => kernel_rfl) (by as_aux_lemma => kernel_rfl) (fun _ _ _ h => h) (Or.inl ⟨by rfl, ?_⟩) (by assumption) ?_
              rotate_left
              · intro W' hSw
                try dsimp only at hSw
                simp only [List.getElem_toArray, List.getElem_cons_succ, List.getElem_cons_zero]
                go_simp
                try with_reducible rfl
              try simp only [Act.put, List.getElem_toArray, List.getElem_cons_succ, List.getElem_cons_zero, List.setIfInBounds_toArray, List.set_cons_zero, List.set_cons_succ]
              refine wpAnyH_take (i := 42) (oi := _) (v := ?_) rfl (by as_aux_lemma => kernel_rfl) (by as_aux_lemma => kernel_rfl) (by as_aux_lemma => kernel_rfl) (fun _ _ _ h => h) (Or.inl ⟨by rfl, ?_⟩) (by assumption) ?_
              rotate_left
              · intro W' hSw
                try dsimp only at hSw
                simp only [List.getElem_toArray, List.getElem_cons_succ, List.getElem_cons_zero]
                go_simp
                try with_reducible rfl
              try simp only [Act.put, List.getElem_toArray, List.getElem_cons_succ, List.getElem_cons_zero, List.setIfInBounds_toArray, List.set_cons_zero, List.set_cons_succ]
              refine wpAnyH_ready (rs := [40]) (by as_aux_lemma => kernel_rfl) (by simp) ?_
              refine AllReadyH.cons (o := _) rfl (fun K hK => ?_) (AllReadyH.nil)
              simp only [List.getElem_toArray, List.getElem_cons_succ, List.getElem_cons_zero]
              go_simp
              refine (giNeg I58.out HL5.out (by assumption)).mono ?_
              rw [HN5.out]
              rintro e wk ⟨rfl, ho⟩
              refine hK.out _ _ (⟨ho.cell g58, ho.cell g78, ho.cell k8, ho.cell k9⟩) (fun hHeld => ?_)
              clear hK K
              try simp only [Act.put, List.getElem_toArray, List.getElem_cons_succ, List.getElem_cons_zero, List.setIfInBounds_toArray, List.set_cons_zero, List.set_cons_succ]
              refine wpAnyH_ready (rs := [43]) (by as_aux_lemma => kernel_rfl) (by simp) ?_
              refine AllReadyH.cons (o := _) rfl (fun K hK => ?_) (AllReadyH.nil)
              simp only [List.getElem_toArray, List.getElem_cons_succ, List.getElem_cons_zero]
              go_simp
              refine (gsNeg I58.out HL5.out (by assumption)).mono ?_
              rw [HN5.out]
              rintro e wk ⟨rfl, ho⟩
              refine hK.out _ _ (⟨ho.cell g58, ho.cell g78, ho.cell k8, ho.cell k9⟩) (fun hHeld => ?_)
              clear hK K
              try simp only [Act.put, List.getElem_toArray, List.getElem_cons_succ, List.getElem_cons_zero, List.setIfInBounds_toArray, List.set_cons_zero, List.set_cons_succ]
              refine wpAnyH_take (i := 44) (oi := _) (v := ?_) rfl (by as_aux_lemma => kernel_rfl) (by as_aux_lemma => kernel_rfl) (by as_aux_lemma => kernel_rfl) (fun _ _ _ h => h) (Or.inl ⟨by rfl, ?_⟩) (by assumption) ?_
              rotate_left
              · intro W' hSw
                try dsimp only at hSw
                simp only [List.getElem_toArray, List.getElem_cons_succ, List.getElem_cons_zero]
                go_simp
                try with_reducible rfl
              try simp only [Act.put, List.getElem_toArray, List.getElem_cons_succ, List.getElem_cons_zero, List.setIfInBounds_toArray, List.set_cons_zero, List.set_cons_succ]
              refine wpAnyH_take (i := 45) (oi := _) (v := ?_) rfl (by as_aux_lemma => kernel_rfl) (by as_aux_lemma => kernel_rfl) (by as_aux_lemma => kernel_rfl) (fun _ _ _ h => h) (Or.inl ⟨by rfl, ?_⟩) (by assumption) ?_
              rotate_left
              · intro W' hSw
                try dsimp only at hSw
                simp only [List.getElem_toArray, List.getElem_cons_succ, List.getElem_cons_zero]
                go_simp
                try with_reducible rfl
              try simp only [Act.put, List.getElem_toArray, List.getElem_cons_succ, List.getElem_cons_zero, List.setIfInBounds_toArray, List.set_cons_zero, List.set_cons_succ]
              refine wpAnyH_take (i := 46) (oi := _) (v := ?_) rfl (by as_aux_lemma => kernel_rfl) (by as_aux_lemma => kernel_rfl) (by as_aux_lemma => kernel_rfl) (fun _ _ _ h => h) (Or.inl ⟨by rfl, ?_⟩) (by assumption) ?_
              rotate_left
              · intro W' hSw
                try dsimp only at hSw
                simp only [List.getElem_toArray, List.getElem_cons_succ, List.getElem_cons_zero]
                go_simp
                try with_reducible rfl
              try simp only [Act.put, List.getElem_toArray, List.getElem_cons_succ, List.getElem_cons_zero, List.setIfInBounds_toArray, List.set_cons_zero, List.set_cons_succ]
              refine wpAnyH_take (i := 47) (oi := _) (v := ?_) rfl (by as_aux_lemma => kernel_rfl) (by as_aux_lemma => kernel_rfl) (by as_aux_lemma => kernel_rfl) (fun _ _ _ h => h) (Or.inl ⟨by rfl, ?_⟩) (by assumption) ?_
              rotate_left
              · intro W' hSw
                try dsimp only at hSw
                simp only [List.getElem_toArray, List.getElem_cons_succ, List.getElem_cons_zero]
                go_simp
                try with_reducible rfl
              try simp only [Act.put, List.getElem_toArray, List.getElem_cons_succ, List.getElem_cons_zero, List.setIfInBounds_toArray, List.set_cons_zero, List.set_cons_succ]
              refine wpAnyH_take (i := 48) (oi := _) (v := ?_) rfl (by as_aux_lemma => kernel_rfl) (by as_aux_lemma => kernel_rfl) (by as_aux_lemma => kernel_rfl) (fun _ _ _ h => h) (Or.inl ⟨by rfl, ?_⟩) (by assumption) ?_
              rotate_left
              · intro W' hSw
                try dsimp only at hSw
                simp only [List.getElem_toArray, List.getElem_cons_succ, List.getElem_cons_zero]
                go_simp
                try with_reducible rfl
              try simp only [Act.put, List.getElem_toArray, List.getElem_cons_succ, List.getElem_cons_zero, List.setIfInBounds_toArray, List.set_cons_zero, List.set_cons_succ]
              refine wpAnyH_take (i := 50) (oi := _) (v := ?_) rfl (by as_aux_lemma => kernel_rfl) (by as_aux_lemma => kernel_rfl) (by as_aux_lemma => kernel_rfl) (fun _ _ _ h => h) (Or.inl ⟨by rfl, ?_⟩) (by assumption) ?_
              rotate_left
              · intro W' hSw
                try dsimp only at hSw
                simp only [List.getElem_toArray, List.getElem_cons_succ, List.getElem_cons_zero]
                go_simp
                try with_reducible rfl
              try simp only [Act.put, List.getElem_toArray, List.getElem_cons_succ, List.getElem_cons_zero, List.setIfInBounds_toArray, List.set_cons_zero, List.set_cons_succ]
              refine wpAnyH_take (i := 51) (oi := _) (v := ?_) rfl (by as_aux_lemma => kernel_rfl) (by as_aux_lemma => kernel_rfl) (by as_aux_lemma => kernel_rfl) (fun _ _ _ h => h) (Or.inl ⟨by rfl, ?_⟩) (by assumption) ?_
              rotate_left
              · intro W' hSw
                try dsimp only at hSw
                simp only [List.getElem_toArray, List.getElem_cons_succ, List.getElem_cons_zero]
                go_simp
                try with_reducible rfl
              try simp only [Act.put, List.getElem_toArray, List.getElem_cons_succ, List.getElem_cons_zero, List.setIfInBounds_toArray, List.set_cons_zero, List.set_cons_succ]
              refine wpAnyH_ready (rs := [49]) (by as_aux_lemma => kernel_rfl) (by simp) ?_
              refine AllReadyH.cons (o := _) rfl (fun K hK => ?_) (AllReadyH.nil)
              simp only [List.getElem_toArray, List.getElem_cons_succ, List.getElem_cons_zero]
              go_simp
              refine (giEq (On.ints (by assumption) I8.out) (by have := HL8.out; omega) (On.ints (by assumption) I9.out) (by have := HL9.out; omega) (by assumption)).mono ?_
              rw [HQ8.out]
              rintro e wk ⟨rfl, ho⟩
              refine hK.out _ _ (⟨ho.cell g58, ho.cell g78, ho.cell k8, ho.cell k9⟩) (fun hHeld => ?_)
              clear hK K
              try simp only [Act.put, List.getElem_toArray, List.getElem_cons_succ, List.getElem_cons_zero, List.setIfInBounds_toArray, List.set_cons_zero, List.set_cons_succ]
              refine wpAnyH_ready (rs := [52]) (by as_aux_lemma => kernel_rfl) (by simp) ?_
              refine AllReadyH.cons (o := _) rfl (fun K hK => ?_) (AllReadyH.nil)
              simp only [List.getElem_toArray, List.getElem_cons_succ, List.getElem_cons_zero]
              go_simp
              refine (gsEq (On.ints (by assumption) I8.out) (by have := HL8.out; omega) (On.ints (by assumption) I9.out) (by have := HL9.out; omega) (by assumption)).mono ?_
              rw [HQ8.out]
              rintro e wk ⟨rfl, ho⟩
              refine hK.out _ _ (⟨ho.cell g58, ho.cell g78, ho.cell k8, ho.cell k9⟩) (fun hHeld => ?_)
              clear hK K
              try simp only [Act.put, List.getElem_toArray, List.getElem_cons_succ, List.getElem_cons_zero, List.setIfInBounds_toArray, List.set_cons_zero, List.set_cons_succ]
              refine wpAnyH_take (i := 53) (oi := _) (v := ?_) rfl (by as_aux_lemma => kernel_rfl) (by as_aux_lemma => kernel_rfl) (by as_aux_lemma => kernel_rfl) (fun _ _ _ h => h) (Or.inl ⟨by rfl, ?_⟩) (by assumption) ?_
              rotate_left
              · intro W' hSw
                try dsimp only at hSw
                simp only [List.getElem_toArray, List.getElem_cons_succ, List.getElem_cons_zero]
                go_simp
                try with_reducible rfl
              try simp only [Act.put, List.getElem_toArray, List.getElem_cons_succ, List.getElem_cons_zero, List.setIfInBounds_toArray, List.set_cons_zero, List.set_cons_succ]
              refine wpAnyH_take (i := 54) (oi := _) (v := ?_) rfl (by as_aux_lemma => kernel_rfl) (by as_aux_lemma => kernel_rfl) (by as_aux_lemma => kernel_rfl) (fun _ _ _ h => h) (Or.inl ⟨by rfl, ?_⟩) (by assumption) ?_
              rotate_left
              · intro W' hSw
                try dsimp only at hSw
                simp only [List.getElem_toArray, List.getElem_cons_succ, List.getElem_cons_zero]
                go_simp
                try with_reducible rfl
              try simp only [Act.put, List.getElem_toArray, List.getElem_cons_succ, List.getElem_cons_zero, List.setIfInBounds_toArray, List.set_cons_zero, List.set_cons_succ]
              refine wpAnyH_take (i := 55) (oi := _) (v := ?_) rfl (by as_aux_lemma => kernel_rfl) (by as_aux_lemma => kernel_rfl) (by as_aux_lemma => kernel_rfl) (fun _ _ _ h => h) (Or.inl ⟨by rfl, ?_⟩) (by assumption) ?_
              rotate_left
              · intro W' hSw
                try dsimp only at hSw
                simp only [List.getElem_toArray, List.getElem_cons_succ, List.getElem_cons_zero]
                go_simp
                try with_reducible rfl
              try simp only [Act.put, List.getElem_toArray, List.getElem_cons_succ, List.getElem_cons_zero, List.setIfInBounds_toArray, List.set_cons_zero, List.set_cons_succ]
              refine wpAnyH_done (by kernel_rfl) ?_ _
              go_wp2
              go_ret
              exact ⟨rfl, B29.out.trans (Below.mono ho S29.out)⟩
end Go.Proofs.YticgoodmfjjggaaGreatDoor
