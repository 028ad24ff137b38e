/- The program's own run of a set's elements by a step: how many different ones follow one another. -/
import Derived.Test.YtfkleihnafeoeaaGreatDoorVoEl
import Derived.OrdersHeld
import Derived.OneCell
namespace Go.Proofs.YtfkleihnafeoeaaGreatDoor
open Go.RowKit
set_option maxRecDepth 1000000
set_option maxHeartbeats 40000000 in
theorem iRun {l : List Int} (hg : grpB l = true) (w : World) (s x d : Nat) (hs : s < 2 ^ (prodI l).toNat) (hx : x < (prodI l).toNat) (hd : d < (prodI l).toNat) :
    Calls Tryz.prog 43 #[tV (l.getD 0 1) (l.getD 1 1) (l.getD 2 1), .int .u64 s, .int .i64 x, .int .i64 d] w fun e w' => e = .returned (.int .i64 (runN l s d 24 x 0 : Nat)) ∧ Below w.heap.size w w' := by
  have hp := (ords_grp hg).prod
  have hs24 := grp_pow hg hs
  obtain ⟨h1, h2, h3⟩ := run_el hg
  obtain ⟨U, hU⟩ : ∃ U, plU l = U := ⟨_, rfl⟩
  obtain ⟨V, hV⟩ : ∃ U, plV l = U := ⟨_, rfl⟩
  obtain ⟨S, hS⟩ : ∃ U, plS l = U := ⟨_, rfl⟩
  rw [hU, hV, hS] at h1 h2 h3
  clear hU hV hS
  have HPL := Lib.hid h1
  have HAD := Lib.hid h2
  have HEL := Lib.hid h3
  have HST := Lib.hid (fun k => stp_lt hg hx (d := d) k)
  have HSS := Lib.hid (fun k => show adN l (stp (adN l) d x k) d = stp (adN l) d x (k + 1) from rfl)
  have HRL := Lib.hid (fun k => rs_le l s x d hs24 k)
  have HRS := Lib.hid (fun k => show woN (rsK l s x d k) (stp (adN l) d x k) = rsK l s x d (k + 1) from rfl)
  have HRN := Lib.hid (fun k (h : RunAt l s x d k) (hb : (rsK l s x d k).testBit (stp (adN l) d x k) = true) => runAt_next hs24 h hb)
  have HRE := Lib.hid (fun k (h : RunAt l s x d k) (hb : (rsK l s x d k).testBit (stp (adN l) d x k) = false) => runAt_end h hb)
  have HR0 := Lib.hid (runAt_zero l s x d)
  have HWL := Lib.hid (fun k (hb : (rsK l s x d k).testBit (stp (adN l) d x k) = true) => wo_len hb (rs_le l s x d hs24 k))
  have HCL : Hid ((bitsN s).length ≤ 24) := Lib.hid (upK_len s 24)
  obtain ⟨N, hN0⟩ : ∃ N, (prodI l).toNat = N := ⟨_, rfl⟩
  rw [hN0] at hx hd HPL HAD HEL HST
  have hN24 : N ≤ 24 := by omega
  have HX := Lib.hid hx
  have HD := Lib.hid hd
  have hs16 : s < 16777216 := hs24
  have HS16 := Lib.hid hs16
  obtain ⟨R, hR⟩ : ∃ R, runN l s d 24 x 0 = R := ⟨_, rfl⟩
  rw [hR] at HRE ⊢
  obtain ⟨p, EP⟩ : ∃ p, Hid (l.getD 0 1 = p) := ⟨_, Lib.hid rfl⟩
  obtain ⟨q, EQ⟩ : ∃ q, Hid (l.getD 1 1 = q) := ⟨_, Lib.hid rfl⟩
  obtain ⟨r, ER⟩ : ∃ r, Hid (l.getD 2 1 = r) := ⟨_, Lib.hid rfl⟩
  rw [EP.out, EQ.out, ER.out] at HPL HAD HEL
  rw [EP.out, EQ.out, ER.out]
  have R0 := heap_alloc_new w (.cells #[.int .i64 p, .int .i64 q, .int .i64 r] 44)
  obtain ⟨c0, c1, c2, _, _, _⟩ := trip_cell R0
  have hb0 := Joins.below_alloc1 w (.cells #[.int .i64 p, .int .i64 q, .int .i64 r] 44)
  have HS : Hid (∀ V, Below (w.heap.size + 1) (w.alloc (.cells #[.int .i64 p, .int .i64 q, .int .i64 r] 44)) V → V.cell? ⟨w.heap.size, 0, none⟩ = some (.int .i64 p) ∧ V.cell? ⟨w.heap.size, 1, none⟩ = some (.int .i64 q) ∧ V.cell? ⟨w.heap.size, 2, none⟩ = some (.int .i64 r)) := Lib.hid (fun V h => ⟨keepC h (by simp) c0, keepC h (by simp) c1, keepC h (by simp) c2⟩)
  have HR : Hid (∀ V, Below (w.heap.size + 1) (w.alloc (.cells #[.int .i64 p, .int .i64 q, .int .i64 r] 44)) V → Below w.heap.size w V ∧ V.heap[w.heap.size]? = some (.cells #[.int .i64 p, .int .i64 q, .int .i64 r] 44 (0, 0))) := Lib.hid (fun V h => ⟨hb0.trans (h.mono (by omega)), keepH h (by omega) R0⟩)
  have HW0 := Lib.hid (show Below (w.heap.size + 1) (w.alloc (.cells #[.int .i64 p, .int .i64 q, .int .i64 r] 44)) (w.alloc (.cells #[.int .i64 p, .int .i64 q, .int .i64 r] 44)).drew from (Below.refl _ _).drew)
  clear hg hp hs24 h1 h2 h3 hx hd hs hN0 hR hb0 R0 c0 c1 c2 HR0
  have HR0 := Lib.hid (runAt_zero l s x d)
  go_enter Tryz.func43, Tryz.ntmps43
  go_wp2_with fail
  go_cut [9, 10] (fun v9 v10 wx => ∃ b9 b10 : Nat, v9 = .pointer (some ⟨b9, 0, none⟩) ∧ v10 = .pointer (some ⟨b10, 0, none⟩) ∧ b10 ≠ b9 ∧ w.heap.size < b9 ∧ w.heap.size < b10 ∧ Hid (wx.heap[b9]? = some (.cells #[.int .i64 (U x), .int .i64 (V x), .int .i64 (S x)] 44 (0, 0))) ∧ Hid (wx.heap[b10]? = some (.cells #[.int .i64 (U d), .int .i64 (V d), .int .i64 (S d)] 44 (0, 0))) ∧ Hid (Below (w.heap.size + 1) (w.alloc (.cells #[.int .i64 p, .int .i64 q, .int .i64 r] 44)) wx))
  case first =>
   as_aux_lemma =>
    try simp only [List.append_eq, List.cons_append, List.nil_append]
    have hW := HW0.out
    have hN : (w.alloc (.cells #[.int .i64 p, .int .i64 q, .int .i64 r] 44)).heap.size = w.heap.size + 1 := by simp
    refine wp_region_held_drew (S := (fun W => W.cell? ⟨w.heap.size, 0, none⟩ = some (.int .i64 p) ∧ W.cell? ⟨w.heap.size, 1, none⟩ = some (.int .i64 q) ∧ W.cell? ⟨w.heap.size, 2, none⟩ = some (.int .i64 r))) (by kernel_rfl) (HS.out _ hW) (fun hHeld => ?_)
    generalize (w.alloc (.cells #[.int .i64 p, .int .i64 q, .int .i64 r] 44)).drew = v0 at hW hHeld ⊢
    refine wpAnyH_take (i := 0) (oi := _) (v := ?_) rfl (by as_aux_lemma => kernel_rfl) (by as_aux_lemma => kernel_rfl) (by as_aux_lemma => kernel_rfl) (fun _ _ _ h => h) (Or.inl ⟨by rfl, ?_⟩) (by assumption) ?_
    rotate_left
    · intro W' hSw
      try dsimp only at hSw
      obtain ⟨hs0, hs1, hs2⟩ := hSw
      simp only [List.getElem_toArray, List.getElem_cons_zero]
      go_simp
      try with_reducible rfl
    try simp only [Act.put, List.getElem_toArray, List.getElem_cons_zero, List.setIfInBounds_toArray, List.set_cons_zero, List.set_cons_succ]
    refine wpAnyH_take (i := 1) (oi := _) (v := ?_) rfl (by as_aux_lemma => kernel_rfl) (by as_aux_lemma => kernel_rfl) (by as_aux_lemma => kernel_rfl) (fun _ _ _ h => h) (Or.inl ⟨by rfl, ?_⟩) (by assumption) ?_
    rotate_left
    · intro W' hSw
      try dsimp only at hSw
      obtain ⟨hs0, hs1, hs2⟩ := hSw
      simp only [List.getElem_toArray, List.getElem_cons_succ, List.getElem_cons_zero]
      go_simp
      try with_reducible rfl
    try simp only [Act.put, List.getElem_toArray, List.getElem_cons_succ, List.getElem_cons_zero, List.setIfInBounds_toArray, List.set_cons_zero, List.set_cons_succ]
    refine wpAnyH_take (i := 3) (oi := _) (v := ?_) rfl (by as_aux_lemma => kernel_rfl) (by as_aux_lemma => kernel_rfl) (by as_aux_lemma => kernel_rfl) (fun _ _ _ h => h) (Or.inl ⟨by rfl, ?_⟩) (by assumption) ?_
    rotate_left
    · intro W' hSw
      try dsimp only at hSw
      obtain ⟨hs0, hs1, hs2⟩ := hSw
      simp only [List.getElem_toArray, List.getElem_cons_succ, List.getElem_cons_zero]
      go_simp
      try with_reducible rfl
    try simp only [Act.put, List.getElem_toArray, List.getElem_cons_succ, List.getElem_cons_zero, List.setIfInBounds_toArray, List.set_cons_zero, List.set_cons_succ]
    refine wpAnyH_take (i := 4) (oi := _) (v := ?_) rfl (by as_aux_lemma => kernel_rfl) (by as_aux_lemma => kernel_rfl) (by as_aux_lemma => kernel_rfl) (fun _ _ _ h => h) (Or.inl ⟨by rfl, ?_⟩) (by assumption) ?_
    rotate_left
    · intro W' hSw
      try dsimp only at hSw
      obtain ⟨hs0, hs1, hs2⟩ := hSw
      simp only [List.getElem_toArray, List.getElem_cons_succ, List.getElem_cons_zero]
      go_simp
      try with_reducible rfl
    try simp only [Act.put, List.getElem_toArray, List.getElem_cons_succ, List.getElem_cons_zero, List.setIfInBounds_toArray, List.set_cons_zero, List.set_cons_succ]
    refine wpAnyH_ready (rs := [2, 6, 7]) (by as_aux_lemma => kernel_rfl) (by simp) ?_
    refine AllReadyH.cons (o := _) rfl (fun K hK => ?_) (AllReadyH.cons (o := _) rfl (fun K hK => ?_) (AllReadyH.cons (o := _) rfl (fun K hK => ?_) (AllReadyH.nil)))
    · simp only [List.getElem_toArray, List.getElem_cons_succ, List.getElem_cons_zero]
      go_simp
      refine (HPL.out _ x HX.out).mono ?_
      rintro e w2 ⟨rfl, hb⟩
      have hsz := hW.size
      rw [hN] at hsz
      replace hW := hW.trans (hb.mono hsz)
      clear hb hsz
      refine hK.out _ _ (HS.out _ hW) (fun hHeld => ?_)
      clear hK K
      try simp only [Act.put, List.getElem_toArray, List.getElem_cons_succ, List.getElem_cons_zero, List.setIfInBounds_toArray, List.set_cons_zero, List.set_cons_succ]
      refine wpAnyH_ready (rs := [5, 6, 7]) (by as_aux_lemma => kernel_rfl) (by simp) ?_
      refine AllReadyH.cons (o := _) rfl (fun K hK => ?_) (AllReadyH.cons (o := _) rfl (fun K hK => ?_) (AllReadyH.cons (o := _) rfl (fun K hK => ?_) (AllReadyH.nil)))
      · simp only [List.getElem_toArray, List.getElem_cons_succ, List.getElem_cons_zero]
        go_simp
        refine (HPL.out _ d HD.out).mono ?_
        rintro e w5 ⟨rfl, hb⟩
        have hsz := hW.size
        rw [hN] at hsz
        replace hW := hW.trans (hb.mono hsz)
        clear hb hsz
        refine hK.out _ _ (HS.out _ hW) (fun hHeld => ?_)
        clear hK K
        try simp only [Act.put, List.getElem_toArray, List.getElem_cons_succ, List.getElem_cons_zero, List.setIfInBounds_toArray, List.set_cons_zero, List.set_cons_succ]
        refine wpAnyH_ready (rs := [6, 7]) (by as_aux_lemma => kernel_rfl) (by simp) ?_
        refine AllReadyH.cons (o := _) rfl (fun K hK => ?_) (AllReadyH.cons (o := _) rfl (fun K hK => ?_) (AllReadyH.nil))
        · simp only [List.getElem_toArray, List.getElem_cons_succ, List.getElem_cons_zero]
          go_simp
          have hA6 := heap_alloc_new w5 (.cells #[.int .i64 0, .int .i64 0, .int .i64 0] 44)
          have hL6 := hW.size
          have hsz := hW.size
          rw [hN] at hsz
          replace hW := hW.alloc hsz (.cells #[.int .i64 0, .int .i64 0, .int .i64 0] 44)
          clear hsz
          obtain ⟨b6, hb6⟩ : ∃ b, w5.heap.size = b := ⟨_, rfl⟩
          rw [hb6] at hA6 ⊢
          rw [hN] at hL6
          rw [hb6] at hL6
          clear hb6
          generalize w5.alloc (.cells #[.int .i64 0, .int .i64 0, .int .i64 0] 44) = v6 at hA6 hW ⊢
          refine hK.out _ _ (HS.out _ hW) (fun hHeld => ?_)
          clear hK K
          try simp only [Act.put, List.getElem_toArray, List.getElem_cons_succ, List.getElem_cons_zero, List.setIfInBounds_toArray, List.set_cons_zero, List.set_cons_succ]
          refine wpAnyH_ready (rs := [7]) (by as_aux_lemma => kernel_rfl) (by simp) ?_
          refine AllReadyH.cons (o := _) rfl (fun K hK => ?_) (AllReadyH.nil)
          simp only [List.getElem_toArray, List.getElem_cons_succ, List.getElem_cons_zero]
          go_simp
          have hA7 := heap_alloc_new v6 (.cells #[.int .i64 0, .int .i64 0, .int .i64 0] 44)
          have hL7 := hW.size
          have hNE : b6 ≠ v6.heap.size := Nat.ne_of_lt (Array.getElem?_eq_some_iff.1 hA6).1
          replace hA6 := keepH (Joins.below_alloc1 v6 (.cells #[.int .i64 0, .int .i64 0, .int .i64 0] 44)) (Array.getElem?_eq_some_iff.1 hA6).1 hA6
          have hsz := hW.size
          rw [hN] at hsz
          replace hW := hW.alloc hsz (.cells #[.int .i64 0, .int .i64 0, .int .i64 0] 44)
          clear hsz
          obtain ⟨b7, hb7⟩ : ∃ b, v6.heap.size = b := ⟨_, rfl⟩
          rw [hb7] at hA7 hNE ⊢
          rw [hN] at hL7
          rw [hb7] at hL7
          clear hb7
          generalize v6.alloc (.cells #[.int .i64 0, .int .i64 0, .int .i64 0] 44) = v7 at hA7 hW hA6 ⊢
          refine hK.out _ _ (HS.out _ hW) (fun hHeld => ?_)
          clear hK K
          try simp only [Act.put, List.getElem_toArray, List.getElem_cons_succ, List.getElem_cons_zero, List.setIfInBounds_toArray, List.set_cons_zero, List.set_cons_succ]
          refine wpAnyH_ready (rs := [8]) (by as_aux_lemma => kernel_rfl) (by simp) ?_
          refine AllReadyH.cons (o := _) rfl (fun K hK => ?_) (AllReadyH.nil)
          obtain ⟨t0, t1, t2, t3, t4, t5⟩ := trip_cell hA6
          simp only [List.getElem_toArray, List.getElem_cons_succ, List.getElem_cons_zero]
          go_simp
          clear t0 t1 t2 t3 t4 t5
          replace hA7 := set3_other (b := b6) (u := .int .i64 (U x)) (v := .int .i64 (V x)) (s := .int .i64 (S x)) hA7 (by omega)
          replace hA6 := set3_heapV (u := .int .i64 (U x)) (v := .int .i64 (V x)) (s := .int .i64 (S x)) hA6
          replace hW := below_set3 (x := .int .i64 (U x)) (y := .int .i64 (V x)) (z := .int .i64 (S x)) hW hL6
          generalize ((v7.setCell ⟨b6, 0, none⟩ (.int .i64 (U x))).setCell ⟨b6, 1, none⟩ (.int .i64 (V x))).setCell ⟨b6, 2, none⟩ (.int .i64 (S x)) = v8 at hA6 hA7 hW ⊢
          refine hK.out _ _ (HS.out _ hW) (fun hHeld => ?_)
          clear hK K
          try simp only [Act.put, List.getElem_toArray, List.getElem_cons_succ, List.getElem_cons_zero, List.setIfInBounds_toArray, List.set_cons_zero, List.set_cons_succ]
          refine wpAnyH_ready (rs := [9]) (by as_aux_lemma => kernel_rfl) (by simp) ?_
          refine AllReadyH.cons (o := _) rfl (fun K hK => ?_) (AllReadyH.nil)
          obtain ⟨t0, t1, t2, t3, t4, t5⟩ := trip_cell hA7
          simp only [List.getElem_toArray, List.getElem_cons_succ, List.getElem_cons_zero]
          go_simp
          clear t0 t1 t2 t3 t4 t5
          replace hA6 := set3_other (b := b7) (u := .int .i64 (U d)) (v := .int .i64 (V d)) (s := .int .i64 (S d)) hA6 (by omega)
          replace hA7 := set3_heapV (u := .int .i64 (U d)) (v := .int .i64 (V d)) (s := .int .i64 (S d)) hA7
          replace hW := below_set3 (x := .int .i64 (U d)) (y := .int .i64 (V d)) (z := .int .i64 (S d)) hW hL7
          generalize ((v8.setCell ⟨b7, 0, none⟩ (.int .i64 (U d))).setCell ⟨b7, 1, none⟩ (.int .i64 (V d))).setCell ⟨b7, 2, none⟩ (.int .i64 (S d)) = v9 at hA6 hA7 hW ⊢
          refine hK.out _ _ (HS.out _ hW) (fun hHeld => ?_)
          clear hK K
          try simp only [Act.put, List.getElem_toArray, List.getElem_cons_succ, List.getElem_cons_zero, List.setIfInBounds_toArray, List.set_cons_zero, List.set_cons_succ]
          refine wpAnyH_done (by kernel_rfl) ?_ _
          go_wp2_with fail
          go_meet
          exact ⟨b6, b7, rfl, rfl, by omega, by omega, by omega, Lib.hid hA6, Lib.hid hA7, Lib.hid hW⟩
        · simp only [List.getElem_toArray, List.getElem_cons_succ, List.getElem_cons_zero]
          go_simp
          have hA7 := heap_alloc_new w5 (.cells #[.int .i64 0, .int .i64 0, .int .i64 0] 44)
          have hL7 := hW.size
          have hsz := hW.size
          rw [hN] at hsz
          replace hW := hW.alloc hsz (.cells #[.int .i64 0, .int .i64 0, .int .i64 0] 44)
          clear hsz
          obtain ⟨b7, hb7⟩ : ∃ b, w5.heap.size = b := ⟨_, rfl⟩
          rw [hb7] at hA7 ⊢
          rw [hN] at hL7
          rw [hb7] at hL7
          clear hb7
          generalize w5.alloc (.cells #[.int .i64 0, .int .i64 0, .int .i64 0] 44) = v7 at hA7 hW ⊢
          refine hK.out _ _ (HS.out _ hW) (fun hHeld => ?_)
          clear hK K
          try simp only [Act.put, List.getElem_toArray, List.getElem_cons_succ, List.getElem_cons_zero, List.setIfInBounds_toArray, List.set_cons_zero, List.set_cons_succ]
          refine wpAnyH_ready (rs := [6]) (by as_aux_lemma => kernel_rfl) (by simp) ?_
          refine AllReadyH.cons (o := _) rfl (fun K hK => ?_) (AllReadyH.nil)
          simp only [List.getElem_toArray, List.getElem_cons_succ, List.getElem_cons_zero]
          go_simp
          have hA6 := heap_alloc_new v7 (.cells #[.int .i64 0, .int .i64 0, .int .i64 0] 44)
          have hL6 := hW.size
          have hNE : b7 ≠ v7.heap.size := Nat.ne_of_lt (Array.getElem?_eq_some_iff.1 hA7).1
          replace hA7 := keepH (Joins.below_alloc1 v7 (.cells #[.int .i64 0, .int .i64 0, .int .i64 0] 44)) (Array.getElem?_eq_some_iff.1 hA7).1 hA7
          have hsz := hW.size
          rw [hN] at hsz
          replace hW := hW.alloc hsz (.cells #[.int .i64 0, .int .i64 0, .int .i64 0] 44)
          clear hsz
          obtain ⟨b6, hb6⟩ : ∃ b, v7.heap.size = b := ⟨_, rfl⟩
          rw [hb6] at hA6 hNE ⊢
          rw [hN] at hL6
          rw [hb6] at hL6
          clear hb6
          generalize v7.alloc (.cells #[.int .i64 0, .int .i64 0, .int .i64 0] 44) = v6 at hA6 hW hA7 ⊢
          refine hK.out _ _ (HS.out _ hW) (fun hHeld => ?_)
          clear hK K
          try simp only [Act.put, List.getElem_toArray, List.getElem_cons_succ, List.getElem_cons_zero, List.setIfInBounds_toArray, List.set_cons_zero, List.set_cons_succ]
          refine wpAnyH_ready (rs := [8]) (by as_aux_lemma => kernel_rfl) (by simp) ?_
          refine AllReadyH.cons (o := _) rfl (fun K hK => ?_) (AllReadyH.nil)
          obtain ⟨t0, t1, t2, t3, t4, t5⟩ := trip_cell hA6
          simp only [List.getElem_toArray, List.getElem_cons_succ, List.getElem_cons_zero]
          go_simp
          clear t0 t1 t2 t3 t4 t5
          replace hA7 := set3_other (b := b6) (u := .int .i64 (U x)) (v := .int .i64 (V x)) (s := .int .i64 (S x)) hA7 (by omega)
          replace hA6 := set3_heapV (u := .int .i64 (U x)) (v := .int .i64 (V x)) (s := .int .i64 (S x)) hA6
          replace hW := below_set3 (x := .int .i64 (U x)) (y := .int .i64 (V x)) (z := .int .i64 (S x)) hW hL6
          generalize ((v6.setCell ⟨b6, 0, none⟩ (.int .i64 (U x))).setCell ⟨b6, 1, none⟩ (.int .i64 (V x))).setCell ⟨b6, 2, none⟩ (.int .i64 (S x)) = v8 at hA6 hA7 hW ⊢
          refine hK.out _ _ (HS.out _ hW) (fun hHeld => ?_)
          clear hK K
          try simp only [Act.put, List.getElem_toArray, List.getElem_cons_succ, List.getElem_cons_zero, List.setIfInBounds_toArray, List.set_cons_zero, List.set_cons_succ]
          refine wpAnyH_ready (rs := [9]) (by as_aux_lemma => kernel_rfl) (by simp) ?_
          refine AllReadyH.cons (o := _) rfl (fun K hK => ?_) (AllReadyH.nil)
          obtain ⟨t0, t1, t2, t3, t4, t5⟩ := trip_cell hA7
          simp only [List.getElem_toArray, List.getElem_cons_succ, List.getElem_cons_zero]
          go_simp
          clear t0 t1 t2 t3 t4 t5
          replace hA6 := set3_other (b := b7) (u := .int .i64 (U d)) (v := .int .i64 (V d)) (s := .int .i64 (S d)) hA6 (by omega)
          replace hA7 := set3_heapV (u := .int .i64 (U d)) (v := .int .i64 (V d)) (s := .int .i64 (S d)) hA7
          replace hW := below_set3 (x := .int .i64 (U d)) (y := .int .i64 (V d)) (z := .int .i64 (S d)) hW hL7
          generalize ((v8.setCell ⟨b7, 0, none⟩ (.int .i64 (U d))).setCell ⟨b7, 1, none⟩ (.int .i64 (V d))).setCell ⟨b7, 2, none⟩ (.int .i64 (S d)) = v9 at hA6 hA7 hW ⊢
          refine hK.out _ _ (HS.out _ hW) (fun hHeld => ?_)
          clear hK K
          try simp only [Act.put, List.getElem_toArray, List.getElem_cons_succ, List.getElem_cons_zero, List.setIfInBounds_toArray, List.set_cons_zero, List.set_cons_succ]
          refine wpAnyH_done (by kernel_rfl) ?_ _
          go_wp2_with fail
          go_meet
          exact ⟨b6, b7, rfl, rfl, by omega, by omega, by omega, Lib.hid hA6, Lib.hid hA7, Lib.hid hW⟩
      · simp only [List.getElem_toArray, List.getElem_cons_succ, List.getElem_cons_zero]
        go_simp
        have hA6 := heap_alloc_new w2 (.cells #[.int .i64 0, .int .i64 0, .int .i64 0] 44)
        have hL6 := hW.size
        have hsz := hW.size
        rw [hN] at hsz
        replace hW := hW.alloc hsz (.cells #[.int .i64 0, .int .i64 0, .int .i64 0] 44)
        clear hsz
        obtain ⟨b6, hb6⟩ : ∃ b, w2.heap.size = b := ⟨_, rfl⟩
        rw [hb6] at hA6 ⊢
        rw [hN] at hL6
        rw [hb6] at hL6
        clear hb6
        generalize w2.alloc (.cells #[.int .i64 0, .int .i64 0, .int .i64 0] 44) = v6 at hA6 hW ⊢
        refine hK.out _ _ (HS.out _ hW) (fun hHeld => ?_)
        clear hK K
        try simp only [Act.put, List.getElem_toArray, List.getElem_cons_succ, List.getElem_cons_zero, List.setIfInBounds_toArray, List.set_cons_zero, List.set_cons_succ]
        refine wpAnyH_ready (rs := [5, 7]) (by as_aux_lemma => kernel_rfl) (by simp) ?_
        refine AllReadyH.cons (o := _) rfl (fun K hK => ?_) (AllReadyH.cons (o := _) rfl (fun K hK => ?_) (AllReadyH.nil))
        · simp only [List.getElem_toArray, List.getElem_cons_succ, List.getElem_cons_zero]
          go_simp
          refine (HPL.out _ d HD.out).mono ?_
          rintro e w5 ⟨rfl, hb⟩
          replace hA6 := keepH hb (Array.getElem?_eq_some_iff.1 hA6).1 hA6
          have hsz := hW.size
          rw [hN] at hsz
          replace hW := hW.trans (hb.mono hsz)
          clear hb hsz
          refine hK.out _ _ (HS.out _ hW) (fun hHeld => ?_)
          clear hK K
          try simp only [Act.put, List.getElem_toArray, List.getElem_cons_succ, List.getElem_cons_zero, List.setIfInBounds_toArray, List.set_cons_zero, List.set_cons_succ]
          refine wpAnyH_ready (rs := [7]) (by as_aux_lemma => kernel_rfl) (by simp) ?_
          refine AllReadyH.cons (o := _) rfl (fun K hK => ?_) (AllReadyH.nil)
          simp only [List.getElem_toArray, List.getElem_cons_succ, List.getElem_cons_zero]
          go_simp
          have hA7 := heap_alloc_new w5 (.cells #[.int .i64 0, .int .i64 0, .int .i64 0] 44)
          have hL7 := hW.size
          have hNE : b6 ≠ w5.heap.size := Nat.ne_of_lt (Array.getElem?_eq_some_iff.1 hA6).1
          replace hA6 := keepH (Joins.below_alloc1 w5 (.cells #[.int .i64 0, .int .i64 0, .int .i64 0] 44)) (Array.getElem?_eq_some_iff.1 hA6).1 hA6
          have hsz := hW.size
          rw [hN] at hsz
          replace hW := hW.alloc hsz (.cells #[.int .i64 0, .int .i64 0, .int .i64 0] 44)
          clear hsz
          obtain ⟨b7, hb7⟩ : ∃ b, w5.heap.size = b := ⟨_, rfl⟩
          rw [hb7] at hA7 hNE ⊢
          rw [hN] at hL7
          rw [hb7] at hL7
          clear hb7
          generalize w5.alloc (.cells #[.int .i64 0, .int .i64 0, .int .i64 0] 44) = v7 at hA7 hW hA6 ⊢
          refine hK.out _ _ (HS.out _ hW) (fun hHeld => ?_)
          clear hK K
          try simp only [Act.put, List.getElem_toArray, List.getElem_cons_succ, List.getElem_cons_zero, List.setIfInBounds_toArray, List.set_cons_zero, List.set_cons_succ]
          refine wpAnyH_ready (rs := [8]) (by as_aux_lemma => kernel_rfl) (by simp) ?_
          refine AllReadyH.cons (o := _) rfl (fun K hK => ?_) (AllReadyH.nil)
          obtain ⟨t0, t1, t2, t3, t4, t5⟩ := trip_cell hA6
          simp only [List.getElem_toArray, List.getElem_cons_succ, List.getElem_cons_zero]
          go_simp
          clear t0 t1 t2 t3 t4 t5
          replace hA7 := set3_other (b := b6) (u := .int .i64 (U x)) (v := .int .i64 (V x)) (s := .int .i64 (S x)) hA7 (by omega)
          replace hA6 := set3_heapV (u := .int .i64 (U x)) (v := .int .i64 (V x)) (s := .int .i64 (S x)) hA6
          replace hW := below_set3 (x := .int .i64 (U x)) (y := .int .i64 (V x)) (z := .int .i64 (S x)) hW hL6
          generalize ((v7.setCell ⟨b6, 0, none⟩ (.int .i64 (U x))).setCell ⟨b6, 1, none⟩ (.int .i64 (V x))).setCell ⟨b6, 2, none⟩ (.int .i64 (S x)) = v8 at hA6 hA7 hW ⊢
          refine hK.out _ _ (HS.out _ hW) (fun hHeld => ?_)
          clear hK K
          try simp only [Act.put, List.getElem_toArray, List.getElem_cons_succ, List.getElem_cons_zero, List.setIfInBounds_toArray, List.set_cons_zero, List.set_cons_succ]
          refine wpAnyH_ready (rs := [9]) (by as_aux_lemma => kernel_rfl) (by simp) ?_
          refine AllReadyH.cons (o := _) rfl (fun K hK => ?_) (AllReadyH.nil)
          obtain ⟨t0, t1, t2, t3, t4, t5⟩ := trip_cell hA7
          simp only [List.getElem_toArray, List.getElem_cons_succ, List.getElem_cons_zero]
          go_simp
          clear t0 t1 t2 t3 t4 t5
          replace hA6 := set3_other (b := b7) (u := .int .i64 (U d)) (v := .int .i64 (V d)) (s := .int .i64 (S d)) hA6 (by omega)
          replace hA7 := set3_heapV (u := .int .i64 (U d)) (v := .int .i64 (V d)) (s := .int .i64 (S d)) hA7
          replace hW := below_set3 (x := .int .i64 (U d)) (y := .int .i64 (V d)) (z := .int .i64 (S d)) hW hL7
          generalize ((v8.setCell ⟨b7, 0, none⟩ (.int .i64 (U d))).setCell ⟨b7, 1, none⟩ (.int .i64 (V d))).setCell ⟨b7, 2, none⟩ (.int .i64 (S d)) = v9 at hA6 hA7 hW ⊢
          refine hK.out _ _ (HS.out _ hW) (fun hHeld => ?_)
          clear hK K
          try simp only [Act.put, List.getElem_toArray, List.getElem_cons_succ, List.getElem_cons_zero, List.setIfInBounds_toArray, List.set_cons_zero, List.set_cons_succ]
          refine wpAnyH_done (by kernel_rfl) ?_ _
          go_wp2_with fail
          go_meet
          exact ⟨b6, b7, rfl, rfl, by omega, by omega, by omega, Lib.hid hA6, Lib.hid hA7, Lib.hid hW⟩
        · simp only [List.getElem_toArray, List.getElem_cons_succ, List.getElem_cons_zero]
          go_simp
          have hA7 := heap_alloc_new v6 (.cells #[.int .i64 0, .int .i64 0, .int .i64 0] 44)
          have hL7 := hW.size
          have hNE : b6 ≠ v6.heap.size := Nat.ne_of_lt (Array.getElem?_eq_some_iff.1 hA6).1
          replace hA6 := keepH (Joins.below_alloc1 v6 (.cells #[.int .i64 0, .int .i64 0, .int .i64 0] 44)) (Array.getElem?_eq_some_iff.1 hA6).1 hA6
          have hsz := hW.size
          rw [hN] at hsz
          replace hW := hW.alloc hsz (.cells #[.int .i64 0, .int .i64 0, .int .i64 0] 44)
          clear hsz
          obtain ⟨b7, hb7⟩ : ∃ b, v6.heap.size = b := ⟨_, rfl⟩
          rw [hb7] at hA7 hNE ⊢
          rw [hN] at hL7
          rw [hb7] at hL7
          clear hb7
          generalize v6.alloc (.cells #[.int .i64 0, .int .i64 0, .int .i64 0] 44) = v7 at hA7 hW hA6 ⊢
          refine hK.out _ _ (HS.out _ hW) (fun hHeld => ?_)
          clear hK K
          try simp only [Act.put, List.getElem_toArray, List.getElem_cons_succ, List.getElem_cons_zero, List.setIfInBounds_toArray, List.set_cons_zero, List.set_cons_succ]
          refine wpAnyH_ready (rs := [5]) (by as_aux_lemma => kernel_rfl) (by simp) ?_
          refine AllReadyH.cons (o := _) rfl (fun K hK => ?_) (AllReadyH.nil)
          simp only [List.getElem_toArray, List.getElem_cons_succ, List.getElem_cons_zero]
          go_simp
          refine (HPL.out _ d HD.out).mono ?_
          rintro e w5 ⟨rfl, hb⟩
          replace hA6 := keepH hb (Array.getElem?_eq_some_iff.1 hA6).1 hA6
          replace hA7 := keepH hb (Array.getElem?_eq_some_iff.1 hA7).1 hA7
          have hsz := hW.size
          rw [hN] at hsz
          replace hW := hW.trans (hb.mono hsz)
          clear hb hsz
          refine hK.out _ _ (HS.out _ hW) (fun hHeld => ?_)
          clear hK K
          try simp only [Act.put, List.getElem_toArray, List.getElem_cons_succ, List.getElem_cons_zero, List.setIfInBounds_toArray, List.set_cons_zero, List.set_cons_succ]
          refine wpAnyH_ready (rs := [8]) (by as_aux_lemma => kernel_rfl) (by simp) ?_
          refine AllReadyH.cons (o := _) rfl (fun K hK => ?_) (AllReadyH.nil)
          obtain ⟨t0, t1, t2, t3, t4, t5⟩ := trip_cell hA6
          simp only [List.getElem_toArray, List.getElem_cons_succ, List.getElem_cons_zero]
          go_simp
          clear t0 t1 t2 t3 t4 t5
          replace hA7 := set3_other (b := b6) (u := .int .i64 (U x)) (v := .int .i64 (V x)) (s := .int .i64 (S x)) hA7 (by omega)
          replace hA6 := set3_heapV (u := .int .i64 (U x)) (v := .int .i64 (V x)) (s := .int .i64 (S x)) hA6
          replace hW := below_set3 (x := .int .i64 (U x)) (y := .int .i64 (V x)) (z := .int .i64 (S x)) hW hL6
          generalize ((w5.setCell ⟨b6, 0, none⟩ (.int .i64 (U x))).setCell ⟨b6, 1, none⟩ (.int .i64 (V x))).setCell ⟨b6, 2, none⟩ (.int .i64 (S x)) = v8 at hA6 hA7 hW ⊢
          refine hK.out _ _ (HS.out _ hW) (fun hHeld => ?_)
          clear hK K
          try simp only [Act.put, List.getElem_toArray, List.getElem_cons_succ, List.getElem_cons_zero, List.setIfInBounds_toArray, List.set_cons_zero, List.set_cons_succ]
          refine wpAnyH_ready (rs := [9]) (by as_aux_lemma => kernel_rfl) (by simp) ?_
          refine AllReadyH.cons (o := _) rfl (fun K hK => ?_) (AllReadyH.nil)
          obtain ⟨t0, t1, t2, t3, t4, t5⟩ := trip_cell hA7
          simp only [List.getElem_toArray, List.getElem_cons_succ, List.getElem_cons_zero]
          go_simp
          clear t0 t1 t2 t3 t4 t5
          replace hA6 := set3_other (b := b7) (u := .int .i64 (U d)) (v := .int .i64 (V d)) (s := .int .i64 (S d)) hA6 (by omega)
          replace hA7 := set3_heapV (u := .int .i64 (U d)) (v := .int .i64 (V d)) (s := .int .i64 (S d)) hA7
          replace hW := below_set3 (x := .int .i64 (U d)) (y := .int .i64 (V d)) (z := .int .i64 (S d)) hW hL7
          generalize ((v8.setCell ⟨b7, 0, none⟩ (.int .i64 (U d))).setCell ⟨b7, 1, none⟩ (.int .i64 (V d))).setCell ⟨b7, 2, none⟩ (.int .i64 (S d)) = v9 at hA6 hA7 hW ⊢
          refine hK.out _ _ (HS.out _ hW) (fun hHeld => ?_)
          clear hK K
          try simp only [Act.put, List.getElem_toArray, List.getElem_cons_succ, List.getElem_cons_zero, List.setIfInBounds_toArray, List.set_cons_zero, List.set_cons_succ]
          refine wpAnyH_done (by kernel_rfl) ?_ _
          go_wp2_with fail
          go_meet
          exact ⟨b6, b7, rfl, rfl, by omega, by omega, by omega, Lib.hid hA6, Lib.hid hA7, Lib.hid hW⟩
      · simp only [List.getElem_toArray, List.getElem_cons_succ, List.getElem_cons_zero]
        go_simp
        have hA7 := heap_alloc_new w2 (.cells #[.int .i64 0, .int .i64 0, .int .i64 0] 44)
        have hL7 := hW.size
        have hsz := hW.size
        rw [hN] at hsz
        replace hW := hW.alloc hsz (.cells #[.int .i64 0, .int .i64 0, .int .i64 0] 44)
        clear hsz
        obtain ⟨b7, hb7⟩ : ∃ b, w2.heap.size = b := ⟨_, rfl⟩
        rw [hb7] at hA7 ⊢
        rw [hN] at hL7
        rw [hb7] at hL7
        clear hb7
        generalize w2.alloc (.cells #[.int .i64 0, .int .i64 0, .int .i64 0] 44) = v7 at hA7 hW ⊢
        refine hK.out _ _ (HS.out _ hW) (fun hHeld => ?_)
        clear hK K
        try simp only [Act.put, List.getElem_toArray, List.getElem_cons_succ, List.getElem_cons_zero, List.setIfInBounds_toArray, List.set_cons_zero, List.set_cons_succ]
        refine wpAnyH_ready (rs := [5, 6]) (by as_aux_lemma => kernel_rfl) (by simp) ?_
        refine AllReadyH.cons (o := _) rfl (fun K hK => ?_) (AllReadyH.cons (o := _) rfl (fun K hK => ?_) (AllReadyH.nil))
        · simp only [List.getElem_toArray, List.getElem_cons_succ, List.getElem_cons_zero]
          go_simp
          refine (HPL.out _ d HD.out).mono ?_
          rintro e w5 ⟨rfl, hb⟩
          replace hA7 := keepH hb (Array.getElem?_eq_some_iff.1 hA7).1 hA7
          have hsz := hW.size
          rw [hN] at hsz
          replace hW := hW.trans (hb.mono hsz)
          clear hb hsz
          refine hK.out _ _ (HS.out _ hW) (fun hHeld => ?_)
          clear hK K
          try simp only [Act.put, List.getElem_toArray, List.getElem_cons_succ, List.getElem_cons_zero, List.setIfInBounds_toArray, List.set_cons_zero, List.set_cons_succ]
          refine wpAnyH_ready (rs := [6]) (by as_aux_lemma => kernel_rfl) (by simp) ?_
          refine AllReadyH.cons (o := _) rfl (fun K hK => ?_) (AllReadyH.nil)
          simp only [List.getElem_toArray, List.getElem_cons_succ, List.getElem_cons_zero]
          go_simp
          have hA6 := heap_alloc_new w5 (.cells #[.int .i64 0, .int .i64 0, .int .i64 0] 44)
          have hL6 := hW.size
          have hNE : b7 ≠ w5.heap.size := Nat.ne_of_lt (Array.getElem?_eq_some_iff.1 hA7).1
          replace hA7 := keepH (Joins.below_alloc1 w5 (.cells #[.int .i64 0, .int .i64 0, .int .i64 0] 44)) (Array.getElem?_eq_some_iff.1 hA7).1 hA7
          have hsz := hW.size
          rw [hN] at hsz
          replace hW := hW.alloc hsz (.cells #[.int .i64 0, .int .i64 0, .int .i64 0] 44)
          clear hsz
          obtain ⟨b6, hb6⟩ : ∃ b, w5.heap.size = b := ⟨_, rfl⟩
          rw [hb6] at hA6 hNE ⊢
          rw [hN] at hL6
          rw [hb6] at hL6
          clear hb6
          generalize w5.alloc (.cells #[.int .i64 0, .int .i64 0, .int .i64 0] 44) = v6 at hA6 hW hA7 ⊢
          refine hK.out _ _ (HS.out _ hW) (fun hHeld => ?_)
          clear hK K
          try simp only [Act.put, List.getElem_toArray, List.getElem_cons_succ, List.getElem_cons_zero, List.setIfInBounds_toArray, List.set_cons_zero, List.set_cons_succ]
          refine wpAnyH_ready (rs := [8]) (by as_aux_lemma => kernel_rfl) (by simp) ?_
          refine AllReadyH.cons (o := _) rfl (fun K hK => ?_) (AllReadyH.nil)
          obtain ⟨t0, t1, t2, t3, t4, t5⟩ := trip_cell hA6
          simp only [List.getElem_toArray, List.getElem_cons_succ, List.getElem_cons_zero]
          go_simp
          clear t0 t1 t2 t3 t4 t5
          replace hA7 := set3_other (b := b6) (u := .int .i64 (U x)) (v := .int .i64 (V x)) (s := .int .i64 (S x)) hA7 (by omega)
          replace hA6 := set3_heapV (u := .int .i64 (U x)) (v := .int .i64 (V x)) (s := .int .i64 (S x)) hA6
          replace hW := below_set3 (x := .int .i64 (U x)) (y := .int .i64 (V x)) (z := .int .i64 (S x)) hW hL6
          generalize ((v6.setCell ⟨b6, 0, none⟩ (.int .i64 (U x))).setCell ⟨b6, 1, none⟩ (.int .i64 (V x))).setCell ⟨b6, 2, none⟩ (.int .i64 (S x)) = v8 at hA6 hA7 hW ⊢
          refine hK.out _ _ (HS.out _ hW) (fun hHeld => ?_)
          clear hK K
          try simp only [Act.put, List.getElem_toArray, List.getElem_cons_succ, List.getElem_cons_zero, List.setIfInBounds_toArray, List.set_cons_zero, List.set_cons_succ]
          refine wpAnyH_ready (rs := [9]) (by as_aux_lemma => kernel_rfl) (by simp) ?_
          refine AllReadyH.cons (o := _) rfl (fun K hK => ?_) (AllReadyH.nil)
          obtain ⟨t0, t1, t2, t3, t4, t5⟩ := trip_cell hA7
          simp only [List.getElem_toArray, List.getElem_cons_succ, List.getElem_cons_zero]
          go_simp
          clear t0 t1 t2 t3 t4 t5
          replace hA6 := set3_other (b := b7) (u := .int .i64 (U d)) (v := .int .i64 (V d)) (s := .int .i64 (S d)) hA6 (by omega)
          replace hA7 := set3_heapV (u := .int .i64 (U d)) (v := .int .i64 (V d)) (s := .int .i64 (S d)) hA7
          replace hW := below_set3 (x := .int .i64 (U d)) (y := .int .i64 (V d)) (z := .int .i64 (S d)) hW hL7
          generalize ((v8.setCell ⟨b7, 0, none⟩ (.int .i64 (U d))).setCell ⟨b7, 1, none⟩ (.int .i64 (V d))).setCell ⟨b7, 2, none⟩ (.int .i64 (S d)) = v9 at hA6 hA7 hW ⊢
          refine hK.out _ _ (HS.out _ hW) (fun hHeld => ?_)
          clear hK K
          try simp only [Act.put, List.getElem_toArray, List.getElem_cons_succ, List.getElem_cons_zero, List.setIfInBounds_toArray, List.set_cons_zero, List.set_cons_succ]
          refine wpAnyH_done (by kernel_rfl) ?_ _
          go_wp2_with fail
          go_meet
          exact ⟨b6, b7, rfl, rfl, by omega, by omega, by omega, Lib.hid hA6, Lib.hid hA7, Lib.hid hW⟩
        · simp only [List.getElem_toArray, List.getElem_cons_succ, List.getElem_cons_zero]
          go_simp
          have hA6 := heap_alloc_new v7 (.cells #[.int .i64 0, .int .i64 0, .int .i64 0] 44)
          have hL6 := hW.size
          have hNE : b7 ≠ v7.heap.size := Nat.ne_of_lt (Array.getElem?_eq_some_iff.1 hA7).1
          replace hA7 := keepH (Joins.below_alloc1 v7 (.cells #[.int .i64 0, .int .i64 0, .int .i64 0] 44)) (Array.getElem?_eq_some_iff.1 hA7).1 hA7
          have hsz := hW.size
          rw [hN] at hsz
          replace hW := hW.alloc hsz (.cells #[.int .i64 0, .int .i64 0, .int .i64 0] 44)
          clear hsz
          obtain ⟨b6, hb6⟩ : ∃ b, v7.heap.size = b := ⟨_, rfl⟩
          rw [hb6] at hA6 hNE ⊢
          rw [hN] at hL6
          rw [hb6] at hL6
          clear hb6
          generalize v7.alloc (.cells #[.int .i64 0, .int .i64 0, .int .i64 0] 44) = v6 at hA6 hW hA7 ⊢
          refine hK.out _ _ (HS.out _ hW) (fun hHeld => ?_)
          clear hK K
          try simp only [Act.put, List.getElem_toArray, List.getElem_cons_succ, List.getElem_cons_zero, List.setIfInBounds_toArray, List.set_cons_zero, List.set_cons_succ]
          refine wpAnyH_ready (rs := [5]) (by as_aux_lemma => kernel_rfl) (by simp) ?_
          refine AllReadyH.cons (o := _) rfl (fun K hK => ?_) (AllReadyH.nil)
          simp only [List.getElem_toArray, List.getElem_cons_succ, List.getElem_cons_zero]
          go_simp
          refine (HPL.out _ d HD.out).mono ?_
          rintro e w5 ⟨rfl, hb⟩
          replace hA6 := keepH hb (Array.getElem?_eq_some_iff.1 hA6).1 hA6
          replace hA7 := keepH hb (Array.getElem?_eq_some_iff.1 hA7).1 hA7
          have hsz := hW.size
          rw [hN] at hsz
          replace hW := hW.trans (hb.mono hsz)
          clear hb hsz
          refine hK.out _ _ (HS.out _ hW) (fun hHeld => ?_)
          clear hK K
          try simp only [Act.put, List.getElem_toArray, List.getElem_cons_succ, List.getElem_cons_zero, List.setIfInBounds_toArray, List.set_cons_zero, List.set_cons_succ]
          refine wpAnyH_ready (rs := [8]) (by as_aux_lemma => kernel_rfl) (by simp) ?_
          refine AllReadyH.cons (o := _) rfl (fun K hK => ?_) (AllReadyH.nil)
          obtain ⟨t0, t1, t2, t3, t4, t5⟩ := trip_cell hA6
          simp only [List.getElem_toArray, List.getElem_cons_succ, List.getElem_cons_zero]
          go_simp
          clear t0 t1 t2 t3 t4 t5
          replace hA7 := set3_other (b := b6) (u := .int .i64 (U x)) (v := .int .i64 (V x)) (s := .int .i64 (S x)) hA7 (by omega)
          replace hA6 := set3_heapV (u := .int .i64 (U x)) (v := .int .i64 (V x)) (s := .int .i64 (S x)) hA6
          replace hW := below_set3 (x := .int .i64 (U x)) (y := .int .i64 (V x)) (z := .int .i64 (S x)) hW hL6
          generalize ((w5.setCell ⟨b6, 0, none⟩ (.int .i64 (U x))).setCell ⟨b6, 1, none⟩ (.int .i64 (V x))).setCell ⟨b6, 2, none⟩ (.int .i64 (S x)) = v8 at hA6 hA7 hW ⊢
          refine hK.out _ _ (HS.out _ hW) (fun hHeld => ?_)
          clear hK K
          try simp only [Act.put, List.getElem_toArray, List.getElem_cons_succ, List.getElem_cons_zero, List.setIfInBounds_toArray, List.set_cons_zero, List.set_cons_succ]
          refine wpAnyH_ready (rs := [9]) (by as_aux_lemma => kernel_rfl) (by simp) ?_
          refine AllReadyH.cons (o := _) rfl (fun K hK => ?_) (AllReadyH.nil)
          obtain ⟨t0, t1, t2, t3, t4, t5⟩ := trip_cell hA7
          simp only [List.getElem_toArray, List.getElem_cons_succ, List.getElem_cons_zero]
          go_simp
          clear t0 t1 t2 t3 t4 t5
          replace hA6 := set3_other (b := b7) (u := .int .i64 (U d)) (v := .int .i64 (V d)) (s := .int .i64 (S d)) hA6 (by omega)
          replace hA7 := set3_heapV (u := .int .i64 (U d)) (v := .int .i64 (V d)) (s := .int .i64 (S d)) hA7
          replace hW := below_set3 (x := .int .i64 (U d)) (y := .int .i64 (V d)) (z := .int .i64 (S d)) hW hL7
          generalize ((v8.setCell ⟨b7, 0, none⟩ (.int .i64 (U d))).setCell ⟨b7, 1, none⟩ (.int .i64 (V d))).setCell ⟨b7, 2, none⟩ (.int .i64 (S d)) = v9 at hA6 hA7 hW ⊢
          refine hK.out _ _ (HS.out _ hW) (fun hHeld => ?_)
          clear hK K
          try simp only [Act.put, List.getElem_toArray, List.getElem_cons_succ, List.getElem_cons_zero, List.setIfInBounds_toArray, List.set_cons_zero, List.set_cons_succ]
          refine wpAnyH_done (by kernel_rfl) ?_ _
          go_wp2_with fail
          go_meet
          exact ⟨b6, b7, rfl, rfl, by omega, by omega, by omega, Lib.hid hA6, Lib.hid hA7, Lib.hid hW⟩
    · simp only [List.getElem_toArray, List.getElem_cons_succ, List.getElem_cons_zero]
      go_simp
      have hA6 := heap_alloc_new v0 (.cells #[.int .i64 0, .int .i64 0, .int .i64 0] 44)
      have hL6 := hW.size
      have hsz := hW.size
      rw [hN] at hsz
      replace hW := hW.alloc hsz (.cells #[.int .i64 0, .int .i64 0, .int .i64 0] 44)
      clear hsz
      obtain ⟨b6, hb6⟩ : ∃ b, v0.heap.size = b := ⟨_, rfl⟩
      rw [hb6] at hA6 ⊢
      rw [hN] at hL6
      rw [hb6] at hL6
      clear hb6
      generalize v0.alloc (.cells #[.int .i64 0, .int .i64 0, .int .i64 0] 44) = v6 at hA6 hW ⊢
      refine hK.out _ _ (HS.out _ hW) (fun hHeld => ?_)
      clear hK K
      try simp only [Act.put, List.getElem_toArray, List.getElem_cons_succ, List.getElem_cons_zero, List.setIfInBounds_toArray, List.set_cons_zero, List.set_cons_succ]
      refine wpAnyH_ready (rs := [2, 7]) (by as_aux_lemma => kernel_rfl) (by simp) ?_
      refine AllReadyH.cons (o := _) rfl (fun K hK => ?_) (AllReadyH.cons (o := _) rfl (fun K hK => ?_) (AllReadyH.nil))
      · simp only [List.getElem_toArray, List.getElem_cons_succ, List.getElem_cons_zero]
        go_simp
        refine (HPL.out _ x HX.out).mono ?_
        rintro e w2 ⟨rfl, hb⟩
        replace hA6 := keepH hb (Array.getElem?_eq_some_iff.1 hA6).1 hA6
        have hsz := hW.size
        rw [hN] at hsz
        replace hW := hW.trans (hb.mono hsz)
        clear hb hsz
        refine hK.out _ _ (HS.out _ hW) (fun hHeld => ?_)
        clear hK K
        try simp only [Act.put, List.getElem_toArray, List.getElem_cons_succ, List.getElem_cons_zero, List.setIfInBounds_toArray, List.set_cons_zero, List.set_cons_succ]
        refine wpAnyH_ready (rs := [5, 7]) (by as_aux_lemma => kernel_rfl) (by simp) ?_
        refine AllReadyH.cons (o := _) rfl (fun K hK => ?_) (AllReadyH.cons (o := _) rfl (fun K hK => ?_) (AllReadyH.nil))
        · simp only [List.getElem_toArray, List.getElem_cons_succ, List.getElem_cons_zero]
          go_simp
          refine (HPL.out _ d HD.out).mono ?_
          rintro e w5 ⟨rfl, hb⟩
          replace hA6 := keepH hb (Array.getElem?_eq_some_iff.1 hA6).1 hA6
          have hsz := hW.size
          rw [hN] at hsz
          replace hW := hW.trans (hb.mono hsz)
          clear hb hsz
          refine hK.out _ _ (HS.out _ hW) (fun hHeld => ?_)
          clear hK K
          try simp only [Act.put, List.getElem_toArray, List.getElem_cons_succ, List.getElem_cons_zero, List.setIfInBounds_toArray, List.set_cons_zero, List.set_cons_succ]
          refine wpAnyH_ready (rs := [7]) (by as_aux_lemma => kernel_rfl) (by simp) ?_
          refine AllReadyH.cons (o := _) rfl (fun K hK => ?_) (AllReadyH.nil)
          simp only [List.getElem_toArray, List.getElem_cons_succ, List.getElem_cons_zero]
          go_simp
          have hA7 := heap_alloc_new w5 (.cells #[.int .i64 0, .int .i64 0, .int .i64 0] 44)
          have hL7 := hW.size
          have hNE : b6 ≠ w5.heap.size := Nat.ne_of_lt (Array.getElem?_eq_some_iff.1 hA6).1
          replace hA6 := keepH (Joins.below_alloc1 w5 (.cells #[.int .i64 0, .int .i64 0, .int .i64 0] 44)) (Array.getElem?_eq_some_iff.1 hA6).1 hA6
          have hsz := hW.size
          rw [hN] at hsz
          replace hW := hW.alloc hsz (.cells #[.int .i64 0, .int .i64 0, .int .i64 0] 44)
          clear hsz
          obtain ⟨b7, hb7⟩ : ∃ b, w5.heap.size = b := ⟨_, rfl⟩
          rw [hb7] at hA7 hNE ⊢
          rw [hN] at hL7
          rw [hb7] at hL7
          clear hb7
          generalize w5.alloc (.cells #[.int .i64 0, .int .i64 0, .int .i64 0] 44) = v7 at hA7 hW hA6 ⊢
          refine hK.out _ _ (HS.out _ hW) (fun hHeld => ?_)
          clear hK K
          try simp only [Act.put, List.getElem_toArray, List.getElem_cons_succ, List.getElem_cons_zero, List.setIfInBounds_toArray, List.set_cons_zero, List.set_cons_succ]
          refine wpAnyH_ready (rs := [8]) (by as_aux_lemma => kernel_rfl) (by simp) ?_
          refine AllReadyH.cons (o := _) rfl (fun K hK => ?_) (AllReadyH.nil)
          obtain ⟨t0, t1, t2, t3, t4, t5⟩ := trip_cell hA6
          simp only [List.getElem_toArray, List.getElem_cons_succ, List.getElem_cons_zero]
          go_simp
          clear t0 t1 t2 t3 t4 t5
          replace hA7 := set3_other (b := b6) (u := .int .i64 (U x)) (v := .int .i64 (V x)) (s := .int .i64 (S x)) hA7 (by omega)
          replace hA6 := set3_heapV (u := .int .i64 (U x)) (v := .int .i64 (V x)) (s := .int .i64 (S x)) hA6
          replace hW := below_set3 (x := .int .i64 (U x)) (y := .int .i64 (V x)) (z := .int .i64 (S x)) hW hL6
          generalize ((v7.setCell ⟨b6, 0, none⟩ (.int .i64 (U x))).setCell ⟨b6, 1, none⟩ (.int .i64 (V x))).setCell ⟨b6, 2, none⟩ (.int .i64 (S x)) = v8 at hA6 hA7 hW ⊢
          refine hK.out _ _ (HS.out _ hW) (fun hHeld => ?_)
          clear hK K
          try simp only [Act.put, List.getElem_toArray, List.getElem_cons_succ, List.getElem_cons_zero, List.setIfInBounds_toArray, List.set_cons_zero, List.set_cons_succ]
          refine wpAnyH_ready (rs := [9]) (by as_aux_lemma => kernel_rfl) (by simp) ?_
          refine AllReadyH.cons (o := _) rfl (fun K hK => ?_) (AllReadyH.nil)
          obtain ⟨t0, t1, t2, t3, t4, t5⟩ := trip_cell hA7
          simp only [List.getElem_toArray, List.getElem_cons_succ, List.getElem_cons_zero]
          go_simp
          clear t0 t1 t2 t3 t4 t5
          replace hA6 := set3_other (b := b7) (u := .int .i64 (U d)) (v := .int .i64 (V d)) (s := .int .i64 (S d)) hA6 (by omega)
          replace hA7 := set3_heapV (u := .int .i64 (U d)) (v := .int .i64 (V d)) (s := .int .i64 (S d)) hA7
          replace hW := below_set3 (x := .int .i64 (U d)) (y := .int .i64 (V d)) (z := .int .i64 (S d)) hW hL7
          generalize ((v8.setCell ⟨b7, 0, none⟩ (.int .i64 (U d))).setCell ⟨b7, 1, none⟩ (.int .i64 (V d))).setCell ⟨b7, 2, none⟩ (.int .i64 (S d)) = v9 at hA6 hA7 hW ⊢
          refine hK.out _ _ (HS.out _ hW) (fun hHeld => ?_)
          clear hK K
          try simp only [Act.put, List.getElem_toArray, List.getElem_cons_succ, List.getElem_cons_zero, List.setIfInBounds_toArray, List.set_cons_zero, List.set_cons_succ]
          refine wpAnyH_done (by kernel_rfl) ?_ _
          go_wp2_with fail
          go_meet
          exact ⟨b6, b7, rfl, rfl, by omega, by omega, by omega, Lib.hid hA6, Lib.hid hA7, Lib.hid hW⟩
        · simp only [List.getElem_toArray, List.getElem_cons_succ, List.getElem_cons_zero]
          go_simp
          have hA7 := heap_alloc_new w2 (.cells #[.int .i64 0, .int .i64 0, .int .i64 0] 44)
          have hL7 := hW.size
          have hNE : b6 ≠ w2.heap.size := Nat.ne_of_lt (Array.getElem?_eq_some_iff.1 hA6).1
          replace hA6 := keepH (Joins.below_alloc1 w2 (.cells #[.int .i64 0, .int .i64 0, .int .i64 0] 44)) (Array.getElem?_eq_some_iff.1 hA6).1 hA6
          have hsz := hW.size
          rw [hN] at hsz
          replace hW := hW.alloc hsz (.cells #[.int .i64 0, .int .i64 0, .int .i64 0] 44)
          clear hsz
          obtain ⟨b7, hb7⟩ : ∃ b, w2.heap.size = b := ⟨_, rfl⟩
          rw [hb7] at hA7 hNE ⊢
          rw [hN] at hL7
          rw [hb7] at hL7
          clear hb7
          generalize w2.alloc (.cells #[.int .i64 0, .int .i64 0, .int .i64 0] 44) = v7 at hA7 hW hA6 ⊢
          refine hK.out _ _ (HS.out _ hW) (fun hHeld => ?_)
          clear hK K
          try simp only [Act.put, List.getElem_toArray, List.getElem_cons_succ, List.getElem_cons_zero, List.setIfInBounds_toArray, List.set_cons_zero, List.set_cons_succ]
          refine wpAnyH_ready (rs := [5]) (by as_aux_lemma => kernel_rfl) (by simp) ?_
          refine AllReadyH.cons (o := _) rfl (fun K hK => ?_) (AllReadyH.nil)
          simp only [List.getElem_toArray, List.getElem_cons_succ, List.getElem_cons_zero]
          go_simp
          refine (HPL.out _ d HD.out).mono ?_
          rintro e w5 ⟨rfl, hb⟩
          replace hA6 := keepH hb (Array.getElem?_eq_some_iff.1 hA6).1 hA6
          replace hA7 := keepH hb (Array.getElem?_eq_some_iff.1 hA7).1 hA7
          have hsz := hW.size
          rw [hN] at hsz
          replace hW := hW.trans (hb.mono hsz)
          clear hb hsz
          refine hK.out _ _ (HS.out _ hW) (fun hHeld => ?_)
          clear hK K
          try simp only [Act.put, List.getElem_toArray, List.getElem_cons_succ, List.getElem_cons_zero, List.setIfInBounds_toArray, List.set_cons_zero, List.set_cons_succ]
          refine wpAnyH_ready (rs := [8]) (by as_aux_lemma => kernel_rfl) (by simp) ?_
          refine AllReadyH.cons (o := _) rfl (fun K hK => ?_) (AllReadyH.nil)
          obtain ⟨t0, t1, t2, t3, t4, t5⟩ := trip_cell hA6
          simp only [List.getElem_toArray, List.getElem_cons_succ, List.getElem_cons_zero]
          go_simp
          clear t0 t1 t2 t3 t4 t5
          replace hA7 := set3_other (b := b6) (u := .int .i64 (U x)) (v := .int .i64 (V x)) (s := .int .i64 (S x)) hA7 (by omega)
          replace hA6 := set3_heapV (u := .int .i64 (U x)) (v := .int .i64 (V x)) (s := .int .i64 (S x)) hA6
          replace hW := below_set3 (x := .int .i64 (U x)) (y := .int .i64 (V x)) (z := .int .i64 (S x)) hW hL6
          generalize ((w5.setCell ⟨b6, 0, none⟩ (.int .i64 (U x))).setCell ⟨b6, 1, none⟩ (.int .i64 (V x))).setCell ⟨b6, 2, none⟩ (.int .i64 (S x)) = v8 at hA6 hA7 hW ⊢
          refine hK.out _ _ (HS.out _ hW) (fun hHeld => ?_)
          clear hK K
          try simp only [Act.put, List.getElem_toArray, List.getElem_cons_succ, List.getElem_cons_zero, List.setIfInBounds_toArray, List.set_cons_zero, List.set_cons_succ]
          refine wpAnyH_ready (rs := [9]) (by as_aux_lemma => kernel_rfl) (by simp) ?_
          refine AllReadyH.cons (o := _) rfl (fun K hK => ?_) (AllReadyH.nil)
          obtain ⟨t0, t1, t2, t3, t4, t5⟩ := trip_cell hA7
          simp only [List.getElem_toArray, List.getElem_cons_succ, List.getElem_cons_zero]
          go_simp
          clear t0 t1 t2 t3 t4 t5
          replace hA6 := set3_other (b := b7) (u := .int .i64 (U d)) (v := .int .i64 (V d)) (s := .int .i64 (S d)) hA6 (by omega)
          replace hA7 := set3_heapV (u := .int .i64 (U d)) (v := .int .i64 (V d)) (s := .int .i64 (S d)) hA7
          replace hW := below_set3 (x := .int .i64 (U d)) (y := .int .i64 (V d)) (z := .int .i64 (S d)) hW hL7
          generalize ((v8.setCell ⟨b7, 0, none⟩ (.int .i64 (U d))).setCell ⟨b7, 1, none⟩ (.int .i64 (V d))).setCell ⟨b7, 2, none⟩ (.int .i64 (S d)) = v9 at hA6 hA7 hW ⊢
          refine hK.out _ _ (HS.out _ hW) (fun hHeld => ?_)
          clear hK K
          try simp only [Act.put, List.getElem_toArray, List.getElem_cons_succ, List.getElem_cons_zero, List.setIfInBounds_toArray, List.set_cons_zero, List.set_cons_succ]
          refine wpAnyH_done (by kernel_rfl) ?_ _
          go_wp2_with fail
          go_meet
          exact ⟨b6, b7, rfl, rfl, by omega, by omega, by omega, Lib.hid hA6, Lib.hid hA7, Lib.hid hW⟩
      · simp only [List.getElem_toArray, List.getElem_cons_succ, List.getElem_cons_zero]
        go_simp
        have hA7 := heap_alloc_new v6 (.cells #[.int .i64 0, .int .i64 0, .int .i64 0] 44)
        have hL7 := hW.size
        have hNE : b6 ≠ v6.heap.size := Nat.ne_of_lt (Array.getElem?_eq_some_iff.1 hA6).1
        replace hA6 := keepH (Joins.below_alloc1 v6 (.cells #[.int .i64 0, .int .i64 0, .int .i64 0] 44)) (Array.getElem?_eq_some_iff.1 hA6).1 hA6
        have hsz := hW.size
        rw [hN] at hsz
        replace hW := hW.alloc hsz (.cells #[.int .i64 0, .int .i64 0, .int .i64 0] 44)
        clear hsz
        obtain ⟨b7, hb7⟩ : ∃ b, v6.heap.size = b := ⟨_, rfl⟩
        rw [hb7] at hA7 hNE ⊢
        rw [hN] at hL7
        rw [hb7] at hL7
        clear hb7
        generalize v6.alloc (.cells #[.int .i64 0, .int .i64 0, .int .i64 0] 44) = v7 at hA7 hW hA6 ⊢
        refine hK.out _ _ (HS.out _ hW) (fun hHeld => ?_)
        clear hK K
        try simp only [Act.put, List.getElem_toArray, List.getElem_cons_succ, List.getElem_cons_zero, List.setIfInBounds_toArray, List.set_cons_zero, List.set_cons_succ]
        refine wpAnyH_ready (rs := [2]) (by as_aux_lemma => kernel_rfl) (by simp) ?_
        refine AllReadyH.cons (o := _) rfl (fun K hK => ?_) (AllReadyH.nil)
        simp only [List.getElem_toArray, List.getElem_cons_succ, List.getElem_cons_zero]
        go_simp
        refine (HPL.out _ x HX.out).mono ?_
        rintro e w2 ⟨rfl, hb⟩
        replace hA6 := keepH hb (Array.getElem?_eq_some_iff.1 hA6).1 hA6
        replace hA7 := keepH hb (Array.getElem?_eq_some_iff.1 hA7).1 hA7
        have hsz := hW.size
        rw [hN] at hsz
        replace hW := hW.trans (hb.mono hsz)
        clear hb hsz
        refine hK.out _ _ (HS.out _ hW) (fun hHeld => ?_)
        clear hK K
        try simp only [Act.put, List.getElem_toArray, List.getElem_cons_succ, List.getElem_cons_zero, List.setIfInBounds_toArray, List.set_cons_zero, List.set_cons_succ]
        refine wpAnyH_ready (rs := [5]) (by as_aux_lemma => kernel_rfl) (by simp) ?_
        refine AllReadyH.cons (o := _) rfl (fun K hK => ?_) (AllReadyH.nil)
        simp only [List.getElem_toArray, List.getElem_cons_succ, List.getElem_cons_zero]
        go_simp
        refine (HPL.out _ d HD.out).mono ?_
        rintro e w5 ⟨rfl, hb⟩
        replace hA6 := keepH hb (Array.getElem?_eq_some_iff.1 hA6).1 hA6
        replace hA7 := keepH hb (Array.getElem?_eq_some_iff.1 hA7).1 hA7
        have hsz := hW.size
        rw [hN] at hsz
        replace hW := hW.trans (hb.mono hsz)
        clear hb hsz
        refine hK.out _ _ (HS.out _ hW) (fun hHeld => ?_)
        clear hK K
        try simp only [Act.put, List.getElem_toArray, List.getElem_cons_succ, List.getElem_cons_zero, List.setIfInBounds_toArray, List.set_cons_zero, List.set_cons_succ]
        refine wpAnyH_ready (rs := [8]) (by as_aux_lemma => kernel_rfl) (by simp) ?_
        refine AllReadyH.cons (o := _) rfl (fun K hK => ?_) (AllReadyH.nil)
        obtain ⟨t0, t1, t2, t3, t4, t5⟩ := trip_cell hA6
        simp only [List.getElem_toArray, List.getElem_cons_succ, List.getElem_cons_zero]
        go_simp
        clear t0 t1 t2 t3 t4 t5
        replace hA7 := set3_other (b := b6) (u := .int .i64 (U x)) (v := .int .i64 (V x)) (s := .int .i64 (S x)) hA7 (by omega)
        replace hA6 := set3_heapV (u := .int .i64 (U x)) (v := .int .i64 (V x)) (s := .int .i64 (S x)) hA6
        replace hW := below_set3 (x := .int .i64 (U x)) (y := .int .i64 (V x)) (z := .int .i64 (S x)) hW hL6
        generalize ((w5.setCell ⟨b6, 0, none⟩ (.int .i64 (U x))).setCell ⟨b6, 1, none⟩ (.int .i64 (V x))).setCell ⟨b6, 2, none⟩ (.int .i64 (S x)) = v8 at hA6 hA7 hW ⊢
        refine hK.out _ _ (HS.out _ hW) (fun hHeld => ?_)
        clear hK K
        try simp only [Act.put, List.getElem_toArray, List.getElem_cons_succ, List.getElem_cons_zero, List.setIfInBounds_toArray, List.set_cons_zero, List.set_cons_succ]
        refine wpAnyH_ready (rs := [9]) (by as_aux_lemma => kernel_rfl) (by simp) ?_
        refine AllReadyH.cons (o := _) rfl (fun K hK => ?_) (AllReadyH.nil)
        obtain ⟨t0, t1, t2, t3, t4, t5⟩ := trip_cell hA7
        simp only [List.getElem_toArray, List.getElem_cons_succ, List.getElem_cons_zero]
        go_simp
        clear t0 t1 t2 t3 t4 t5
        replace hA6 := set3_other (b := b7) (u := .int .i64 (U d)) (v := .int .i64 (V d)) (s := .int .i64 (S d)) hA6 (by omega)
        replace hA7 := set3_heapV (u := .int .i64 (U d)) (v := .int .i64 (V d)) (s := .int .i64 (S d)) hA7
        replace hW := below_set3 (x := .int .i64 (U d)) (y := .int .i64 (V d)) (z := .int .i64 (S d)) hW hL7
        generalize ((v8.setCell ⟨b7, 0, none⟩ (.int .i64 (U d))).setCell ⟨b7, 1, none⟩ (.int .i64 (V d))).setCell ⟨b7, 2, none⟩ (.int .i64 (S d)) = v9 at hA6 hA7 hW ⊢
        refine hK.out _ _ (HS.out _ hW) (fun hHeld => ?_)
        clear hK K
        try simp only [Act.put, List.getElem_toArray, List.getElem_cons_succ, List.getElem_cons_zero, List.setIfInBounds_toArray, List.set_cons_zero, List.set_cons_succ]
        refine wpAnyH_done (by kernel_rfl) ?_ _
        go_wp2_with fail
        go_meet
        exact ⟨b6, b7, rfl, rfl, by omega, by omega, by omega, Lib.hid hA6, Lib.hid hA7, Lib.hid hW⟩
    · simp only [List.getElem_toArray, List.getElem_cons_succ, List.getElem_cons_zero]
      go_simp
      have hA7 := heap_alloc_new v0 (.cells #[.int .i64 0, .int .i64 0, .int .i64 0] 44)
      have hL7 := hW.size
      have hsz := hW.size
      rw [hN] at hsz
      replace hW := hW.alloc hsz (.cells #[.int .i64 0, .int .i64 0, .int .i64 0] 44)
      clear hsz
      obtain ⟨b7, hb7⟩ : ∃ b, v0.heap.size = b := ⟨_, rfl⟩
      rw [hb7] at hA7 ⊢
      rw [hN] at hL7
      rw [hb7] at hL7
      clear hb7
      generalize v0.alloc (.cells #[.int .i64 0, .int .i64 0, .int .i64 0] 44) = v7 at hA7 hW ⊢
      refine hK.out _ _ (HS.out _ hW) (fun hHeld => ?_)
      clear hK K
      try simp only [Act.put, List.getElem_toArray, List.getElem_cons_succ, List.getElem_cons_zero, List.setIfInBounds_toArray, List.set_cons_zero, List.set_cons_succ]
      refine wpAnyH_ready (rs := [2, 6]) (by as_aux_lemma => kernel_rfl) (by simp) ?_
      refine AllReadyH.cons (o := _) rfl (fun K hK => ?_) (AllReadyH.cons (o := _) rfl (fun K hK => ?_) (AllReadyH.nil))
      · simp only [List.getElem_toArray, List.getElem_cons_succ, List.getElem_cons_zero]
        go_simp
        refine (HPL.out _ x HX.out).mono ?_
        rintro e w2 ⟨rfl, hb⟩
        replace hA7 := keepH hb (Array.getElem?_eq_some_iff.1 hA7).1 hA7
        have hsz := hW.size
        rw [hN] at hsz
        replace hW := hW.trans (hb.mono hsz)
        clear hb hsz
        refine hK.out _ _ (HS.out _ hW) (fun hHeld => ?_)
        clear hK K
        try simp only [Act.put, List.getElem_toArray, List.getElem_cons_succ, List.getElem_cons_zero, List.setIfInBounds_toArray, List.set_cons_zero, List.set_cons_succ]
        refine wpAnyH_ready (rs := [5, 6]) (by as_aux_lemma => kernel_rfl) (by simp) ?_
        refine AllReadyH.cons (o := _) rfl (fun K hK => ?_) (AllReadyH.cons (o := _) rfl (fun K hK => ?_) (AllReadyH.nil))
        · simp only [List.getElem_toArray, List.getElem_cons_succ, List.getElem_cons_zero]
          go_simp
          refine (HPL.out _ d HD.out).mono ?_
          rintro e w5 ⟨rfl, hb⟩
          replace hA7 := keepH hb (Array.getElem?_eq_some_iff.1 hA7).1 hA7
          have hsz := hW.size
          rw [hN] at hsz
          replace hW := hW.trans (hb.mono hsz)
          clear hb hsz
          refine hK.out _ _ (HS.out _ hW) (fun hHeld => ?_)
          clear hK K
          try simp only [Act.put, List.getElem_toArray, List.getElem_cons_succ, List.getElem_cons_zero, List.setIfInBounds_toArray, List.set_cons_zero, List.set_cons_succ]
          refine wpAnyH_ready (rs := [6]) (by as_aux_lemma => kernel_rfl) (by simp) ?_
          refine AllReadyH.cons (o := _) rfl (fun K hK => ?_) (AllReadyH.nil)
          simp only [List.getElem_toArray, List.getElem_cons_succ, List.getElem_cons_zero]
          go_simp
          have hA6 := heap_alloc_new w5 (.cells #[.int .i64 0, .int .i64 0, .int .i64 0] 44)
          have hL6 := hW.size
          have hNE : b7 ≠ w5.heap.size := Nat.ne_of_lt (Array.getElem?_eq_some_iff.1 hA7).1
          replace hA7 := keepH (Joins.below_alloc1 w5 (.cells #[.int .i64 0, .int .i64 0, .int .i64 0] 44)) (Array.getElem?_eq_some_iff.1 hA7).1 hA7
          have hsz := hW.size
          rw [hN] at hsz
          replace hW := hW.alloc hsz (.cells #[.int .i64 0, .int .i64 0, .int .i64 0] 44)
          clear hsz
          obtain ⟨b6, hb6⟩ : ∃ b, w5.heap.size = b := ⟨_, rfl⟩
          rw [hb6] at hA6 hNE ⊢
          rw [hN] at hL6
          rw [hb6] at hL6
          clear hb6
          generalize w5.alloc (.cells #[.int .i64 0, .int .i64 0, .int .i64 0] 44) = v6 at hA6 hW hA7 ⊢
          refine hK.out _ _ (HS.out _ hW) (fun hHeld => ?_)
          clear hK K
          try simp only [Act.put, List.getElem_toArray, List.getElem_cons_succ, List.getElem_cons_zero, List.setIfInBounds_toArray, List.set_cons_zero, List.set_cons_succ]
          refine wpAnyH_ready (rs := [8]) (by as_aux_lemma => kernel_rfl) (by simp) ?_
          refine AllReadyH.cons (o := _) rfl (fun K hK => ?_) (AllReadyH.nil)
          obtain ⟨t0, t1, t2, t3, t4, t5⟩ := trip_cell hA6
          simp only [List.getElem_toArray, List.getElem_cons_succ, List.getElem_cons_zero]
          go_simp
          clear t0 t1 t2 t3 t4 t5
          replace hA7 := set3_other (b := b6) (u := .int .i64 (U x)) (v := .int .i64 (V x)) (s := .int .i64 (S x)) hA7 (by omega)
          replace hA6 := set3_heapV (u := .int .i64 (U x)) (v := .int .i64 (V x)) (s := .int .i64 (S x)) hA6
          replace hW := below_set3 (x := .int .i64 (U x)) (y := .int .i64 (V x)) (z := .int .i64 (S x)) hW hL6
          generalize ((v6.setCell ⟨b6, 0, none⟩ (.int .i64 (U x))).setCell ⟨b6, 1, none⟩ (.int .i64 (V x))).setCell ⟨b6, 2, none⟩ (.int .i64 (S x)) = v8 at hA6 hA7 hW ⊢
          refine hK.out _ _ (HS.out _ hW) (fun hHeld => ?_)
          clear hK K
          try simp only [Act.put, List.getElem_toArray, List.getElem_cons_succ, List.getElem_cons_zero, List.setIfInBounds_toArray, List.set_cons_zero, List.set_cons_succ]
          refine wpAnyH_ready (rs := [9]) (by as_aux_lemma => kernel_rfl) (by simp) ?_
          refine AllReadyH.cons (o := _) rfl (fun K hK => ?_) (AllReadyH.nil)
          obtain ⟨t0, t1, t2, t3, t4, t5⟩ := trip_cell hA7
          simp only [List.getElem_toArray, List.getElem_cons_succ, List.getElem_cons_zero]
          go_simp
          clear t0 t1 t2 t3 t4 t5
          replace hA6 := set3_other (b := b7) (u := .int .i64 (U d)) (v := .int .i64 (V d)) (s := .int .i64 (S d)) hA6 (by omega)
          replace hA7 := set3_heapV (u := .int .i64 (U d)) (v := .int .i64 (V d)) (s := .int .i64 (S d)) hA7
          replace hW := below_set3 (x := .int .i64 (U d)) (y := .int .i64 (V d)) (z := .int .i64 (S d)) hW hL7
          generalize ((v8.setCell ⟨b7, 0, none⟩ (.int .i64 (U d))).setCell ⟨b7, 1, none⟩ (.int .i64 (V d))).setCell ⟨b7, 2, none⟩ (.int .i64 (S d)) = v9 at hA6 hA7 hW ⊢
          refine hK.out _ _ (HS.out _ hW) (fun hHeld => ?_)
          clear hK K
          try simp only [Act.put, List.getElem_toArray, List.getElem_cons_succ, List.getElem_cons_zero, List.setIfInBounds_toArray, List.set_cons_zero, List.set_cons_succ]
          refine wpAnyH_done (by kernel_rfl) ?_ _
          go_wp2_with fail
          go_meet
          exact ⟨b6, b7, rfl, rfl, by omega, by omega, by omega, Lib.hid hA6, Lib.hid hA7, Lib.hid hW⟩
        · simp only [List.getElem_toArray, List.getElem_cons_succ, List.getElem_cons_zero]
          go_simp
          have hA6 := heap_alloc_new w2 (.cells #[.int .i64 0, .int .i64 0, .int .i64 0] 44)
          have hL6 := hW.size
          have hNE : b7 ≠ w2.heap.size := Nat.ne_of_lt (Array.getElem?_eq_some_iff.1 hA7).1
          replace hA7 := keepH (Joins.below_alloc1 w2 (.cells #[.int .i64 0, .int .i64 0, .int .i64 0] 44)) (Array.getElem?_eq_some_iff.1 hA7).1 hA7
          have hsz := hW.size
          rw [hN] at hsz
          replace hW := hW.alloc hsz (.cells #[.int .i64 0, .int .i64 0, .int .i64 0] 44)
          clear hsz
          obtain ⟨b6, hb6⟩ : ∃ b, w2.heap.size = b := ⟨_, rfl⟩
          rw [hb6] at hA6 hNE ⊢
          rw [hN] at hL6
          rw [hb6] at hL6
          clear hb6
          generalize w2.alloc (.cells #[.int .i64 0, .int .i64 0, .int .i64 0] 44) = v6 at hA6 hW hA7 ⊢
          refine hK.out _ _ (HS.out _ hW) (fun hHeld => ?_)
          clear hK K
          try simp only [Act.put, List.getElem_toArray, List.getElem_cons_succ, List.getElem_cons_zero, List.setIfInBounds_toArray, List.set_cons_zero, List.set_cons_succ]
          refine wpAnyH_ready (rs := [5]) (by as_aux_lemma => kernel_rfl) (by simp) ?_
          refine AllReadyH.cons (o := _) rfl (fun K hK => ?_) (AllReadyH.nil)
          simp only [List.getElem_toArray, List.getElem_cons_succ, List.getElem_cons_zero]
          go_simp
          refine (HPL.out _ d HD.out).mono ?_
          rintro e w5 ⟨rfl, hb⟩
          replace hA6 := keepH hb (Array.getElem?_eq_some_iff.1 hA6).1 hA6
          replace hA7 := keepH hb (Array.getElem?_eq_some_iff.1 hA7).1 hA7
          have hsz := hW.size
          rw [hN] at hsz
          replace hW := hW.trans (hb.mono hsz)
          clear hb hsz
          refine hK.out _ _ (HS.out _ hW) (fun hHeld => ?_)
          clear hK K
          try simp only [Act.put, List.getElem_toArray, List.getElem_cons_succ, List.getElem_cons_zero, List.setIfInBounds_toArray, List.set_cons_zero, List.set_cons_succ]
          refine wpAnyH_ready (rs := [8]) (by as_aux_lemma => kernel_rfl) (by simp) ?_
          refine AllReadyH.cons (o := _) rfl (fun K hK => ?_) (AllReadyH.nil)
          obtain ⟨t0, t1, t2, t3, t4, t5⟩ := trip_cell hA6
          simp only [List.getElem_toArray, List.getElem_cons_succ, List.getElem_cons_zero]
          go_simp
          clear t0 t1 t2 t3 t4 t5
          replace hA7 := set3_other (b := b6) (u := .int .i64 (U x)) (v := .int .i64 (V x)) (s := .int .i64 (S x)) hA7 (by omega)
          replace hA6 := set3_heapV (u := .int .i64 (U x)) (v := .int .i64 (V x)) (s := .int .i64 (S x)) hA6
          replace hW := below_set3 (x := .int .i64 (U x)) (y := .int .i64 (V x)) (z := .int .i64 (S x)) hW hL6
          generalize ((w5.setCell ⟨b6, 0, none⟩ (.int .i64 (U x))).setCell ⟨b6, 1, none⟩ (.int .i64 (V x))).setCell ⟨b6, 2, none⟩ (.int .i64 (S x)) = v8 at hA6 hA7 hW ⊢
          refine hK.out _ _ (HS.out _ hW) (fun hHeld => ?_)
          clear hK K
          try simp only [Act.put, List.getElem_toArray, List.getElem_cons_succ, List.getElem_cons_zero, List.setIfInBounds_toArray, List.set_cons_zero, List.set_cons_succ]
          refine wpAnyH_ready (rs := [9]) (by as_aux_lemma => kernel_rfl) (by simp) ?_
          refine AllReadyH.cons (o := _) rfl (fun K hK => ?_) (AllReadyH.nil)
          obtain ⟨t0, t1, t2, t3, t4, t5⟩ := trip_cell hA7
          simp only [List.getElem_toArray, List.getElem_cons_succ, List.getElem_cons_zero]
          go_simp
          clear t0 t1 t2 t3 t4 t5
          replace hA6 := set3_other (b := b7) (u := .int .i64 (U d)) (v := .int .i64 (V d)) (s := .int .i64 (S d)) hA6 (by omega)
          replace hA7 := set3_heapV (u := .int .i64 (U d)) (v := .int .i64 (V d)) (s := .int .i64 (S d)) hA7
          replace hW := below_set3 (x := .int .i64 (U d)) (y := .int .i64 (V d)) (z := .int .i64 (S d)) hW hL7
          generalize ((v8.setCell ⟨b7, 0, none⟩ (.int .i64 (U d))).setCell ⟨b7, 1, none⟩ (.int .i64 (V d))).setCell ⟨b7, 2, none⟩ (.int .i64 (S d)) = v9 at hA6 hA7 hW ⊢
          refine hK.out _ _ (HS.out _ hW) (fun hHeld => ?_)
          clear hK K
          try simp only [Act.put, List.getElem_toArray, List.getElem_cons_succ, List.getElem_cons_zero, List.setIfInBounds_toArray, List.set_cons_zero, List.set_cons_succ]
          refine wpAnyH_done (by kernel_rfl) ?_ _
          go_wp2_with fail
          go_meet
          exact ⟨b6, b7, rfl, rfl, by omega, by omega, by omega, Lib.hid hA6, Lib.hid hA7, Lib.hid hW⟩
      · simp only [List.getElem_toArray, List.getElem_cons_succ, List.getElem_cons_zero]
        go_simp
        have hA6 := heap_alloc_new v7 (.cells #[.int .i64 0, .int .i64 0, .int .i64 0] 44)
        have hL6 := hW.size
        have hNE : b7 ≠ v7.heap.size := Nat.ne_of_lt (Array.getElem?_eq_some_iff.1 hA7).1
        replace hA7 := keepH (Joins.below_alloc1 v7 (.cells #[.int .i64 0, .int .i64 0, .int .i64 0] 44)) (Array.getElem?_eq_some_iff.1 hA7).1 hA7
        have hsz := hW.size
        rw [hN] at hsz
        replace hW := hW.alloc hsz (.cells #[.int .i64 0, .int .i64 0, .int .i64 0] 44)
        clear hsz
        obtain ⟨b6, hb6⟩ : ∃ b, v7.heap.size = b := ⟨_, rfl⟩
        rw [hb6] at hA6 hNE ⊢
        rw [hN] at hL6
        rw [hb6] at hL6
        clear hb6
        generalize v7.alloc (.cells #[.int .i64 0, .int .i64 0, .int .i64 0] 44) = v6 at hA6 hW hA7 ⊢
        refine hK.out _ _ (HS.out _ hW) (fun hHeld => ?_)
        clear hK K
        try simp only [Act.put, List.getElem_toArray, List.getElem_cons_succ, List.getElem_cons_zero, List.setIfInBounds_toArray, List.set_cons_zero, List.set_cons_succ]
        refine wpAnyH_ready (rs := [2]) (by as_aux_lemma => kernel_rfl) (by simp) ?_
        refine AllReadyH.cons (o := _) rfl (fun K hK => ?_) (AllReadyH.nil)
        simp only [List.getElem_toArray, List.getElem_cons_succ, List.getElem_cons_zero]
        go_simp
        refine (HPL.out _ x HX.out).mono ?_
        rintro e w2 ⟨rfl, hb⟩
        replace hA6 := keepH hb (Array.getElem?_eq_some_iff.1 hA6).1 hA6
        replace hA7 := keepH hb (Array.getElem?_eq_some_iff.1 hA7).1 hA7
        have hsz := hW.size
        rw [hN] at hsz
        replace hW := hW.trans (hb.mono hsz)
        clear hb hsz
        refine hK.out _ _ (HS.out _ hW) (fun hHeld => ?_)
        clear hK K
        try simp only [Act.put, List.getElem_toArray, List.getElem_cons_succ, List.getElem_cons_zero, List.setIfInBounds_toArray, List.set_cons_zero, List.set_cons_succ]
        refine wpAnyH_ready (rs := [5]) (by as_aux_lemma => kernel_rfl) (by simp) ?_
        refine AllReadyH.cons (o := _) rfl (fun K hK => ?_) (AllReadyH.nil)
        simp only [List.getElem_toArray, List.getElem_cons_succ, List.getElem_cons_zero]
        go_simp
        refine (HPL.out _ d HD.out).mono ?_
        rintro e w5 ⟨rfl, hb⟩
        replace hA6 := keepH hb (Array.getElem?_eq_some_iff.1 hA6).1 hA6
        replace hA7 := keepH hb (Array.getElem?_eq_some_iff.1 hA7).1 hA7
        have hsz := hW.size
        rw [hN] at hsz
        replace hW := hW.trans (hb.mono hsz)
        clear hb hsz
        refine hK.out _ _ (HS.out _ hW) (fun hHeld => ?_)
        clear hK K
        try simp only [Act.put, List.getElem_toArray, List.getElem_cons_succ, List.getElem_cons_zero, List.setIfInBounds_toArray, List.set_cons_zero, List.set_cons_succ]
        refine wpAnyH_ready (rs := [8]) (by as_aux_lemma => kernel_rfl) (by simp) ?_
        refine AllReadyH.cons (o := _) rfl (fun K hK => ?_) (AllReadyH.nil)
        obtain ⟨t0, t1, t2, t3, t4, t5⟩ := trip_cell hA6
        simp only [List.getElem_toArray, List.getElem_cons_succ, List.getElem_cons_zero]
        go_simp
        clear t0 t1 t2 t3 t4 t5
        replace hA7 := set3_other (b := b6) (u := .int .i64 (U x)) (v := .int .i64 (V x)) (s := .int .i64 (S x)) hA7 (by omega)
        replace hA6 := set3_heapV (u := .int .i64 (U x)) (v := .int .i64 (V x)) (s := .int .i64 (S x)) hA6
        replace hW := below_set3 (x := .int .i64 (U x)) (y := .int .i64 (V x)) (z := .int .i64 (S x)) hW hL6
        generalize ((w5.setCell ⟨b6, 0, none⟩ (.int .i64 (U x))).setCell ⟨b6, 1, none⟩ (.int .i64 (V x))).setCell ⟨b6, 2, none⟩ (.int .i64 (S x)) = v8 at hA6 hA7 hW ⊢
        refine hK.out _ _ (HS.out _ hW) (fun hHeld => ?_)
        clear hK K
        try simp only [Act.put, List.getElem_toArray, List.getElem_cons_succ, List.getElem_cons_zero, List.setIfInBounds_toArray, List.set_cons_zero, List.set_cons_succ]
        refine wpAnyH_ready (rs := [9]) (by as_aux_lemma => kernel_rfl) (by simp) ?_
        refine AllReadyH.cons (o := _) rfl (fun K hK => ?_) (AllReadyH.nil)
        obtain ⟨t0, t1, t2, t3, t4, t5⟩ := trip_cell hA7
        simp only [List.getElem_toArray, List.getElem_cons_succ, List.getElem_cons_zero]
        go_simp
        clear t0 t1 t2 t3 t4 t5
        replace hA6 := set3_other (b := b7) (u := .int .i64 (U d)) (v := .int .i64 (V d)) (s := .int .i64 (S d)) hA6 (by omega)
        replace hA7 := set3_heapV (u := .int .i64 (U d)) (v := .int .i64 (V d)) (s := .int .i64 (S d)) hA7
        replace hW := below_set3 (x := .int .i64 (U d)) (y := .int .i64 (V d)) (z := .int .i64 (S d)) hW hL7
        generalize ((v8.setCell ⟨b7, 0, none⟩ (.int .i64 (U d))).setCell ⟨b7, 1, none⟩ (.int .i64 (V d))).setCell ⟨b7, 2, none⟩ (.int .i64 (S d)) = v9 at hA6 hA7 hW ⊢
        refine hK.out _ _ (HS.out _ hW) (fun hHeld => ?_)
        clear hK K
        try simp only [Act.put, List.getElem_toArray, List.getElem_cons_succ, List.getElem_cons_zero, List.setIfInBounds_toArray, List.set_cons_zero, List.set_cons_succ]
        refine wpAnyH_done (by kernel_rfl) ?_ _
        go_wp2_with fail
        go_meet
        exact ⟨b6, b7, rfl, rfl, by omega, by omega, by omega, Lib.hid hA6, Lib.hid hA7, Lib.hid hW⟩
  case rest =>
    obtain ⟨b9, b10, rfl, rfl, hne, hg9, hg10, H9, H10, hW⟩ := hcut
    obtain ⟨HB0, HG0⟩ := HR.out _ hW.out
    have HB1 := Lib.hid HB0
    have HG1 := Lib.hid HG0
    clear hW HB0 HG0 HS HR HW0
    go_wp2
    go_loopw [11, 12] (fun rv xv wr => ∃ k : Nat, rv = .int .u64 (rsK l s x d k : Nat) ∧ xv = .int .i64 (stp (adN l) d x k : Nat) ∧ Hid (RunAt l s x d k) ∧ Hid (Below w.heap.size w wr) ∧ Hid (wr.heap[w.heap.size]? = some (.cells #[.int .i64 p, .int .i64 q, .int .i64 r] 44 (0, 0))) ∧ Hid (wr.heap[b9]? = some (.cells #[.int .i64 (U (stp (adN l) d x k)), .int .i64 (V (stp (adN l) d x k)), .int .i64 (S (stp (adN l) d x k))] 44 (0, 0))) ∧ Hid (wr.heap[b10]? = some (.cells #[.int .i64 (U d), .int .i64 (V d), .int .i64 (S d)] 44 (0, 0)))) (fun rv _ _ => (bitsN (intOf rv).toNat).length)
    case atStart => exact ⟨0, rfl, rfl, HR0, HB1, HG1, H9, H10⟩
    case round =>
      obtain ⟨k, rfl, rfl, HRA, HBW, HGW, H9W, H10W⟩ := hrel
      have hX := HST.out k
      have hR24 := HRL.out k
      have hR16 : rsK l s x d k < 16777216 := hR24
      have HN1 := Lib.hid (HSS.out k)
      have HN2 := Lib.hid (HRS.out k)
      have hX1 := HST.out (k + 1)
      cases hb : (rsK l s x d k).testBit (stp (adN l) d x k) with
      | true =>
        have HNX := Lib.hid (HRN.out k HRA.out hb)
        have HME := Lib.hid (HWL.out k hb)
        have HA1 := Lib.hid (fun (W : World) => HAD.out W (stp (adN l) d x k) d hX HD.out)
        have HE1 := Lib.hid (fun (W : World) => HEL.out W (stp (adN l) d x (k + 1)) hX1)
        rw [HN1.out] at HA1
        rw [HN2.out] at HME
        obtain ⟨X, hXX⟩ : ∃ X, Hid (stp (adN l) d x k = X) := ⟨_, Lib.hid rfl⟩
        obtain ⟨Y, hYY⟩ : ∃ Y, Hid (stp (adN l) d x (k + 1) = Y) := ⟨_, Lib.hid rfl⟩
        obtain ⟨Q, hQQ⟩ : ∃ Q, Hid (rsK l s x d k = Q) := ⟨_, Lib.hid rfl⟩
        obtain ⟨Z, hZZ⟩ : ∃ Z, Hid (rsK l s x d (k + 1) = Z) := ⟨_, Lib.hid rfl⟩
        rw [hQQ.out, hXX.out] at hb HN2
        rw [hXX.out] at hX H9W HA1
        rw [hYY.out] at hX1 HA1 HE1
        rw [hQQ.out] at hR16 HME
        rw [hZZ.out] at HN2 HME
        rw [hXX.out, hQQ.out]
        have hX23 : X ≤ 23 := by omega
        have HH := Lib.hid (fun (W : World) => iHas W Q X hR16 hX23)
        have HWO := Lib.hid (fun (W : World) => iWithout W Q X hR16 hX23)
        rw [hb] at HH
        rw [HN2.out] at HWO
        obtain ⟨c0, c1, c2, _, _, _⟩ := trip_cell HGW.out
        obtain ⟨a0, a1, a2, f0, f1, f2⟩ := trip_cell H9W.out
        obtain ⟨d0, d1, d2, _, _, _⟩ := trip_cell H10W.out
        clear hb hR24 hX hX1 HRA
        go_wp2_with (first
          | (go_at_call 53; refine (HE1.out _).mono ?_; rintro e w5 ⟨rfl, hb5⟩; have B5 := Lib.hid (B4.out.trans (hb5.mono B4.out.size)); have G5 := Lib.hid (keepH hb5 (Array.getElem?_eq_some_iff.1 GS.out).1 GS.out); have P5 := Lib.hid (keepH hb5 (Array.getElem?_eq_some_iff.1 PS.out).1 PS.out); have D5 := Lib.hid (keepH hb5 (Array.getElem?_eq_some_iff.1 DS.out).1 DS.out))
          | (go_at_call 54; refine (HA1.out _).mono ?_; rintro e w4 ⟨rfl, hb4⟩; have G4 := Lib.hid (keepH hb4 (Array.getElem?_eq_some_iff.1 HGW.out).1 HGW.out); have P4 := Lib.hid (keepH hb4 (Array.getElem?_eq_some_iff.1 H9W.out).1 H9W.out); have D4 := Lib.hid (keepH hb4 (Array.getElem?_eq_some_iff.1 H10W.out).1 H10W.out); have B4 := Lib.hid (below_set3 (x := .int .i64 (U Y)) (y := .int .i64 (V Y)) (z := .int .i64 (S Y)) (HBW.out.trans (hb4.mono HBW.out.size)) (b := b9) (by omega)); have PS := Lib.hid (set3_heapV (u := .int .i64 (U Y)) (v := .int .i64 (V Y)) (s := .int .i64 (S Y)) P4.out); have GS := Lib.hid (set3_other (b := b9) (u := .int .i64 (U Y)) (v := .int .i64 (V Y)) (s := .int .i64 (S Y)) G4.out (by omega)); have DS := Lib.hid (set3_other (b := b9) (u := .int .i64 (U Y)) (v := .int .i64 (V Y)) (s := .int .i64 (S Y)) D4.out hne); obtain ⟨a10, a11, a12, f10, f11, f12⟩ := trip_cell P4.out; obtain ⟨a20, a21, a22, _, _, _⟩ := trip_cell PS.out; obtain ⟨c20, c21, c22, _, _, _⟩ := trip_cell GS.out)
          | (go_at_call 69; refine (HWO.out _).mono ?_; rintro e w3 ⟨rfl, rfl⟩)
          | (go_at_call 71; refine (HH.out _).mono ?_; rintro e w2 ⟨rfl, rfl⟩))
        go_roundw
        case rel => exact ⟨k + 1, by rw [hZZ.out], by rw [hYY.out], HNX, B5, G5, by rw [hYY.out]; exact P5, D5⟩
        case measure =>
          have := HME.out
          simp only [intOf, Int.toNat_natCast]
          omega
      | false =>
        have HFIN := Lib.hid (HRE.out k HRA.out hb)
        have hcnt := HRA.out.cnt
        have hcl := HCL.out
        have hk24 := runAt_le HRA.out
        obtain ⟨X, hXX⟩ : ∃ X, Hid (stp (adN l) d x k = X) := ⟨_, Lib.hid rfl⟩
        obtain ⟨Q, hQQ⟩ : ∃ Q, Hid (rsK l s x d k = Q) := ⟨_, Lib.hid rfl⟩
        rw [hQQ.out, hXX.out] at hb
        rw [hXX.out] at hX
        rw [hQQ.out] at hR16 hcnt
        rw [hXX.out, hQQ.out]
        have hX23 : X ≤ 23 := by omega
        have HH := Lib.hid (fun (W : World) => iHas W Q X hR16 hX23)
        have HC1 := Lib.hid (fun (W : World) => iCnt W s HS16.out)
        have HC2 := Lib.hid (fun (W : World) => iCnt W Q hR16)
        rw [hb] at HH
        obtain ⟨n1, hn1⟩ : ∃ n, (bitsN s).length = n := ⟨_, rfl⟩
        obtain ⟨n2, hn2⟩ : ∃ n, (bitsN Q).length = n := ⟨_, rfl⟩
        rw [hn1] at HC1 hcnt hcl
        rw [hn2] at HC2 hcnt
        have hwr : IntKind.i64.wrap ((n1 : Int) - (n2 : Int)) = (n1 : Int) - (n2 : Int) := by rw [IntKind.wrap_i64]; omega
        have HKN : Hid ((n1 : Int) - (n2 : Int) = (k : Int)) := Lib.hid (by omega)
        clear hb hR24 hX hX1 HRA hcnt hn1 hn2 hcl
        go_wp2_with (first
          | (go_at_call 30; have hx_ := K1; clear hx_; refine (HC2.out _).mono ?_; rintro e w3 ⟨rfl, rfl⟩)
          | (go_at_call 30; refine (HC1.out _).mono ?_; rintro e w2 ⟨rfl, rfl⟩; have K1 := True.intro)
          | (go_at_call 71; refine (HH.out _).mono ?_; rintro e w1 ⟨rfl, rfl⟩))
        go_ret
        refine ⟨?_, HBW.out⟩
        rw [HFIN.out, ← HKN.out]
        first | rfl | (rw [hwr])
end Go.Proofs.YtfkleihnafeoeaaGreatDoor
