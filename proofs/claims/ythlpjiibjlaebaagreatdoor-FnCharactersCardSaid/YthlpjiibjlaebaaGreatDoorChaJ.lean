/- The program's own character with a number: made in a region that draws its order. -/
import Derived.Test.YthlpjiibjlaebaaGreatDoorChaI
import Derived.OrdersHeld
import Derived.OneCell
import Derived.Laws.EntriesVeiled
namespace Go.Proofs.YthlpjiibjlaebaaGreatDoor
open Go.RowKit
set_option maxRecDepth 1000000
theorem one_frozen {w : World} {B : Nat} {x : Value} {T : TypeId} (h : w.heap[B]? = some (.cells #[x] T (0, 0))) : w.frozen? ⟨B, 0, none⟩ = false := by simp [World.frozen?, h]
theorem set3_heap {w : World} {b : Nat} {x y z u v s : Value} {t : TypeId} (h : w.heap[b]? = some (.cells #[x, y, z] t (0, 0))) : (((w.setCell ⟨b, 0, none⟩ u).setCell ⟨b, 1, none⟩ v).setCell ⟨b, 2, none⟩ s).heap[b]? = some (.cells #[u, v, s] t (0, 0)) := by
  simp [World.setCell, Array.getElem?_modify, h]
theorem set2_heap {w : World} {b : Nat} {x y u v : Value} {t : TypeId} (h : w.heap[b]? = some (.cells #[x, y] t (0, 0))) : ((w.setCell ⟨b, 0, none⟩ u).setCell ⟨b, 1, none⟩ v).heap[b]? = some (.cells #[u, v] t (0, 0)) := by
  simp [World.setCell, Array.getElem?_modify, h]
set_option maxHeartbeats 4000000 in
theorem iChr {l : List Int} (hg : grpB l = true) (w : World) (k : Int) (hk0 : 0 ≤ k) (hk : k ≤ 23) :
    Calls Tryz.prog 69 #[tV (l.getD 0 1) (l.getD 1 1) (l.getD 2 1), .int .i64 k] w fun e w' => ∃ bo bp be, e = .returned (.agg #[.int .i64 (expN l), chrF bo bp be]) ∧ ChrAt w' l k bo bp be ∧ (w.heap.size ≤ bo ∧ w.heap.size ≤ bp ∧ w.heap.size ≤ be) ∧ Below w.heap.size w w' := by
  have hmf : ∀ (fn : Fn) (first cap : Array Value) (w : World), (Instr.makeFunc fn first cap).run Tryz.prog w = .ok (.func fn first cap) w := fun _ _ _ _ => rfl
  have HPL := Lib.hid (fun (W : World) => iPlaces W _ _ _ k (tri_grp hg) hk0 hk)
  have HEX := Lib.hid (fun (W : World) => iExpT hg W)
  have HEN : Hid (lcmK l l.length = expN l) := Lib.hid rfl
  rw [HEN.out] at HEX
  have HCA : Hid (∀ W bo bp be, W.heap[bo]? = some (.cells #[.int .i64 (l.getD 0 1), .int .i64 (l.getD 1 1), .int .i64 (l.getD 2 1)] 46 (0, 0)) → W.heap[bp]? = some (.cells #[.int .i64 (k % l.getD 0 1), .int .i64 (k / l.getD 0 1 % l.getD 1 1), .int .i64 (k / l.getD 0 1 / l.getD 1 1 % l.getD 2 1)] 46 (0, 0)) → W.heap[be]? = some (.cells #[.int .i64 (expN l)] 3 (0, 0)) → ChrAt W l k bo bp be) := Lib.hid (fun W bo bp be h1 h2 h3 => ⟨h1, h2, h3⟩)
  obtain ⟨E, EE⟩ : ∃ E, Hid (expN l = E) := ⟨_, Lib.hid rfl⟩
  obtain ⟨p, EP⟩ : ∃ p, Hid (l.getD 0 1 = p) := ⟨_, Lib.hid rfl⟩
  obtain ⟨q, EQ⟩ : ∃ q, Hid (l.getD 1 1 = q) := ⟨_, Lib.hid rfl⟩
  obtain ⟨r, ER⟩ : ∃ r, Hid (l.getD 2 1 = r) := ⟨_, Lib.hid rfl⟩
  rw [EP.out, EQ.out, ER.out] at HPL HEX HCA
  rw [EP.out, EQ.out, ER.out]
  rw [EE.out] at HEX HCA
  rw [EE.out]
  obtain ⟨u, U0⟩ : ∃ u, Hid (k % p = u) := ⟨_, Lib.hid rfl⟩
  obtain ⟨v, U1⟩ : ∃ u, Hid (k / p % q = u) := ⟨_, Lib.hid rfl⟩
  obtain ⟨z, U2⟩ : ∃ u, Hid (k / p / q % r = u) := ⟨_, Lib.hid rfl⟩
  rw [U0.out, U1.out, U2.out] at HPL HCA
  have hb0 := Joins.below_alloc2 w (.cells #[.int .i64 p, .int .i64 q, .int .i64 r] 46) (.cells #[.int .i64 0, .nilFunc] 49)
  have R0 := keepH (Joins.below_alloc1 _ (.cells #[.int .i64 0, .nilFunc] 49)) (by simp) (heap_alloc_new w (.cells #[.int .i64 p, .int .i64 q, .int .i64 r] 46))
  obtain ⟨c0, c1, c2, _, _, _⟩ := trip_cell R0
  have R1 : ((w.alloc (.cells #[.int .i64 p, .int .i64 q, .int .i64 r] 46)).alloc (.cells #[.int .i64 0, .nilFunc] 49)).heap[w.heap.size + 1]? = some (.cells #[.int .i64 0, .nilFunc] 49 (0, 0)) := by simpa using heap_alloc_new (w.alloc (.cells #[.int .i64 p, .int .i64 q, .int .i64 r] 46)) (.cells #[.int .i64 0, .nilFunc] 49)
  have hN : ((w.alloc (.cells #[.int .i64 p, .int .i64 q, .int .i64 r] 46)).alloc (.cells #[.int .i64 0, .nilFunc] 49)).heap.size = w.heap.size + 2 := by simp
  have HS : Hid (∀ V, Below (w.heap.size + 2) ((w.alloc (.cells #[.int .i64 p, .int .i64 q, .int .i64 r] 46)).alloc (.cells #[.int .i64 0, .nilFunc] 49)) V → V.cell? ⟨w.heap.size, 0, none⟩ = some (.int .i64 p) ∧ V.cell? ⟨w.heap.size, 1, none⟩ = some (.int .i64 q) ∧ V.cell? ⟨w.heap.size, 2, none⟩ = some (.int .i64 r)) := Lib.hid (fun V h => ⟨keepC h (by simp) c0, keepC h (by simp) c1, keepC h (by simp) c2⟩)
  have HR : Hid (∀ V, Below (w.heap.size + 2) ((w.alloc (.cells #[.int .i64 p, .int .i64 q, .int .i64 r] 46)).alloc (.cells #[.int .i64 0, .nilFunc] 49)) V → Below w.heap.size w V ∧ V.heap[w.heap.size]? = some (.cells #[.int .i64 p, .int .i64 q, .int .i64 r] 46 (0, 0)) ∧ V.heap[w.heap.size + 1]? = some (.cells #[.int .i64 0, .nilFunc] 49 (0, 0))) := Lib.hid (fun V h => ⟨hb0.trans (h.mono (by omega)), keepH h (by omega) R0, keepH h (by omega) R1⟩)
  have HW0 := Lib.hid (show Below (w.heap.size + 2) ((w.alloc (.cells #[.int .i64 p, .int .i64 q, .int .i64 r] 46)).alloc (.cells #[.int .i64 0, .nilFunc] 49)) ((w.alloc (.cells #[.int .i64 p, .int .i64 q, .int .i64 r] 46)).alloc (.cells #[.int .i64 0, .nilFunc] 49)).drew from (Below.refl _ _).drew)
  clear hg hk0 hk hb0 R0 R1 hN c0 c1 c2
  go_enter Tryz.func69, Tryz.ntmps69
  go_wp2
  try simp only [List.append_eq, List.cons_append, List.nil_append]
  have hW := HW0.out
  have hN : ((w.alloc (.cells #[.int .i64 p, .int .i64 q, .int .i64 r] 46)).alloc (.cells #[.int .i64 0, .nilFunc] 49)).heap.size = w.heap.size + 2 := by simp
  refine wp_region_held_drew (S := (fun W => W.cell? ⟨w.heap.size, 0, none⟩ = some (.int .i64 p) ∧ W.cell? ⟨w.heap.size, 1, none⟩ = some (.int .i64 q) ∧ W.cell? ⟨w.heap.size, 2, none⟩ = some (.int .i64 r))) (by kernel_rfl) (HS.out _ hW) (fun hHeld => ?_)
  generalize ((w.alloc (.cells #[.int .i64 p, .int .i64 q, .int .i64 r] 46)).alloc (.cells #[.int .i64 0, .nilFunc] 49)).drew = v0 at hW hHeld ⊢
  refine wpAnyH_take (i := 0) (oi := _) (v := ?_) rfl (by as_aux_lemma => kernel_rfl) (by as_aux_lemma => kernel_rfl) (by as_aux_lemma => kernel_rfl) (fun _ _ _ h => h) (Or.inl ⟨by rfl, ?_⟩) (by assumption) ?_
  rotate_left
  · intro W' hSw
    try dsimp only at hSw
    obtain ⟨hs0, hs1, hs2⟩ := hSw
    simp only [List.getElem_toArray, List.getElem_cons_zero]
    go_simp
    try with_reducible rfl
  try simp only [Act.put, List.getElem_toArray, List.getElem_cons_zero, List.setIfInBounds_toArray, List.set_cons_zero, List.set_cons_succ]
  refine wpAnyH_take (i := 1) (oi := _) (v := ?_) rfl (by as_aux_lemma => kernel_rfl) (by as_aux_lemma => kernel_rfl) (by as_aux_lemma => kernel_rfl) (fun _ _ _ h => h) (Or.inl ⟨by rfl, ?_⟩) (by assumption) ?_
  rotate_left
  · intro W' hSw
    try dsimp only at hSw
    obtain ⟨hs0, hs1, hs2⟩ := hSw
    simp only [List.getElem_toArray, List.getElem_cons_succ, List.getElem_cons_zero]
    go_simp
    try with_reducible rfl
  try simp only [Act.put, List.getElem_toArray, List.getElem_cons_succ, List.getElem_cons_zero, List.setIfInBounds_toArray, List.set_cons_zero, List.set_cons_succ]
  refine wpAnyH_take (i := 3) (oi := _) (v := ?_) rfl (by as_aux_lemma => kernel_rfl) (by as_aux_lemma => kernel_rfl) (by as_aux_lemma => kernel_rfl) (fun _ _ _ h => h) (Or.inl ⟨by rfl, ?_⟩) (by assumption) ?_
  rotate_left
  · intro W' hSw
    try dsimp only at hSw
    obtain ⟨hs0, hs1, hs2⟩ := hSw
    simp only [List.getElem_toArray, List.getElem_cons_succ, List.getElem_cons_zero]
    go_simp
    try with_reducible rfl
  try simp only [Act.put, List.getElem_toArray, List.getElem_cons_succ, List.getElem_cons_zero, List.setIfInBounds_toArray, List.set_cons_zero, List.set_cons_succ]
  refine wpAnyH_ready (rs := [2, 5, 6]) (by as_aux_lemma => kernel_rfl) (by simp) ?_
  refine AllReadyH.cons (o := _) rfl (fun K hK => ?_) (AllReadyH.cons (o := _) rfl (fun K hK => ?_) (AllReadyH.cons (o := _) rfl (fun K hK => ?_) (AllReadyH.nil)))
  · simp only [List.getElem_toArray, List.getElem_cons_succ, List.getElem_cons_zero]
    go_simp
    refine (HPL.out _).mono ?_
    rintro e w2 ⟨rfl, hb⟩
    have hsz := hW.size
    rw [hN] at hsz
    replace hW := hW.trans (hb.mono hsz)
    clear hb hsz
    refine hK.out _ _ (HS.out _ hW) (fun hHeld => ?_)
    clear hK K
    try simp only [Act.put, List.getElem_toArray, List.getElem_cons_succ, List.getElem_cons_zero, List.setIfInBounds_toArray, List.set_cons_zero, List.set_cons_succ]
    refine wpAnyH_ready (rs := [4, 5, 6]) (by as_aux_lemma => kernel_rfl) (by simp) ?_
    refine AllReadyH.cons (o := _) rfl (fun K hK => ?_) (AllReadyH.cons (o := _) rfl (fun K hK => ?_) (AllReadyH.cons (o := _) rfl (fun K hK => ?_) (AllReadyH.nil)))
    · simp only [List.getElem_toArray, List.getElem_cons_succ, List.getElem_cons_zero]
      go_simp
      refine (HEX.out _).mono ?_
      rintro e w4 ⟨rfl, hb⟩
      have hsz := hW.size
      rw [hN] at hsz
      replace hW := hW.trans (hb.mono hsz)
      clear hb hsz
      refine hK.out _ _ (HS.out _ hW) (fun hHeld => ?_)
      clear hK K
      try simp only [Act.put, List.getElem_toArray, List.getElem_cons_succ, List.getElem_cons_zero, List.setIfInBounds_toArray, List.set_cons_zero, List.set_cons_succ]
      refine wpAnyH_ready (rs := [5, 6]) (by as_aux_lemma => kernel_rfl) (by simp) ?_
      refine AllReadyH.cons (o := _) rfl (fun K hK => ?_) (AllReadyH.cons (o := _) rfl (fun K hK => ?_) (AllReadyH.nil))
      · simp only [List.getElem_toArray, List.getElem_cons_succ, List.getElem_cons_zero]
        go_simp
        have hA5 := heap_alloc_new w4 (.cells #[.int .i64 0, .int .i64 0, .int .i64 0] 46)
        have hL5 := hW.size
        have hsz := hW.size
        rw [hN] at hsz
        replace hW := hW.alloc hsz (.cells #[.int .i64 0, .int .i64 0, .int .i64 0] 46)
        clear hsz
        obtain ⟨b5, hb5⟩ : ∃ b, w4.heap.size = b := ⟨_, rfl⟩
        rw [hb5] at hA5 ⊢
        rw [hN] at hL5
        rw [hb5] at hL5
        clear hb5
        generalize w4.alloc (.cells #[.int .i64 0, .int .i64 0, .int .i64 0] 46) = v5 at hA5 hW ⊢
        refine hK.out _ _ (HS.out _ hW) (fun hHeld => ?_)
        clear hK K
        try simp only [Act.put, List.getElem_toArray, List.getElem_cons_succ, List.getElem_cons_zero, List.setIfInBounds_toArray, List.set_cons_zero, List.set_cons_succ]
        refine wpAnyH_ready (rs := [6]) (by as_aux_lemma => kernel_rfl) (by simp) ?_
        refine AllReadyH.cons (o := _) rfl (fun K hK => ?_) (AllReadyH.nil)
        simp only [List.getElem_toArray, List.getElem_cons_succ, List.getElem_cons_zero]
        go_simp
        have hA6 := heap_alloc_new v5 (.cells #[.int .i64 0] 3)
        have hL6 := hW.size
        have hNE : b5 ≠ v5.heap.size := Nat.ne_of_lt (Array.getElem?_eq_some_iff.1 hA5).1
        replace hA5 := keepH (Joins.below_alloc1 v5 (.cells #[.int .i64 0] 3)) (Array.getElem?_eq_some_iff.1 hA5).1 hA5
        have hsz := hW.size
        rw [hN] at hsz
        replace hW := hW.alloc hsz (.cells #[.int .i64 0] 3)
        clear hsz
        obtain ⟨b6, hb6⟩ : ∃ b, v5.heap.size = b := ⟨_, rfl⟩
        rw [hb6] at hA6 hNE ⊢
        rw [hN] at hL6
        rw [hb6] at hL6
        clear hb6
        generalize v5.alloc (.cells #[.int .i64 0] 3) = v6 at hA6 hW hA5 ⊢
        refine hK.out _ _ (HS.out _ hW) (fun hHeld => ?_)
        clear hK K
        try simp only [Act.put, List.getElem_toArray, List.getElem_cons_succ, List.getElem_cons_zero, List.setIfInBounds_toArray, List.set_cons_zero, List.set_cons_succ]
        refine wpAnyH_ready (rs := [7]) (by as_aux_lemma => kernel_rfl) (by simp) ?_
        refine AllReadyH.cons (o := _) rfl (fun K hK => ?_) (AllReadyH.nil)
        have hT := trip_cell hA5
        obtain ⟨t0, t1, t2, t3, t4, t5⟩ := hT
        simp only [List.getElem_toArray, List.getElem_cons_succ, List.getElem_cons_zero]
        go_simp
        clear t0 t1 t2 t3 t4 t5
        have hX := grownG_set (grownG_set (grownG_set (World.grownBy.refl v6 (some b5)) 0 (.int .i64 u)) 1 (.int .i64 v)) 2 (.int .i64 z)
        replace hA6 := (hX.block b6 (Array.getElem?_eq_some_iff.1 hA6).1 (fun e => by cases e; exact hNE rfl)).trans hA6
        replace hA5 := set3_heap (u := .int .i64 u) (v := .int .i64 v) (s := .int .i64 z) hA5
        replace hW := below_set3 (x := .int .i64 u) (y := .int .i64 v) (z := .int .i64 z) hW hL5
        clear hX
        generalize ((v6.setCell ⟨b5, 0, none⟩ (.int .i64 u)).setCell ⟨b5, 1, none⟩ (.int .i64 v)).setCell ⟨b5, 2, none⟩ (.int .i64 z) = v7 at hA5 hA6 hW ⊢
        refine hK.out _ _ (HS.out _ hW) (fun hHeld => ?_)
        clear hK K
        try simp only [Act.put, List.getElem_toArray, List.getElem_cons_succ, List.getElem_cons_zero, List.setIfInBounds_toArray, List.set_cons_zero, List.set_cons_succ]
        refine wpAnyH_ready (rs := [8]) (by as_aux_lemma => kernel_rfl) (by simp) ?_
        refine AllReadyH.cons (o := _) rfl (fun K hK => ?_) (AllReadyH.nil)
        have t0 := one_cell7 hA6
        have t1 := one_frozen hA6
        simp only [List.getElem_toArray, List.getElem_cons_succ, List.getElem_cons_zero]
        go_simp
        clear t0 t1
        have hX := grownG_set (World.grownBy.refl v7 (some b6)) 0 (.int .i64 E)
        replace hA5 := (hX.block b5 (Array.getElem?_eq_some_iff.1 hA5).1 (fun e => by cases e; exact hNE rfl)).trans hA5
        replace hA6 := one_setCell (u := .int .i64 E) hA6
        replace hW := Below.setCell (p := ⟨b6, 0, none⟩) hW hL6 (.int .i64 E)
        clear hX
        generalize v7.setCell ⟨b6, 0, none⟩ (.int .i64 E) = v8 at hA5 hA6 hW ⊢
        refine hK.out _ _ (HS.out _ hW) (fun hHeld => ?_)
        clear hK K
        try simp only [Act.put, List.getElem_toArray, List.getElem_cons_succ, List.getElem_cons_zero, List.setIfInBounds_toArray, List.set_cons_zero, List.set_cons_succ]
        refine wpAnyH_done (by kernel_rfl) ?_ _
        have t0 := one_cell7 hA6
        obtain ⟨hr1, hr2, hr3⟩ := HR.out _ hW
        obtain ⟨s0, s1, s2, s3⟩ := two_cell hr3
        go_wp2
        have hX := grownG_set (grownG_set (World.grownBy.refl v8 (some (w.heap.size + 1))) 0 (.int .i64 E)) 1 (.func (.func 90) #[] #[.pointer (some ⟨w.heap.size, 0, none⟩), .pointer (some ⟨b5, 0, none⟩), .pointer (some ⟨b6, 0, none⟩)])
        have hq := two_cell (set2_heap (u := .int .i64 E) (v := .func (.func 90) #[] #[.pointer (some ⟨w.heap.size, 0, none⟩), .pointer (some ⟨b5, 0, none⟩), .pointer (some ⟨b6, 0, none⟩)]) hr3)
        refine bodyPost_ret (v := .agg #[.int .i64 E, chrF w.heap.size b5 b6]) (by simp [results, Tryz.results69, go_sem, hq.1, hq.2.1, chrF]) rfl ⟨_, _, _, rfl, HCA.out _ _ _ _ ((hX.block _ (Array.getElem?_eq_some_iff.1 hr2).1 (fun e => by injection e with e; omega)).trans hr2) ((hX.block _ (Array.getElem?_eq_some_iff.1 hA5).1 (fun e => by injection e with e; omega)).trans hA5) ((hX.block _ (Array.getElem?_eq_some_iff.1 hA6).1 (fun e => by injection e with e; omega)).trans hA6), ⟨Nat.le_refl _, by omega, by omega⟩, Below.setCell (p := ⟨w.heap.size + 1, 1, none⟩) (Below.setCell (p := ⟨w.heap.size + 1, 0, none⟩) hr1 (by simp) _) (by simp) _⟩
      · simp only [List.getElem_toArray, List.getElem_cons_succ, List.getElem_cons_zero]
        go_simp
        have hA6 := heap_alloc_new w4 (.cells #[.int .i64 0] 3)
        have hL6 := hW.size
        have hsz := hW.size
        rw [hN] at hsz
        replace hW := hW.alloc hsz (.cells #[.int .i64 0] 3)
        clear hsz
        obtain ⟨b6, hb6⟩ : ∃ b, w4.heap.size = b := ⟨_, rfl⟩
        rw [hb6] at hA6 ⊢
        rw [hN] at hL6
        rw [hb6] at hL6
        clear hb6
        generalize w4.alloc (.cells #[.int .i64 0] 3) = v6 at hA6 hW ⊢
        refine hK.out _ _ (HS.out _ hW) (fun hHeld => ?_)
        clear hK K
        try simp only [Act.put, List.getElem_toArray, List.getElem_cons_succ, List.getElem_cons_zero, List.setIfInBounds_toArray, List.set_cons_zero, List.set_cons_succ]
        refine wpAnyH_ready (rs := [5]) (by as_aux_lemma => kernel_rfl) (by simp) ?_
        refine AllReadyH.cons (o := _) rfl (fun K hK => ?_) (AllReadyH.nil)
        simp only [List.getElem_toArray, List.getElem_cons_succ, List.getElem_cons_zero]
        go_simp
        have hA5 := heap_alloc_new v6 (.cells #[.int .i64 0, .int .i64 0, .int .i64 0] 46)
        have hL5 := hW.size
        have hNE : b6 ≠ v6.heap.size := Nat.ne_of_lt (Array.getElem?_eq_some_iff.1 hA6).1
        replace hA6 := keepH (Joins.below_alloc1 v6 (.cells #[.int .i64 0, .int .i64 0, .int .i64 0] 46)) (Array.getElem?_eq_some_iff.1 hA6).1 hA6
        have hsz := hW.size
        rw [hN] at hsz
        replace hW := hW.alloc hsz (.cells #[.int .i64 0, .int .i64 0, .int .i64 0] 46)
        clear hsz
        obtain ⟨b5, hb5⟩ : ∃ b, v6.heap.size = b := ⟨_, rfl⟩
        rw [hb5] at hA5 hNE ⊢
        rw [hN] at hL5
        rw [hb5] at hL5
        clear hb5
        generalize v6.alloc (.cells #[.int .i64 0, .int .i64 0, .int .i64 0] 46) = v5 at hA5 hW hA6 ⊢
        refine hK.out _ _ (HS.out _ hW) (fun hHeld => ?_)
        clear hK K
        try simp only [Act.put, List.getElem_toArray, List.getElem_cons_succ, List.getElem_cons_zero, List.setIfInBounds_toArray, List.set_cons_zero, List.set_cons_succ]
        refine wpAnyH_ready (rs := [7]) (by as_aux_lemma => kernel_rfl) (by simp) ?_
        refine AllReadyH.cons (o := _) rfl (fun K hK => ?_) (AllReadyH.nil)
        have hT := trip_cell hA5
        obtain ⟨t0, t1, t2, t3, t4, t5⟩ := hT
        simp only [List.getElem_toArray, List.getElem_cons_succ, List.getElem_cons_zero]
        go_simp
        clear t0 t1 t2 t3 t4 t5
        have hX := grownG_set (grownG_set (grownG_set (World.grownBy.refl v5 (some b5)) 0 (.int .i64 u)) 1 (.int .i64 v)) 2 (.int .i64 z)
        replace hA6 := (hX.block b6 (Array.getElem?_eq_some_iff.1 hA6).1 (fun e => by cases e; exact hNE rfl)).trans hA6
        replace hA5 := set3_heap (u := .int .i64 u) (v := .int .i64 v) (s := .int .i64 z) hA5
        replace hW := below_set3 (x := .int .i64 u) (y := .int .i64 v) (z := .int .i64 z) hW hL5
        clear hX
        generalize ((v5.setCell ⟨b5, 0, none⟩ (.int .i64 u)).setCell ⟨b5, 1, none⟩ (.int .i64 v)).setCell ⟨b5, 2, none⟩ (.int .i64 z) = v7 at hA5 hA6 hW ⊢
        refine hK.out _ _ (HS.out _ hW) (fun hHeld => ?_)
        clear hK K
        try simp only [Act.put, List.getElem_toArray, List.getElem_cons_succ, List.getElem_cons_zero, List.setIfInBounds_toArray, List.set_cons_zero, List.set_cons_succ]
        refine wpAnyH_ready (rs := [8]) (by as_aux_lemma => kernel_rfl) (by simp) ?_
        refine AllReadyH.cons (o := _) rfl (fun K hK => ?_) (AllReadyH.nil)
        have t0 := one_cell7 hA6
        have t1 := one_frozen hA6
        simp only [List.getElem_toArray, List.getElem_cons_succ, List.getElem_cons_zero]
        go_simp
        clear t0 t1
        have hX := grownG_set (World.grownBy.refl v7 (some b6)) 0 (.int .i64 E)
        replace hA5 := (hX.block b5 (Array.getElem?_eq_some_iff.1 hA5).1 (fun e => by cases e; exact hNE rfl)).trans hA5
        replace hA6 := one_setCell (u := .int .i64 E) hA6
        replace hW := Below.setCell (p := ⟨b6, 0, none⟩) hW hL6 (.int .i64 E)
        clear hX
        generalize v7.setCell ⟨b6, 0, none⟩ (.int .i64 E) = v8 at hA5 hA6 hW ⊢
        refine hK.out _ _ (HS.out _ hW) (fun hHeld => ?_)
        clear hK K
        try simp only [Act.put, List.getElem_toArray, List.getElem_cons_succ, List.getElem_cons_zero, List.setIfInBounds_toArray, List.set_cons_zero, List.set_cons_succ]
        refine wpAnyH_done (by kernel_rfl) ?_ _
        have t0 := one_cell7 hA6
        obtain ⟨hr1, hr2, hr3⟩ := HR.out _ hW
        obtain ⟨s0, s1, s2, s3⟩ := two_cell hr3
        go_wp2
        have hX := grownG_set (grownG_set (World.grownBy.refl v8 (some (w.heap.size + 1))) 0 (.int .i64 E)) 1 (.func (.func 90) #[] #[.pointer (some ⟨w.heap.size, 0, none⟩), .pointer (some ⟨b5, 0, none⟩), .pointer (some ⟨b6, 0, none⟩)])
        have hq := two_cell (set2_heap (u := .int .i64 E) (v := .func (.func 90) #[] #[.pointer (some ⟨w.heap.size, 0, none⟩), .pointer (some ⟨b5, 0, none⟩), .pointer (some ⟨b6, 0, none⟩)]) hr3)
        refine bodyPost_ret (v := .agg #[.int .i64 E, chrF w.heap.size b5 b6]) (by simp [results, Tryz.results69, go_sem, hq.1, hq.2.1, chrF]) rfl ⟨_, _, _, rfl, HCA.out _ _ _ _ ((hX.block _ (Array.getElem?_eq_some_iff.1 hr2).1 (fun e => by injection e with e; omega)).trans hr2) ((hX.block _ (Array.getElem?_eq_some_iff.1 hA5).1 (fun e => by injection e with e; omega)).trans hA5) ((hX.block _ (Array.getElem?_eq_some_iff.1 hA6).1 (fun e => by injection e with e; omega)).trans hA6), ⟨Nat.le_refl _, by omega, by omega⟩, Below.setCell (p := ⟨w.heap.size + 1, 1, none⟩) (Below.setCell (p := ⟨w.heap.size + 1, 0, none⟩) hr1 (by simp) _) (by simp) _⟩
    · simp only [List.getElem_toArray, List.getElem_cons_succ, List.getElem_cons_zero]
      go_simp
      have hA5 := heap_alloc_new w2 (.cells #[.int .i64 0, .int .i64 0, .int .i64 0] 46)
      have hL5 := hW.size
      have hsz := hW.size
      rw [hN] at hsz
      replace hW := hW.alloc hsz (.cells #[.int .i64 0, .int .i64 0, .int .i64 0] 46)
      clear hsz
      obtain ⟨b5, hb5⟩ : ∃ b, w2.heap.size = b := ⟨_, rfl⟩
      rw [hb5] at hA5 ⊢
      rw [hN] at hL5
      rw [hb5] at hL5
      clear hb5
      generalize w2.alloc (.cells #[.int .i64 0, .int .i64 0, .int .i64 0] 46) = v5 at hA5 hW ⊢
      refine hK.out _ _ (HS.out _ hW) (fun hHeld => ?_)
      clear hK K
      try simp only [Act.put, List.getElem_toArray, List.getElem_cons_succ, List.getElem_cons_zero, List.setIfInBounds_toArray, List.set_cons_zero, List.set_cons_succ]
      refine wpAnyH_ready (rs := [4, 6]) (by as_aux_lemma => kernel_rfl) (by simp) ?_
      refine AllReadyH.cons (o := _) rfl (fun K hK => ?_) (AllReadyH.cons (o := _) rfl (fun K hK => ?_) (AllReadyH.nil))
      · simp only [List.getElem_toArray, List.getElem_cons_succ, List.getElem_cons_zero]
        go_simp
        refine (HEX.out _).mono ?_
        rintro e w4 ⟨rfl, hb⟩
        replace hA5 := keepH hb (Array.getElem?_eq_some_iff.1 hA5).1 hA5
        have hsz := hW.size
        rw [hN] at hsz
        replace hW := hW.trans (hb.mono hsz)
        clear hb hsz
        refine hK.out _ _ (HS.out _ hW) (fun hHeld => ?_)
        clear hK K
        try simp only [Act.put, List.getElem_toArray, List.getElem_cons_succ, List.getElem_cons_zero, List.setIfInBounds_toArray, List.set_cons_zero, List.set_cons_succ]
        refine wpAnyH_ready (rs := [6]) (by as_aux_lemma => kernel_rfl) (by simp) ?_
        refine AllReadyH.cons (o := _) rfl (fun K hK => ?_) (AllReadyH.nil)
        simp only [List.getElem_toArray, List.getElem_cons_succ, List.getElem_cons_zero]
        go_simp
        have hA6 := heap_alloc_new w4 (.cells #[.int .i64 0] 3)
        have hL6 := hW.size
        have hNE : b5 ≠ w4.heap.size := Nat.ne_of_lt (Array.getElem?_eq_some_iff.1 hA5).1
        replace hA5 := keepH (Joins.below_alloc1 w4 (.cells #[.int .i64 0] 3)) (Array.getElem?_eq_some_iff.1 hA5).1 hA5
        have hsz := hW.size
        rw [hN] at hsz
        replace hW := hW.alloc hsz (.cells #[.int .i64 0] 3)
        clear hsz
        obtain ⟨b6, hb6⟩ : ∃ b, w4.heap.size = b := ⟨_, rfl⟩
        rw [hb6] at hA6 hNE ⊢
        rw [hN] at hL6
        rw [hb6] at hL6
        clear hb6
        generalize w4.alloc (.cells #[.int .i64 0] 3) = v6 at hA6 hW hA5 ⊢
        refine hK.out _ _ (HS.out _ hW) (fun hHeld => ?_)
        clear hK K
        try simp only [Act.put, List.getElem_toArray, List.getElem_cons_succ, List.getElem_cons_zero, List.setIfInBounds_toArray, List.set_cons_zero, List.set_cons_succ]
        refine wpAnyH_ready (rs := [7]) (by as_aux_lemma => kernel_rfl) (by simp) ?_
        refine AllReadyH.cons (o := _) rfl (fun K hK => ?_) (AllReadyH.nil)
        have hT := trip_cell hA5
        obtain ⟨t0, t1, t2, t3, t4, t5⟩ := hT
        simp only [List.getElem_toArray, List.getElem_cons_succ, List.getElem_cons_zero]
        go_simp
        clear t0 t1 t2 t3 t4 t5
        have hX := grownG_set (grownG_set (grownG_set (World.grownBy.refl v6 (some b5)) 0 (.int .i64 u)) 1 (.int .i64 v)) 2 (.int .i64 z)
        replace hA6 := (hX.block b6 (Array.getElem?_eq_some_iff.1 hA6).1 (fun e => by cases e; exact hNE rfl)).trans hA6
        replace hA5 := set3_heap (u := .int .i64 u) (v := .int .i64 v) (s := .int .i64 z) hA5
        replace hW := below_set3 (x := .int .i64 u) (y := .int .i64 v) (z := .int .i64 z) hW hL5
        clear hX
        generalize ((v6.setCell ⟨b5, 0, none⟩ (.int .i64 u)).setCell ⟨b5, 1, none⟩ (.int .i64 v)).setCell ⟨b5, 2, none⟩ (.int .i64 z) = v7 at hA5 hA6 hW ⊢
        refine hK.out _ _ (HS.out _ hW) (fun hHeld => ?_)
        clear hK K
        try simp only [Act.put, List.getElem_toArray, List.getElem_cons_succ, List.getElem_cons_zero, List.setIfInBounds_toArray, List.set_cons_zero, List.set_cons_succ]
        refine wpAnyH_ready (rs := [8]) (by as_aux_lemma => kernel_rfl) (by simp) ?_
        refine AllReadyH.cons (o := _) rfl (fun K hK => ?_) (AllReadyH.nil)
        have t0 := one_cell7 hA6
        have t1 := one_frozen hA6
        simp only [List.getElem_toArray, List.getElem_cons_succ, List.getElem_cons_zero]
        go_simp
        clear t0 t1
        have hX := grownG_set (World.grownBy.refl v7 (some b6)) 0 (.int .i64 E)
        replace hA5 := (hX.block b5 (Array.getElem?_eq_some_iff.1 hA5).1 (fun e => by cases e; exact hNE rfl)).trans hA5
        replace hA6 := one_setCell (u := .int .i64 E) hA6
        replace hW := Below.setCell (p := ⟨b6, 0, none⟩) hW hL6 (.int .i64 E)
        clear hX
        generalize v7.setCell ⟨b6, 0, none⟩ (.int .i64 E) = v8 at hA5 hA6 hW ⊢
        refine hK.out _ _ (HS.out _ hW) (fun hHeld => ?_)
        clear hK K
        try simp only [Act.put, List.getElem_toArray, List.getElem_cons_succ, List.getElem_cons_zero, List.setIfInBounds_toArray, List.set_cons_zero, List.set_cons_succ]
        refine wpAnyH_done (by kernel_rfl) ?_ _
        have t0 := one_cell7 hA6
        obtain ⟨hr1, hr2, hr3⟩ := HR.out _ hW
        obtain ⟨s0, s1, s2, s3⟩ := two_cell hr3
        go_wp2
        have hX := grownG_set (grownG_set (World.grownBy.refl v8 (some (w.heap.size + 1))) 0 (.int .i64 E)) 1 (.func (.func 90) #[] #[.pointer (some ⟨w.heap.size, 0, none⟩), .pointer (some ⟨b5, 0, none⟩), .pointer (some ⟨b6, 0, none⟩)])
        have hq := two_cell (set2_heap (u := .int .i64 E) (v := .func (.func 90) #[] #[.pointer (some ⟨w.heap.size, 0, none⟩), .pointer (some ⟨b5, 0, none⟩), .pointer (some ⟨b6, 0, none⟩)]) hr3)
        refine bodyPost_ret (v := .agg #[.int .i64 E, chrF w.heap.size b5 b6]) (by simp [results, Tryz.results69, go_sem, hq.1, hq.2.1, chrF]) rfl ⟨_, _, _, rfl, HCA.out _ _ _ _ ((hX.block _ (Array.getElem?_eq_some_iff.1 hr2).1 (fun e => by injection e with e; omega)).trans hr2) ((hX.block _ (Array.getElem?_eq_some_iff.1 hA5).1 (fun e => by injection e with e; omega)).trans hA5) ((hX.block _ (Array.getElem?_eq_some_iff.1 hA6).1 (fun e => by injection e with e; omega)).trans hA6), ⟨Nat.le_refl _, by omega, by omega⟩, Below.setCell (p := ⟨w.heap.size + 1, 1, none⟩) (Below.setCell (p := ⟨w.heap.size + 1, 0, none⟩) hr1 (by simp) _) (by simp) _⟩
      · simp only [List.getElem_toArray, List.getElem_cons_succ, List.getElem_cons_zero]
        go_simp
        have hA6 := heap_alloc_new v5 (.cells #[.int .i64 0] 3)
        have hL6 := hW.size
        have hNE : b5 ≠ v5.heap.size := Nat.ne_of_lt (Array.getElem?_eq_some_iff.1 hA5).1
        replace hA5 := keepH (Joins.below_alloc1 v5 (.cells #[.int .i64 0] 3)) (Array.getElem?_eq_some_iff.1 hA5).1 hA5
        have hsz := hW.size
        rw [hN] at hsz
        replace hW := hW.alloc hsz (.cells #[.int .i64 0] 3)
        clear hsz
        obtain ⟨b6, hb6⟩ : ∃ b, v5.heap.size = b := ⟨_, rfl⟩
        rw [hb6] at hA6 hNE ⊢
        rw [hN] at hL6
        rw [hb6] at hL6
        clear hb6
        generalize v5.alloc (.cells #[.int .i64 0] 3) = v6 at hA6 hW hA5 ⊢
        refine hK.out _ _ (HS.out _ hW) (fun hHeld => ?_)
        clear hK K
        try simp only [Act.put, List.getElem_toArray, List.getElem_cons_succ, List.getElem_cons_zero, List.setIfInBounds_toArray, List.set_cons_zero, List.set_cons_succ]
        refine wpAnyH_ready (rs := [4]) (by as_aux_lemma => kernel_rfl) (by simp) ?_
        refine AllReadyH.cons (o := _) rfl (fun K hK => ?_) (AllReadyH.nil)
        simp only [List.getElem_toArray, List.getElem_cons_succ, List.getElem_cons_zero]
        go_simp
        refine (HEX.out _).mono ?_
        rintro e w4 ⟨rfl, hb⟩
        replace hA5 := keepH hb (Array.getElem?_eq_some_iff.1 hA5).1 hA5
        replace hA6 := keepH hb (Array.getElem?_eq_some_iff.1 hA6).1 hA6
        have hsz := hW.size
        rw [hN] at hsz
        replace hW := hW.trans (hb.mono hsz)
        clear hb hsz
        refine hK.out _ _ (HS.out _ hW) (fun hHeld => ?_)
        clear hK K
        try simp only [Act.put, List.getElem_toArray, List.getElem_cons_succ, List.getElem_cons_zero, List.setIfInBounds_toArray, List.set_cons_zero, List.set_cons_succ]
        refine wpAnyH_ready (rs := [7]) (by as_aux_lemma => kernel_rfl) (by simp) ?_
        refine AllReadyH.cons (o := _) rfl (fun K hK => ?_) (AllReadyH.nil)
        have hT := trip_cell hA5
        obtain ⟨t0, t1, t2, t3, t4, t5⟩ := hT
        simp only [List.getElem_toArray, List.getElem_cons_succ, List.getElem_cons_zero]
        go_simp
        clear t0 t1 t2 t3 t4 t5
        have hX := grownG_set (grownG_set (grownG_set (World.grownBy.refl w4 (some b5)) 0 (.int .i64 u)) 1 (.int .i64 v)) 2 (.int .i64 z)
        replace hA6 := (hX.block b6 (Array.getElem?_eq_some_iff.1 hA6).1 (fun e => by cases e; exact hNE rfl)).trans hA6
        replace hA5 := set3_heap (u := .int .i64 u) (v := .int .i64 v) (s := .int .i64 z) hA5
        replace hW := below_set3 (x := .int .i64 u) (y := .int .i64 v) (z := .int .i64 z) hW hL5
        clear hX
        generalize ((w4.setCell ⟨b5, 0, none⟩ (.int .i64 u)).setCell ⟨b5, 1, none⟩ (.int .i64 v)).setCell ⟨b5, 2, none⟩ (.int .i64 z) = v7 at hA5 hA6 hW ⊢
        refine hK.out _ _ (HS.out _ hW) (fun hHeld => ?_)
        clear hK K
        try simp only [Act.put, List.getElem_toArray, List.getElem_cons_succ, List.getElem_cons_zero, List.setIfInBounds_toArray, List.set_cons_zero, List.set_cons_succ]
        refine wpAnyH_ready (rs := [8]) (by as_aux_lemma => kernel_rfl) (by simp) ?_
        refine AllReadyH.cons (o := _) rfl (fun K hK => ?_) (AllReadyH.nil)
        have t0 := one_cell7 hA6
        have t1 := one_frozen hA6
        simp only [List.getElem_toArray, List.getElem_cons_succ, List.getElem_cons_zero]
        go_simp
        clear t0 t1
        have hX := grownG_set (World.grownBy.refl v7 (some b6)) 0 (.int .i64 E)
        replace hA5 := (hX.block b5 (Array.getElem?_eq_some_iff.1 hA5).1 (fun e => by cases e; exact hNE rfl)).trans hA5
        replace hA6 := one_setCell (u := .int .i64 E) hA6
        replace hW := Below.setCell (p := ⟨b6, 0, none⟩) hW hL6 (.int .i64 E)
        clear hX
        generalize v7.setCell ⟨b6, 0, none⟩ (.int .i64 E) = v8 at hA5 hA6 hW ⊢
        refine hK.out _ _ (HS.out _ hW) (fun hHeld => ?_)
        clear hK K
        try simp only [Act.put, List.getElem_toArray, List.getElem_cons_succ, List.getElem_cons_zero, List.setIfInBounds_toArray, List.set_cons_zero, List.set_cons_succ]
        refine wpAnyH_done (by kernel_rfl) ?_ _
        have t0 := one_cell7 hA6
        obtain ⟨hr1, hr2, hr3⟩ := HR.out _ hW
        obtain ⟨s0, s1, s2, s3⟩ := two_cell hr3
        go_wp2
        have hX := grownG_set (grownG_set (World.grownBy.refl v8 (some (w.heap.size + 1))) 0 (.int .i64 E)) 1 (.func (.func 90) #[] #[.pointer (some ⟨w.heap.size, 0, none⟩), .pointer (some ⟨b5, 0, none⟩), .pointer (some ⟨b6, 0, none⟩)])
        have hq := two_cell (set2_heap (u := .int .i64 E) (v := .func (.func 90) #[] #[.pointer (some ⟨w.heap.size, 0, none⟩), .pointer (some ⟨b5, 0, none⟩), .pointer (some ⟨b6, 0, none⟩)]) hr3)
        refine bodyPost_ret (v := .agg #[.int .i64 E, chrF w.heap.size b5 b6]) (by simp [results, Tryz.results69, go_sem, hq.1, hq.2.1, chrF]) rfl ⟨_, _, _, rfl, HCA.out _ _ _ _ ((hX.block _ (Array.getElem?_eq_some_iff.1 hr2).1 (fun e => by injection e with e; omega)).trans hr2) ((hX.block _ (Array.getElem?_eq_some_iff.1 hA5).1 (fun e => by injection e with e; omega)).trans hA5) ((hX.block _ (Array.getElem?_eq_some_iff.1 hA6).1 (fun e => by injection e with e; omega)).trans hA6), ⟨Nat.le_refl _, by omega, by omega⟩, Below.setCell (p := ⟨w.heap.size + 1, 1, none⟩) (Below.setCell (p := ⟨w.heap.size + 1, 0, none⟩) hr1 (by simp) _) (by simp) _⟩
    · simp only [List.getElem_toArray, List.getElem_cons_succ, List.getElem_cons_zero]
      go_simp
      have hA6 := heap_alloc_new w2 (.cells #[.int .i64 0] 3)
      have hL6 := hW.size
      have hsz := hW.size
      rw [hN] at hsz
      replace hW := hW.alloc hsz (.cells #[.int .i64 0] 3)
      clear hsz
      obtain ⟨b6, hb6⟩ : ∃ b, w2.heap.size = b := ⟨_, rfl⟩
      rw [hb6] at hA6 ⊢
      rw [hN] at hL6
      rw [hb6] at hL6
      clear hb6
      generalize w2.alloc (.cells #[.int .i64 0] 3) = v6 at hA6 hW ⊢
      refine hK.out _ _ (HS.out _ hW) (fun hHeld => ?_)
      clear hK K
      try simp only [Act.put, List.getElem_toArray, List.getElem_cons_succ, List.getElem_cons_zero, List.setIfInBounds_toArray, List.set_cons_zero, List.set_cons_succ]
      refine wpAnyH_ready (rs := [4, 5]) (by as_aux_lemma => kernel_rfl) (by simp) ?_
      refine AllReadyH.cons (o := _) rfl (fun K hK => ?_) (AllReadyH.cons (o := _) rfl (fun K hK => ?_) (AllReadyH.nil))
      · simp only [List.getElem_toArray, List.getElem_cons_succ, List.getElem_cons_zero]
        go_simp
        refine (HEX.out _).mono ?_
        rintro e w4 ⟨rfl, hb⟩
        replace hA6 := keepH hb (Array.getElem?_eq_some_iff.1 hA6).1 hA6
        have hsz := hW.size
        rw [hN] at hsz
        replace hW := hW.trans (hb.mono hsz)
        clear hb hsz
        refine hK.out _ _ (HS.out _ hW) (fun hHeld => ?_)
        clear hK K
        try simp only [Act.put, List.getElem_toArray, List.getElem_cons_succ, List.getElem_cons_zero, List.setIfInBounds_toArray, List.set_cons_zero, List.set_cons_succ]
        refine wpAnyH_ready (rs := [5]) (by as_aux_lemma => kernel_rfl) (by simp) ?_
        refine AllReadyH.cons (o := _) rfl (fun K hK => ?_) (AllReadyH.nil)
        simp only [List.getElem_toArray, List.getElem_cons_succ, List.getElem_cons_zero]
        go_simp
        have hA5 := heap_alloc_new w4 (.cells #[.int .i64 0, .int .i64 0, .int .i64 0] 46)
        have hL5 := hW.size
        have hNE : b6 ≠ w4.heap.size := Nat.ne_of_lt (Array.getElem?_eq_some_iff.1 hA6).1
        replace hA6 := keepH (Joins.below_alloc1 w4 (.cells #[.int .i64 0, .int .i64 0, .int .i64 0] 46)) (Array.getElem?_eq_some_iff.1 hA6).1 hA6
        have hsz := hW.size
        rw [hN] at hsz
        replace hW := hW.alloc hsz (.cells #[.int .i64 0, .int .i64 0, .int .i64 0] 46)
        clear hsz
        obtain ⟨b5, hb5⟩ : ∃ b, w4.heap.size = b := ⟨_, rfl⟩
        rw [hb5] at hA5 hNE ⊢
        rw [hN] at hL5
        rw [hb5] at hL5
        clear hb5
        generalize w4.alloc (.cells #[.int .i64 0, .int .i64 0, .int .i64 0] 46) = v5 at hA5 hW hA6 ⊢
        refine hK.out _ _ (HS.out _ hW) (fun hHeld => ?_)
        clear hK K
        try simp only [Act.put, List.getElem_toArray, List.getElem_cons_succ, List.getElem_cons_zero, List.setIfInBounds_toArray, List.set_cons_zero, List.set_cons_succ]
        refine wpAnyH_ready (rs := [7]) (by as_aux_lemma => kernel_rfl) (by simp) ?_
        refine AllReadyH.cons (o := _) rfl (fun K hK => ?_) (AllReadyH.nil)
        have hT := trip_cell hA5
        obtain ⟨t0, t1, t2, t3, t4, t5⟩ := hT
        simp only [List.getElem_toArray, List.getElem_cons_succ, List.getElem_cons_zero]
        go_simp
        clear t0 t1 t2 t3 t4 t5
        have hX := grownG_set (grownG_set (grownG_set (World.grownBy.refl v5 (some b5)) 0 (.int .i64 u)) 1 (.int .i64 v)) 2 (.int .i64 z)
        replace hA6 := (hX.block b6 (Array.getElem?_eq_some_iff.1 hA6).1 (fun e => by cases e; exact hNE rfl)).trans hA6
        replace hA5 := set3_heap (u := .int .i64 u) (v := .int .i64 v) (s := .int .i64 z) hA5
        replace hW := below_set3 (x := .int .i64 u) (y := .int .i64 v) (z := .int .i64 z) hW hL5
        clear hX
        generalize ((v5.setCell ⟨b5, 0, none⟩ (.int .i64 u)).setCell ⟨b5, 1, none⟩ (.int .i64 v)).setCell ⟨b5, 2, none⟩ (.int .i64 z) = v7 at hA5 hA6 hW ⊢
        refine hK.out _ _ (HS.out _ hW) (fun hHeld => ?_)
        clear hK K
        try simp only [Act.put, List.getElem_toArray, List.getElem_cons_succ, List.getElem_cons_zero, List.setIfInBounds_toArray, List.set_cons_zero, List.set_cons_succ]
        refine wpAnyH_ready (rs := [8]) (by as_aux_lemma => kernel_rfl) (by simp) ?_
        refine AllReadyH.cons (o := _) rfl (fun K hK => ?_) (AllReadyH.nil)
        have t0 := one_cell7 hA6
        have t1 := one_frozen hA6
        simp only [List.getElem_toArray, List.getElem_cons_succ, List.getElem_cons_zero]
        go_simp
        clear t0 t1
        have hX := grownG_set (World.grownBy.refl v7 (some b6)) 0 (.int .i64 E)
        replace hA5 := (hX.block b5 (Array.getElem?_eq_some_iff.1 hA5).1 (fun e => by cases e; exact hNE rfl)).trans hA5
        replace hA6 := one_setCell (u := .int .i64 E) hA6
        replace hW := Below.setCell (p := ⟨b6, 0, none⟩) hW hL6 (.int .i64 E)
        clear hX
        generalize v7.setCell ⟨b6, 0, none⟩ (.int .i64 E) = v8 at hA5 hA6 hW ⊢
        refine hK.out _ _ (HS.out _ hW) (fun hHeld => ?_)
        clear hK K
        try simp only [Act.put, List.getElem_toArray, List.getElem_cons_succ, List.getElem_cons_zero, List.setIfInBounds_toArray, List.set_cons_zero, List.set_cons_succ]
        refine wpAnyH_done (by kernel_rfl) ?_ _
        have t0 := one_cell7 hA6
        obtain ⟨hr1, hr2, hr3⟩ := HR.out _ hW
        obtain ⟨s0, s1, s2, s3⟩ := two_cell hr3
        go_wp2
        have hX := grownG_set (grownG_set (World.grownBy.refl v8 (some (w.heap.size + 1))) 0 (.int .i64 E)) 1 (.func (.func 90) #[] #[.pointer (some ⟨w.heap.size, 0, none⟩), .pointer (some ⟨b5, 0, none⟩), .pointer (some ⟨b6, 0, none⟩)])
        have hq := two_cell (set2_heap (u := .int .i64 E) (v := .func (.func 90) #[] #[.pointer (some ⟨w.heap.size, 0, none⟩), .pointer (some ⟨b5, 0, none⟩), .pointer (some ⟨b6, 0, none⟩)]) hr3)
        refine bodyPost_ret (v := .agg #[.int .i64 E, chrF w.heap.size b5 b6]) (by simp [results, Tryz.results69, go_sem, hq.1, hq.2.1, chrF]) rfl ⟨_, _, _, rfl, HCA.out _ _ _ _ ((hX.block _ (Array.getElem?_eq_some_iff.1 hr2).1 (fun e => by injection e with e; omega)).trans hr2) ((hX.block _ (Array.getElem?_eq_some_iff.1 hA5).1 (fun e => by injection e with e; omega)).trans hA5) ((hX.block _ (Array.getElem?_eq_some_iff.1 hA6).1 (fun e => by injection e with e; omega)).trans hA6), ⟨Nat.le_refl _, by omega, by omega⟩, Below.setCell (p := ⟨w.heap.size + 1, 1, none⟩) (Below.setCell (p := ⟨w.heap.size + 1, 0, none⟩) hr1 (by simp) _) (by simp) _⟩
      · simp only [List.getElem_toArray, List.getElem_cons_succ, List.getElem_cons_zero]
        go_simp
        have hA5 := heap_alloc_new v6 (.cells #[.int .i64 0, .int .i64 0, .int .i64 0] 46)
        have hL5 := hW.size
        have hNE : b6 ≠ v6.heap.size := Nat.ne_of_lt (Array.getElem?_eq_some_iff.1 hA6).1
        replace hA6 := keepH (Joins.below_alloc1 v6 (.cells #[.int .i64 0, .int .i64 0, .int .i64 0] 46)) (Array.getElem?_eq_some_iff.1 hA6).1 hA6
        have hsz := hW.size
        rw [hN] at hsz
        replace hW := hW.alloc hsz (.cells #[.int .i64 0, .int .i64 0, .int .i64 0] 46)
        clear hsz
        obtain ⟨b5, hb5⟩ : ∃ b, v6.heap.size = b := ⟨_, rfl⟩
        rw [hb5] at hA5 hNE ⊢
        rw [hN] at hL5
        rw [hb5] at hL5
        clear hb5
        generalize v6.alloc (.cells #[.int .i64 0, .int .i64 0, .int .i64 0] 46) = v5 at hA5 hW hA6 ⊢
        refine hK.out _ _ (HS.out _ hW) (fun hHeld => ?_)
        clear hK K
        try simp only [Act.put, List.getElem_toArray, List.getElem_cons_succ, List.getElem_cons_zero, List.setIfInBounds_toArray, List.set_cons_zero, List.set_cons_succ]
        refine wpAnyH_ready (rs := [4]) (by as_aux_lemma => kernel_rfl) (by simp) ?_
        refine AllReadyH.cons (o := _) rfl (fun K hK => ?_) (AllReadyH.nil)
        simp only [List.getElem_toArray, List.getElem_cons_succ, List.getElem_cons_zero]
        go_simp
        refine (HEX.out _).mono ?_
        rintro e w4 ⟨rfl, hb⟩
        replace hA5 := keepH hb (Array.getElem?_eq_some_iff.1 hA5).1 hA5
        replace hA6 := keepH hb (Array.getElem?_eq_some_iff.1 hA6).1 hA6
        have hsz := hW.size
        rw [hN] at hsz
        replace hW := hW.trans (hb.mono hsz)
        clear hb hsz
        refine hK.out _ _ (HS.out _ hW) (fun hHeld => ?_)
        clear hK K
        try simp only [Act.put, List.getElem_toArray, List.getElem_cons_succ, List.getElem_cons_zero, List.setIfInBounds_toArray, List.set_cons_zero, List.set_cons_succ]
        refine wpAnyH_ready (rs := [7]) (by as_aux_lemma => kernel_rfl) (by simp) ?_
        refine AllReadyH.cons (o := _) rfl (fun K hK => ?_) (AllReadyH.nil)
        have hT := trip_cell hA5
        obtain ⟨t0, t1, t2, t3, t4, t5⟩ := hT
        simp only [List.getElem_toArray, List.getElem_cons_succ, List.getElem_cons_zero]
        go_simp
        clear t0 t1 t2 t3 t4 t5
        have hX := grownG_set (grownG_set (grownG_set (World.grownBy.refl w4 (some b5)) 0 (.int .i64 u)) 1 (.int .i64 v)) 2 (.int .i64 z)
        replace hA6 := (hX.block b6 (Array.getElem?_eq_some_iff.1 hA6).1 (fun e => by cases e; exact hNE rfl)).trans hA6
        replace hA5 := set3_heap (u := .int .i64 u) (v := .int .i64 v) (s := .int .i64 z) hA5
        replace hW := below_set3 (x := .int .i64 u) (y := .int .i64 v) (z := .int .i64 z) hW hL5
        clear hX
        generalize ((w4.setCell ⟨b5, 0, none⟩ (.int .i64 u)).setCell ⟨b5, 1, none⟩ (.int .i64 v)).setCell ⟨b5, 2, none⟩ (.int .i64 z) = v7 at hA5 hA6 hW ⊢
        refine hK.out _ _ (HS.out _ hW) (fun hHeld => ?_)
        clear hK K
        try simp only [Act.put, List.getElem_toArray, List.getElem_cons_succ, List.getElem_cons_zero, List.setIfInBounds_toArray, List.set_cons_zero, List.set_cons_succ]
        refine wpAnyH_ready (rs := [8]) (by as_aux_lemma => kernel_rfl) (by simp) ?_
        refine AllReadyH.cons (o := _) rfl (fun K hK => ?_) (AllReadyH.nil)
        have t0 := one_cell7 hA6
        have t1 := one_frozen hA6
        simp only [List.getElem_toArray, List.getElem_cons_succ, List.getElem_cons_zero]
        go_simp
        clear t0 t1
        have hX := grownG_set (World.grownBy.refl v7 (some b6)) 0 (.int .i64 E)
        replace hA5 := (hX.block b5 (Array.getElem?_eq_some_iff.1 hA5).1 (fun e => by cases e; exact hNE rfl)).trans hA5
        replace hA6 := one_setCell (u := .int .i64 E) hA6
        replace hW := Below.setCell (p := ⟨b6, 0, none⟩) hW hL6 (.int .i64 E)
        clear hX
        generalize v7.setCell ⟨b6, 0, none⟩ (.int .i64 E) = v8 at hA5 hA6 hW ⊢
        refine hK.out _ _ (HS.out _ hW) (fun hHeld => ?_)
        clear hK K
        try simp only [Act.put, List.getElem_toArray, List.getElem_cons_succ, List.getElem_cons_zero, List.setIfInBounds_toArray, List.set_cons_zero, List.set_cons_succ]
        refine wpAnyH_done (by kernel_rfl) ?_ _
        have t0 := one_cell7 hA6
        obtain ⟨hr1, hr2, hr3⟩ := HR.out _ hW
        obtain ⟨s0, s1, s2, s3⟩ := two_cell hr3
        go_wp2
        have hX := grownG_set (grownG_set (World.grownBy.refl v8 (some (w.heap.size + 1))) 0 (.int .i64 E)) 1 (.func (.func 90) #[] #[.pointer (some ⟨w.heap.size, 0, none⟩), .pointer (some ⟨b5, 0, none⟩), .pointer (some ⟨b6, 0, none⟩)])
        have hq := two_cell (set2_heap (u := .int .i64 E) (v := .func (.func 90) #[] #[.pointer (some ⟨w.heap.size, 0, none⟩), .pointer (some ⟨b5, 0, none⟩), .pointer (some ⟨b6, 0, none⟩)]) hr3)
        refine bodyPost_ret (v := .agg #[.int .i64 E, chrF w.heap.size b5 b6]) (by simp [results, Tryz.results69, go_sem, hq.1, hq.2.1, chrF]) rfl ⟨_, _, _, rfl, HCA.out _ _ _ _ ((hX.block _ (Array.getElem?_eq_some_iff.1 hr2).1 (fun e => by injection e with e; omega)).trans hr2) ((hX.block _ (Array.getElem?_eq_some_iff.1 hA5).1 (fun e => by injection e with e; omega)).trans hA5) ((hX.block _ (Array.getElem?_eq_some_iff.1 hA6).1 (fun e => by injection e with e; omega)).trans hA6), ⟨Nat.le_refl _, by omega, by omega⟩, Below.setCell (p := ⟨w.heap.size + 1, 1, none⟩) (Below.setCell (p := ⟨w.heap.size + 1, 0, none⟩) hr1 (by simp) _) (by simp) _⟩
  · simp only [List.getElem_toArray, List.getElem_cons_succ, List.getElem_cons_zero]
    go_simp
    have hA5 := heap_alloc_new v0 (.cells #[.int .i64 0, .int .i64 0, .int .i64 0] 46)
    have hL5 := hW.size
    have hsz := hW.size
    rw [hN] at hsz
    replace hW := hW.alloc hsz (.cells #[.int .i64 0, .int .i64 0, .int .i64 0] 46)
    clear hsz
    obtain ⟨b5, hb5⟩ : ∃ b, v0.heap.size = b := ⟨_, rfl⟩
    rw [hb5] at hA5 ⊢
    rw [hN] at hL5
    rw [hb5] at hL5
    clear hb5
    generalize v0.alloc (.cells #[.int .i64 0, .int .i64 0, .int .i64 0] 46) = v5 at hA5 hW ⊢
    refine hK.out _ _ (HS.out _ hW) (fun hHeld => ?_)
    clear hK K
    try simp only [Act.put, List.getElem_toArray, List.getElem_cons_succ, List.getElem_cons_zero, List.setIfInBounds_toArray, List.set_cons_zero, List.set_cons_succ]
    refine wpAnyH_ready (rs := [2, 6]) (by as_aux_lemma => kernel_rfl) (by simp) ?_
    refine AllReadyH.cons (o := _) rfl (fun K hK => ?_) (AllReadyH.cons (o := _) rfl (fun K hK => ?_) (AllReadyH.nil))
    · simp only [List.getElem_toArray, List.getElem_cons_succ, List.getElem_cons_zero]
      go_simp
      refine (HPL.out _).mono ?_
      rintro e w2 ⟨rfl, hb⟩
      replace hA5 := keepH hb (Array.getElem?_eq_some_iff.1 hA5).1 hA5
      have hsz := hW.size
      rw [hN] at hsz
      replace hW := hW.trans (hb.mono hsz)
      clear hb hsz
      refine hK.out _ _ (HS.out _ hW) (fun hHeld => ?_)
      clear hK K
      try simp only [Act.put, List.getElem_toArray, List.getElem_cons_succ, List.getElem_cons_zero, List.setIfInBounds_toArray, List.set_cons_zero, List.set_cons_succ]
      refine wpAnyH_ready (rs := [4, 6]) (by as_aux_lemma => kernel_rfl) (by simp) ?_
      refine AllReadyH.cons (o := _) rfl (fun K hK => ?_) (AllReadyH.cons (o := _) rfl (fun K hK => ?_) (AllReadyH.nil))
      · simp only [List.getElem_toArray, List.getElem_cons_succ, List.getElem_cons_zero]
        go_simp
        refine (HEX.out _).mono ?_
        rintro e w4 ⟨rfl, hb⟩
        replace hA5 := keepH hb (Array.getElem?_eq_some_iff.1 hA5).1 hA5
        have hsz := hW.size
        rw [hN] at hsz
        replace hW := hW.trans (hb.mono hsz)
        clear hb hsz
        refine hK.out _ _ (HS.out _ hW) (fun hHeld => ?_)
        clear hK K
        try simp only [Act.put, List.getElem_toArray, List.getElem_cons_succ, List.getElem_cons_zero, List.setIfInBounds_toArray, List.set_cons_zero, List.set_cons_succ]
        refine wpAnyH_ready (rs := [6]) (by as_aux_lemma => kernel_rfl) (by simp) ?_
        refine AllReadyH.cons (o := _) rfl (fun K hK => ?_) (AllReadyH.nil)
        simp only [List.getElem_toArray, List.getElem_cons_succ, List.getElem_cons_zero]
        go_simp
        have hA6 := heap_alloc_new w4 (.cells #[.int .i64 0] 3)
        have hL6 := hW.size
        have hNE : b5 ≠ w4.heap.size := Nat.ne_of_lt (Array.getElem?_eq_some_iff.1 hA5).1
        replace hA5 := keepH (Joins.below_alloc1 w4 (.cells #[.int .i64 0] 3)) (Array.getElem?_eq_some_iff.1 hA5).1 hA5
        have hsz := hW.size
        rw [hN] at hsz
        replace hW := hW.alloc hsz (.cells #[.int .i64 0] 3)
        clear hsz
        obtain ⟨b6, hb6⟩ : ∃ b, w4.heap.size = b := ⟨_, rfl⟩
        rw [hb6] at hA6 hNE ⊢
        rw [hN] at hL6
        rw [hb6] at hL6
        clear hb6
        generalize w4.alloc (.cells #[.int .i64 0] 3) = v6 at hA6 hW hA5 ⊢
        refine hK.out _ _ (HS.out _ hW) (fun hHeld => ?_)
        clear hK K
        try simp only [Act.put, List.getElem_toArray, List.getElem_cons_succ, List.getElem_cons_zero, List.setIfInBounds_toArray, List.set_cons_zero, List.set_cons_succ]
        refine wpAnyH_ready (rs := [7]) (by as_aux_lemma => kernel_rfl) (by simp) ?_
        refine AllReadyH.cons (o := _) rfl (fun K hK => ?_) (AllReadyH.nil)
        have hT := trip_cell hA5
        obtain ⟨t0, t1, t2, t3, t4, t5⟩ := hT
        simp only [List.getElem_toArray, List.getElem_cons_succ, List.getElem_cons_zero]
        go_simp
        clear t0 t1 t2 t3 t4 t5
        have hX := grownG_set (grownG_set (grownG_set (World.grownBy.refl v6 (some b5)) 0 (.int .i64 u)) 1 (.int .i64 v)) 2 (.int .i64 z)
        replace hA6 := (hX.block b6 (Array.getElem?_eq_some_iff.1 hA6).1 (fun e => by cases e; exact hNE rfl)).trans hA6
        replace hA5 := set3_heap (u := .int .i64 u) (v := .int .i64 v) (s := .int .i64 z) hA5
        replace hW := below_set3 (x := .int .i64 u) (y := .int .i64 v) (z := .int .i64 z) hW hL5
        clear hX
        generalize ((v6.setCell ⟨b5, 0, none⟩ (.int .i64 u)).setCell ⟨b5, 1, none⟩ (.int .i64 v)).setCell ⟨b5, 2, none⟩ (.int .i64 z) = v7 at hA5 hA6 hW ⊢
        refine hK.out _ _ (HS.out _ hW) (fun hHeld => ?_)
        clear hK K
        try simp only [Act.put, List.getElem_toArray, List.getElem_cons_succ, List.getElem_cons_zero, List.setIfInBounds_toArray, List.set_cons_zero, List.set_cons_succ]
        refine wpAnyH_ready (rs := [8]) (by as_aux_lemma => kernel_rfl) (by simp) ?_
        refine AllReadyH.cons (o := _) rfl (fun K hK => ?_) (AllReadyH.nil)
        have t0 := one_cell7 hA6
        have t1 := one_frozen hA6
        simp only [List.getElem_toArray, List.getElem_cons_succ, List.getElem_cons_zero]
        go_simp
        clear t0 t1
        have hX := grownG_set (World.grownBy.refl v7 (some b6)) 0 (.int .i64 E)
        replace hA5 := (hX.block b5 (Array.getElem?_eq_some_iff.1 hA5).1 (fun e => by cases e; exact hNE rfl)).trans hA5
        replace hA6 := one_setCell (u := .int .i64 E) hA6
        replace hW := Below.setCell (p := ⟨b6, 0, none⟩) hW hL6 (.int .i64 E)
        clear hX
        generalize v7.setCell ⟨b6, 0, none⟩ (.int .i64 E) = v8 at hA5 hA6 hW ⊢
        refine hK.out _ _ (HS.out _ hW) (fun hHeld => ?_)
        clear hK K
        try simp only [Act.put, List.getElem_toArray, List.getElem_cons_succ, List.getElem_cons_zero, List.setIfInBounds_toArray, List.set_cons_zero, List.set_cons_succ]
        refine wpAnyH_done (by kernel_rfl) ?_ _
        have t0 := one_cell7 hA6
        obtain ⟨hr1, hr2, hr3⟩ := HR.out _ hW
        obtain ⟨s0, s1, s2, s3⟩ := two_cell hr3
        go_wp2
        have hX := grownG_set (grownG_set (World.grownBy.refl v8 (some (w.heap.size + 1))) 0 (.int .i64 E)) 1 (.func (.func 90) #[] #[.pointer (some ⟨w.heap.size, 0, none⟩), .pointer (some ⟨b5, 0, none⟩), .pointer (some ⟨b6, 0, none⟩)])
        have hq := two_cell (set2_heap (u := .int .i64 E) (v := .func (.func 90) #[] #[.pointer (some ⟨w.heap.size, 0, none⟩), .pointer (some ⟨b5, 0, none⟩), .pointer (some ⟨b6, 0, none⟩)]) hr3)
        refine bodyPost_ret (v := .agg #[.int .i64 E, chrF w.heap.size b5 b6]) (by simp [results, Tryz.results69, go_sem, hq.1, hq.2.1, chrF]) rfl ⟨_, _, _, rfl, HCA.out _ _ _ _ ((hX.block _ (Array.getElem?_eq_some_iff.1 hr2).1 (fun e => by injection e with e; omega)).trans hr2) ((hX.block _ (Array.getElem?_eq_some_iff.1 hA5).1 (fun e => by injection e with e; omega)).trans hA5) ((hX.block _ (Array.getElem?_eq_some_iff.1 hA6).1 (fun e => by injection e with e; omega)).trans hA6), ⟨Nat.le_refl _, by omega, by omega⟩, Below.setCell (p := ⟨w.heap.size + 1, 1, none⟩) (Below.setCell (p := ⟨w.heap.size + 1, 0, none⟩) hr1 (by simp) _) (by simp) _⟩
      · simp only [List.getElem_toArray, List.getElem_cons_succ, List.getElem_cons_zero]
        go_simp
        have hA6 := heap_alloc_new w2 (.cells #[.int .i64 0] 3)
        have hL6 := hW.size
        have hNE : b5 ≠ w2.heap.size := Nat.ne_of_lt (Array.getElem?_eq_some_iff.1 hA5).1
        replace hA5 := keepH (Joins.below_alloc1 w2 (.cells #[.int .i64 0] 3)) (Array.getElem?_eq_some_iff.1 hA5).1 hA5
        have hsz := hW.size
        rw [hN] at hsz
        replace hW := hW.alloc hsz (.cells #[.int .i64 0] 3)
        clear hsz
        obtain ⟨b6, hb6⟩ : ∃ b, w2.heap.size = b := ⟨_, rfl⟩
        rw [hb6] at hA6 hNE ⊢
        rw [hN] at hL6
        rw [hb6] at hL6
        clear hb6
        generalize w2.alloc (.cells #[.int .i64 0] 3) = v6 at hA6 hW hA5 ⊢
        refine hK.out _ _ (HS.out _ hW) (fun hHeld => ?_)
        clear hK K
        try simp only [Act.put, List.getElem_toArray, List.getElem_cons_succ, List.getElem_cons_zero, List.setIfInBounds_toArray, List.set_cons_zero, List.set_cons_succ]
        refine wpAnyH_ready (rs := [4]) (by as_aux_lemma => kernel_rfl) (by simp) ?_
        refine AllReadyH.cons (o := _) rfl (fun K hK => ?_) (AllReadyH.nil)
        simp only [List.getElem_toArray, List.getElem_cons_succ, List.getElem_cons_zero]
        go_simp
        refine (HEX.out _).mono ?_
        rintro e w4 ⟨rfl, hb⟩
        replace hA5 := keepH hb (Array.getElem?_eq_some_iff.1 hA5).1 hA5
        replace hA6 := keepH hb (Array.getElem?_eq_some_iff.1 hA6).1 hA6
        have hsz := hW.size
        rw [hN] at hsz
        replace hW := hW.trans (hb.mono hsz)
        clear hb hsz
        refine hK.out _ _ (HS.out _ hW) (fun hHeld => ?_)
        clear hK K
        try simp only [Act.put, List.getElem_toArray, List.getElem_cons_succ, List.getElem_cons_zero, List.setIfInBounds_toArray, List.set_cons_zero, List.set_cons_succ]
        refine wpAnyH_ready (rs := [7]) (by as_aux_lemma => kernel_rfl) (by simp) ?_
        refine AllReadyH.cons (o := _) rfl (fun K hK => ?_) (AllReadyH.nil)
        have hT := trip_cell hA5
        obtain ⟨t0, t1, t2, t3, t4, t5⟩ := hT
        simp only [List.getElem_toArray, List.getElem_cons_succ, List.getElem_cons_zero]
        go_simp
        clear t0 t1 t2 t3 t4 t5
        have hX := grownG_set (grownG_set (grownG_set (World.grownBy.refl w4 (some b5)) 0 (.int .i64 u)) 1 (.int .i64 v)) 2 (.int .i64 z)
        replace hA6 := (hX.block b6 (Array.getElem?_eq_some_iff.1 hA6).1 (fun e => by cases e; exact hNE rfl)).trans hA6
        replace hA5 := set3_heap (u := .int .i64 u) (v := .int .i64 v) (s := .int .i64 z) hA5
        replace hW := below_set3 (x := .int .i64 u) (y := .int .i64 v) (z := .int .i64 z) hW hL5
        clear hX
        generalize ((w4.setCell ⟨b5, 0, none⟩ (.int .i64 u)).setCell ⟨b5, 1, none⟩ (.int .i64 v)).setCell ⟨b5, 2, none⟩ (.int .i64 z) = v7 at hA5 hA6 hW ⊢
        refine hK.out _ _ (HS.out _ hW) (fun hHeld => ?_)
        clear hK K
        try simp only [Act.put, List.getElem_toArray, List.getElem_cons_succ, List.getElem_cons_zero, List.setIfInBounds_toArray, List.set_cons_zero, List.set_cons_succ]
        refine wpAnyH_ready (rs := [8]) (by as_aux_lemma => kernel_rfl) (by simp) ?_
        refine AllReadyH.cons (o := _) rfl (fun K hK => ?_) (AllReadyH.nil)
        have t0 := one_cell7 hA6
        have t1 := one_frozen hA6
        simp only [List.getElem_toArray, List.getElem_cons_succ, List.getElem_cons_zero]
        go_simp
        clear t0 t1
        have hX := grownG_set (World.grownBy.refl v7 (some b6)) 0 (.int .i64 E)
        replace hA5 := (hX.block b5 (Array.getElem?_eq_some_iff.1 hA5).1 (fun e => by cases e; exact hNE rfl)).trans hA5
        replace hA6 := one_setCell (u := .int .i64 E) hA6
        replace hW := Below.setCell (p := ⟨b6, 0, none⟩) hW hL6 (.int .i64 E)
        clear hX
        generalize v7.setCell ⟨b6, 0, none⟩ (.int .i64 E) = v8 at hA5 hA6 hW ⊢
        refine hK.out _ _ (HS.out _ hW) (fun hHeld => ?_)
        clear hK K
        try simp only [Act.put, List.getElem_toArray, List.getElem_cons_succ, List.getElem_cons_zero, List.setIfInBounds_toArray, List.set_cons_zero, List.set_cons_succ]
        refine wpAnyH_done (by kernel_rfl) ?_ _
        have t0 := one_cell7 hA6
        obtain ⟨hr1, hr2, hr3⟩ := HR.out _ hW
        obtain ⟨s0, s1, s2, s3⟩ := two_cell hr3
        go_wp2
        have hX := grownG_set (grownG_set (World.grownBy.refl v8 (some (w.heap.size + 1))) 0 (.int .i64 E)) 1 (.func (.func 90) #[] #[.pointer (some ⟨w.heap.size, 0, none⟩), .pointer (some ⟨b5, 0, none⟩), .pointer (some ⟨b6, 0, none⟩)])
        have hq := two_cell (set2_heap (u := .int .i64 E) (v := .func (.func 90) #[] #[.pointer (some ⟨w.heap.size, 0, none⟩), .pointer (some ⟨b5, 0, none⟩), .pointer (some ⟨b6, 0, none⟩)]) hr3)
        refine bodyPost_ret (v := .agg #[.int .i64 E, chrF w.heap.size b5 b6]) (by simp [results, Tryz.results69, go_sem, hq.1, hq.2.1, chrF]) rfl ⟨_, _, _, rfl, HCA.out _ _ _ _ ((hX.block _ (Array.getElem?_eq_some_iff.1 hr2).1 (fun e => by injection e with e; omega)).trans hr2) ((hX.block _ (Array.getElem?_eq_some_iff.1 hA5).1 (fun e => by injection e with e; omega)).trans hA5) ((hX.block _ (Array.getElem?_eq_some_iff.1 hA6).1 (fun e => by injection e with e; omega)).trans hA6), ⟨Nat.le_refl _, by omega, by omega⟩, Below.setCell (p := ⟨w.heap.size + 1, 1, none⟩) (Below.setCell (p := ⟨w.heap.size + 1, 0, none⟩) hr1 (by simp) _) (by simp) _⟩
    · simp only [List.getElem_toArray, List.getElem_cons_succ, List.getElem_cons_zero]
      go_simp
      have hA6 := heap_alloc_new v5 (.cells #[.int .i64 0] 3)
      have hL6 := hW.size
      have hNE : b5 ≠ v5.heap.size := Nat.ne_of_lt (Array.getElem?_eq_some_iff.1 hA5).1
      replace hA5 := keepH (Joins.below_alloc1 v5 (.cells #[.int .i64 0] 3)) (Array.getElem?_eq_some_iff.1 hA5).1 hA5
      have hsz := hW.size
      rw [hN] at hsz
      replace hW := hW.alloc hsz (.cells #[.int .i64 0] 3)
      clear hsz
      obtain ⟨b6, hb6⟩ : ∃ b, v5.heap.size = b := ⟨_, rfl⟩
      rw [hb6] at hA6 hNE ⊢
      rw [hN] at hL6
      rw [hb6] at hL6
      clear hb6
      generalize v5.alloc (.cells #[.int .i64 0] 3) = v6 at hA6 hW hA5 ⊢
      refine hK.out _ _ (HS.out _ hW) (fun hHeld => ?_)
      clear hK K
      try simp only [Act.put, List.getElem_toArray, List.getElem_cons_succ, List.getElem_cons_zero, List.setIfInBounds_toArray, List.set_cons_zero, List.set_cons_succ]
      refine wpAnyH_ready (rs := [2]) (by as_aux_lemma => kernel_rfl) (by simp) ?_
      refine AllReadyH.cons (o := _) rfl (fun K hK => ?_) (AllReadyH.nil)
      simp only [List.getElem_toArray, List.getElem_cons_succ, List.getElem_cons_zero]
      go_simp
      refine (HPL.out _).mono ?_
      rintro e w2 ⟨rfl, hb⟩
      replace hA5 := keepH hb (Array.getElem?_eq_some_iff.1 hA5).1 hA5
      replace hA6 := keepH hb (Array.getElem?_eq_some_iff.1 hA6).1 hA6
      have hsz := hW.size
      rw [hN] at hsz
      replace hW := hW.trans (hb.mono hsz)
      clear hb hsz
      refine hK.out _ _ (HS.out _ hW) (fun hHeld => ?_)
      clear hK K
      try simp only [Act.put, List.getElem_toArray, List.getElem_cons_succ, List.getElem_cons_zero, List.setIfInBounds_toArray, List.set_cons_zero, List.set_cons_succ]
      refine wpAnyH_ready (rs := [4]) (by as_aux_lemma => kernel_rfl) (by simp) ?_
      refine AllReadyH.cons (o := _) rfl (fun K hK => ?_) (AllReadyH.nil)
      simp only [List.getElem_toArray, List.getElem_cons_succ, List.getElem_cons_zero]
      go_simp
      refine (HEX.out _).mono ?_
      rintro e w4 ⟨rfl, hb⟩
      replace hA5 := keepH hb (Array.getElem?_eq_some_iff.1 hA5).1 hA5
      replace hA6 := keepH hb (Array.getElem?_eq_some_iff.1 hA6).1 hA6
      have hsz := hW.size
      rw [hN] at hsz
      replace hW := hW.trans (hb.mono hsz)
      clear hb hsz
      refine hK.out _ _ (HS.out _ hW) (fun hHeld => ?_)
      clear hK K
      try simp only [Act.put, List.getElem_toArray, List.getElem_cons_succ, List.getElem_cons_zero, List.setIfInBounds_toArray, List.set_cons_zero, List.set_cons_succ]
      refine wpAnyH_ready (rs := [7]) (by as_aux_lemma => kernel_rfl) (by simp) ?_
      refine AllReadyH.cons (o := _) rfl (fun K hK => ?_) (AllReadyH.nil)
      have hT := trip_cell hA5
      obtain ⟨t0, t1, t2, t3, t4, t5⟩ := hT
      simp only [List.getElem_toArray, List.getElem_cons_succ, List.getElem_cons_zero]
      go_simp
      clear t0 t1 t2 t3 t4 t5
      have hX := grownG_set (grownG_set (grownG_set (World.grownBy.refl w4 (some b5)) 0 (.int .i64 u)) 1 (.int .i64 v)) 2 (.int .i64 z)
      replace hA6 := (hX.block b6 (Array.getElem?_eq_some_iff.1 hA6).1 (fun e => by cases e; exact hNE rfl)).trans hA6
      replace hA5 := set3_heap (u := .int .i64 u) (v := .int .i64 v) (s := .int .i64 z) hA5
      replace hW := below_set3 (x := .int .i64 u) (y := .int .i64 v) (z := .int .i64 z) hW hL5
      clear hX
      generalize ((w4.setCell ⟨b5, 0, none⟩ (.int .i64 u)).setCell ⟨b5, 1, none⟩ (.int .i64 v)).setCell ⟨b5, 2, none⟩ (.int .i64 z) = v7 at hA5 hA6 hW ⊢
      refine hK.out _ _ (HS.out _ hW) (fun hHeld => ?_)
      clear hK K
      try simp only [Act.put, List.getElem_toArray, List.getElem_cons_succ, List.getElem_cons_zero, List.setIfInBounds_toArray, List.set_cons_zero, List.set_cons_succ]
      refine wpAnyH_ready (rs := [8]) (by as_aux_lemma => kernel_rfl) (by simp) ?_
      refine AllReadyH.cons (o := _) rfl (fun K hK => ?_) (AllReadyH.nil)
      have t0 := one_cell7 hA6
      have t1 := one_frozen hA6
      simp only [List.getElem_toArray, List.getElem_cons_succ, List.getElem_cons_zero]
      go_simp
      clear t0 t1
      have hX := grownG_set (World.grownBy.refl v7 (some b6)) 0 (.int .i64 E)
      replace hA5 := (hX.block b5 (Array.getElem?_eq_some_iff.1 hA5).1 (fun e => by cases e; exact hNE rfl)).trans hA5
      replace hA6 := one_setCell (u := .int .i64 E) hA6
      replace hW := Below.setCell (p := ⟨b6, 0, none⟩) hW hL6 (.int .i64 E)
      clear hX
      generalize v7.setCell ⟨b6, 0, none⟩ (.int .i64 E) = v8 at hA5 hA6 hW ⊢
      refine hK.out _ _ (HS.out _ hW) (fun hHeld => ?_)
      clear hK K
      try simp only [Act.put, List.getElem_toArray, List.getElem_cons_succ, List.getElem_cons_zero, List.setIfInBounds_toArray, List.set_cons_zero, List.set_cons_succ]
      refine wpAnyH_done (by kernel_rfl) ?_ _
      have t0 := one_cell7 hA6
      obtain ⟨hr1, hr2, hr3⟩ := HR.out _ hW
      obtain ⟨s0, s1, s2, s3⟩ := two_cell hr3
      go_wp2
      have hX := grownG_set (grownG_set (World.grownBy.refl v8 (some (w.heap.size + 1))) 0 (.int .i64 E)) 1 (.func (.func 90) #[] #[.pointer (some ⟨w.heap.size, 0, none⟩), .pointer (some ⟨b5, 0, none⟩), .pointer (some ⟨b6, 0, none⟩)])
      have hq := two_cell (set2_heap (u := .int .i64 E) (v := .func (.func 90) #[] #[.pointer (some ⟨w.heap.size, 0, none⟩), .pointer (some ⟨b5, 0, none⟩), .pointer (some ⟨b6, 0, none⟩)]) hr3)
      refine bodyPost_ret (v := .agg #[.int .i64 E, chrF w.heap.size b5 b6]) (by simp [results, Tryz.results69, go_sem, hq.1, hq.2.1, chrF]) rfl ⟨_, _, _, rfl, HCA.out _ _ _ _ ((hX.block _ (Array.getElem?_eq_some_iff.1 hr2).1 (fun e => by injection e with e; omega)).trans hr2) ((hX.block _ (Array.getElem?_eq_some_iff.1 hA5).1 (fun e => by injection e with e; omega)).trans hA5) ((hX.block _ (Array.getElem?_eq_some_iff.1 hA6).1 (fun e => by injection e with e; omega)).trans hA6), ⟨Nat.le_refl _, by omega, by omega⟩, Below.setCell (p := ⟨w.heap.size + 1, 1, none⟩) (Below.setCell (p := ⟨w.heap.size + 1, 0, none⟩) hr1 (by simp) _) (by simp) _⟩
  · simp only [List.getElem_toArray, List.getElem_cons_succ, List.getElem_cons_zero]
    go_simp
    have hA6 := heap_alloc_new v0 (.cells #[.int .i64 0] 3)
    have hL6 := hW.size
    have hsz := hW.size
    rw [hN] at hsz
    replace hW := hW.alloc hsz (.cells #[.int .i64 0] 3)
    clear hsz
    obtain ⟨b6, hb6⟩ : ∃ b, v0.heap.size = b := ⟨_, rfl⟩
    rw [hb6] at hA6 ⊢
    rw [hN] at hL6
    rw [hb6] at hL6
    clear hb6
    generalize v0.alloc (.cells #[.int .i64 0] 3) = v6 at hA6 hW ⊢
    refine hK.out _ _ (HS.out _ hW) (fun hHeld => ?_)
    clear hK K
    try simp only [Act.put, List.getElem_toArray, List.getElem_cons_succ, List.getElem_cons_zero, List.setIfInBounds_toArray, List.set_cons_zero, List.set_cons_succ]
    refine wpAnyH_ready (rs := [2, 5]) (by as_aux_lemma => kernel_rfl) (by simp) ?_
    refine AllReadyH.cons (o := _) rfl (fun K hK => ?_) (AllReadyH.cons (o := _) rfl (fun K hK => ?_) (AllReadyH.nil))
    · simp only [List.getElem_toArray, List.getElem_cons_succ, List.getElem_cons_zero]
      go_simp
      refine (HPL.out _).mono ?_
      rintro e w2 ⟨rfl, hb⟩
      replace hA6 := keepH hb (Array.getElem?_eq_some_iff.1 hA6).1 hA6
      have hsz := hW.size
      rw [hN] at hsz
      replace hW := hW.trans (hb.mono hsz)
      clear hb hsz
      refine hK.out _ _ (HS.out _ hW) (fun hHeld => ?_)
      clear hK K
      try simp only [Act.put, List.getElem_toArray, List.getElem_cons_succ, List.getElem_cons_zero, List.setIfInBounds_toArray, List.set_cons_zero, List.set_cons_succ]
      refine wpAnyH_ready (rs := [4, 5]) (by as_aux_lemma => kernel_rfl) (by simp) ?_
      refine AllReadyH.cons (o := _) rfl (fun K hK => ?_) (AllReadyH.cons (o := _) rfl (fun K hK => ?_) (AllReadyH.nil))
      · simp only [List.getElem_toArray, List.getElem_cons_succ, List.getElem_cons_zero]
        go_simp
        refine (HEX.out _).mono ?_
        rintro e w4 ⟨rfl, hb⟩
        replace hA6 := keepH hb (Array.getElem?_eq_some_iff.1 hA6).1 hA6
        have hsz := hW.size
        rw [hN] at hsz
        replace hW := hW.trans (hb.mono hsz)
        clear hb hsz
        refine hK.out _ _ (HS.out _ hW) (fun hHeld => ?_)
        clear hK K
        try simp only [Act.put, List.getElem_toArray, List.getElem_cons_succ, List.getElem_cons_zero, List.setIfInBounds_toArray, List.set_cons_zero, List.set_cons_succ]
        refine wpAnyH_ready (rs := [5]) (by as_aux_lemma => kernel_rfl) (by simp) ?_
        refine AllReadyH.cons (o := _) rfl (fun K hK => ?_) (AllReadyH.nil)
        simp only [List.getElem_toArray, List.getElem_cons_succ, List.getElem_cons_zero]
        go_simp
        have hA5 := heap_alloc_new w4 (.cells #[.int .i64 0, .int .i64 0, .int .i64 0] 46)
        have hL5 := hW.size
        have hNE : b6 ≠ w4.heap.size := Nat.ne_of_lt (Array.getElem?_eq_some_iff.1 hA6).1
        replace hA6 := keepH (Joins.below_alloc1 w4 (.cells #[.int .i64 0, .int .i64 0, .int .i64 0] 46)) (Array.getElem?_eq_some_iff.1 hA6).1 hA6
        have hsz := hW.size
        rw [hN] at hsz
        replace hW := hW.alloc hsz (.cells #[.int .i64 0, .int .i64 0, .int .i64 0] 46)
        clear hsz
        obtain ⟨b5, hb5⟩ : ∃ b, w4.heap.size = b := ⟨_, rfl⟩
        rw [hb5] at hA5 hNE ⊢
        rw [hN] at hL5
        rw [hb5] at hL5
        clear hb5
        generalize w4.alloc (.cells #[.int .i64 0, .int .i64 0, .int .i64 0] 46) = v5 at hA5 hW hA6 ⊢
        refine hK.out _ _ (HS.out _ hW) (fun hHeld => ?_)
        clear hK K
        try simp only [Act.put, List.getElem_toArray, List.getElem_cons_succ, List.getElem_cons_zero, List.setIfInBounds_toArray, List.set_cons_zero, List.set_cons_succ]
        refine wpAnyH_ready (rs := [7]) (by as_aux_lemma => kernel_rfl) (by simp) ?_
        refine AllReadyH.cons (o := _) rfl (fun K hK => ?_) (AllReadyH.nil)
        have hT := trip_cell hA5
        obtain ⟨t0, t1, t2, t3, t4, t5⟩ := hT
        simp only [List.getElem_toArray, List.getElem_cons_succ, List.getElem_cons_zero]
        go_simp
        clear t0 t1 t2 t3 t4 t5
        have hX := grownG_set (grownG_set (grownG_set (World.grownBy.refl v5 (some b5)) 0 (.int .i64 u)) 1 (.int .i64 v)) 2 (.int .i64 z)
        replace hA6 := (hX.block b6 (Array.getElem?_eq_some_iff.1 hA6).1 (fun e => by cases e; exact hNE rfl)).trans hA6
        replace hA5 := set3_heap (u := .int .i64 u) (v := .int .i64 v) (s := .int .i64 z) hA5
        replace hW := below_set3 (x := .int .i64 u) (y := .int .i64 v) (z := .int .i64 z) hW hL5
        clear hX
        generalize ((v5.setCell ⟨b5, 0, none⟩ (.int .i64 u)).setCell ⟨b5, 1, none⟩ (.int .i64 v)).setCell ⟨b5, 2, none⟩ (.int .i64 z) = v7 at hA5 hA6 hW ⊢
        refine hK.out _ _ (HS.out _ hW) (fun hHeld => ?_)
        clear hK K
        try simp only [Act.put, List.getElem_toArray, List.getElem_cons_succ, List.getElem_cons_zero, List.setIfInBounds_toArray, List.set_cons_zero, List.set_cons_succ]
        refine wpAnyH_ready (rs := [8]) (by as_aux_lemma => kernel_rfl) (by simp) ?_
        refine AllReadyH.cons (o := _) rfl (fun K hK => ?_) (AllReadyH.nil)
        have t0 := one_cell7 hA6
        have t1 := one_frozen hA6
        simp only [List.getElem_toArray, List.getElem_cons_succ, List.getElem_cons_zero]
        go_simp
        clear t0 t1
        have hX := grownG_set (World.grownBy.refl v7 (some b6)) 0 (.int .i64 E)
        replace hA5 := (hX.block b5 (Array.getElem?_eq_some_iff.1 hA5).1 (fun e => by cases e; exact hNE rfl)).trans hA5
        replace hA6 := one_setCell (u := .int .i64 E) hA6
        replace hW := Below.setCell (p := ⟨b6, 0, none⟩) hW hL6 (.int .i64 E)
        clear hX
        generalize v7.setCell ⟨b6, 0, none⟩ (.int .i64 E) = v8 at hA5 hA6 hW ⊢
        refine hK.out _ _ (HS.out _ hW) (fun hHeld => ?_)
        clear hK K
        try simp only [Act.put, List.getElem_toArray, List.getElem_cons_succ, List.getElem_cons_zero, List.setIfInBounds_toArray, List.set_cons_zero, List.set_cons_succ]
        refine wpAnyH_done (by kernel_rfl) ?_ _
        have t0 := one_cell7 hA6
        obtain ⟨hr1, hr2, hr3⟩ := HR.out _ hW
        obtain ⟨s0, s1, s2, s3⟩ := two_cell hr3
        go_wp2
        have hX := grownG_set (grownG_set (World.grownBy.refl v8 (some (w.heap.size + 1))) 0 (.int .i64 E)) 1 (.func (.func 90) #[] #[.pointer (some ⟨w.heap.size, 0, none⟩), .pointer (some ⟨b5, 0, none⟩), .pointer (some ⟨b6, 0, none⟩)])
        have hq := two_cell (set2_heap (u := .int .i64 E) (v := .func (.func 90) #[] #[.pointer (some ⟨w.heap.size, 0, none⟩), .pointer (some ⟨b5, 0, none⟩), .pointer (some ⟨b6, 0, none⟩)]) hr3)
        refine bodyPost_ret (v := .agg #[.int .i64 E, chrF w.heap.size b5 b6]) (by simp [results, Tryz.results69, go_sem, hq.1, hq.2.1, chrF]) rfl ⟨_, _, _, rfl, HCA.out _ _ _ _ ((hX.block _ (Array.getElem?_eq_some_iff.1 hr2).1 (fun e => by injection e with e; omega)).trans hr2) ((hX.block _ (Array.getElem?_eq_some_iff.1 hA5).1 (fun e => by injection e with e; omega)).trans hA5) ((hX.block _ (Array.getElem?_eq_some_iff.1 hA6).1 (fun e => by injection e with e; omega)).trans hA6), ⟨Nat.le_refl _, by omega, by omega⟩, Below.setCell (p := ⟨w.heap.size + 1, 1, none⟩) (Below.setCell (p := ⟨w.heap.size + 1, 0, none⟩) hr1 (by simp) _) (by simp) _⟩
      · simp only [List.getElem_toArray, List.getElem_cons_succ, List.getElem_cons_zero]
        go_simp
        have hA5 := heap_alloc_new w2 (.cells #[.int .i64 0, .int .i64 0, .int .i64 0] 46)
        have hL5 := hW.size
        have hNE : b6 ≠ w2.heap.size := Nat.ne_of_lt (Array.getElem?_eq_some_iff.1 hA6).1
        replace hA6 := keepH (Joins.below_alloc1 w2 (.cells #[.int .i64 0, .int .i64 0, .int .i64 0] 46)) (Array.getElem?_eq_some_iff.1 hA6).1 hA6
        have hsz := hW.size
        rw [hN] at hsz
        replace hW := hW.alloc hsz (.cells #[.int .i64 0, .int .i64 0, .int .i64 0] 46)
        clear hsz
        obtain ⟨b5, hb5⟩ : ∃ b, w2.heap.size = b := ⟨_, rfl⟩
        rw [hb5] at hA5 hNE ⊢
        rw [hN] at hL5
        rw [hb5] at hL5
        clear hb5
        generalize w2.alloc (.cells #[.int .i64 0, .int .i64 0, .int .i64 0] 46) = v5 at hA5 hW hA6 ⊢
        refine hK.out _ _ (HS.out _ hW) (fun hHeld => ?_)
        clear hK K
        try simp only [Act.put, List.getElem_toArray, List.getElem_cons_succ, List.getElem_cons_zero, List.setIfInBounds_toArray, List.set_cons_zero, List.set_cons_succ]
        refine wpAnyH_ready (rs := [4]) (by as_aux_lemma => kernel_rfl) (by simp) ?_
        refine AllReadyH.cons (o := _) rfl (fun K hK => ?_) (AllReadyH.nil)
        simp only [List.getElem_toArray, List.getElem_cons_succ, List.getElem_cons_zero]
        go_simp
        refine (HEX.out _).mono ?_
        rintro e w4 ⟨rfl, hb⟩
        replace hA5 := keepH hb (Array.getElem?_eq_some_iff.1 hA5).1 hA5
        replace hA6 := keepH hb (Array.getElem?_eq_some_iff.1 hA6).1 hA6
        have hsz := hW.size
        rw [hN] at hsz
        replace hW := hW.trans (hb.mono hsz)
        clear hb hsz
        refine hK.out _ _ (HS.out _ hW) (fun hHeld => ?_)
        clear hK K
        try simp only [Act.put, List.getElem_toArray, List.getElem_cons_succ, List.getElem_cons_zero, List.setIfInBounds_toArray, List.set_cons_zero, List.set_cons_succ]
        refine wpAnyH_ready (rs := [7]) (by as_aux_lemma => kernel_rfl) (by simp) ?_
        refine AllReadyH.cons (o := _) rfl (fun K hK => ?_) (AllReadyH.nil)
        have hT := trip_cell hA5
        obtain ⟨t0, t1, t2, t3, t4, t5⟩ := hT
        simp only [List.getElem_toArray, List.getElem_cons_succ, List.getElem_cons_zero]
        go_simp
        clear t0 t1 t2 t3 t4 t5
        have hX := grownG_set (grownG_set (grownG_set (World.grownBy.refl w4 (some b5)) 0 (.int .i64 u)) 1 (.int .i64 v)) 2 (.int .i64 z)
        replace hA6 := (hX.block b6 (Array.getElem?_eq_some_iff.1 hA6).1 (fun e => by cases e; exact hNE rfl)).trans hA6
        replace hA5 := set3_heap (u := .int .i64 u) (v := .int .i64 v) (s := .int .i64 z) hA5
        replace hW := below_set3 (x := .int .i64 u) (y := .int .i64 v) (z := .int .i64 z) hW hL5
        clear hX
        generalize ((w4.setCell ⟨b5, 0, none⟩ (.int .i64 u)).setCell ⟨b5, 1, none⟩ (.int .i64 v)).setCell ⟨b5, 2, none⟩ (.int .i64 z) = v7 at hA5 hA6 hW ⊢
        refine hK.out _ _ (HS.out _ hW) (fun hHeld => ?_)
        clear hK K
        try simp only [Act.put, List.getElem_toArray, List.getElem_cons_succ, List.getElem_cons_zero, List.setIfInBounds_toArray, List.set_cons_zero, List.set_cons_succ]
        refine wpAnyH_ready (rs := [8]) (by as_aux_lemma => kernel_rfl) (by simp) ?_
        refine AllReadyH.cons (o := _) rfl (fun K hK => ?_) (AllReadyH.nil)
        have t0 := one_cell7 hA6
        have t1 := one_frozen hA6
        simp only [List.getElem_toArray, List.getElem_cons_succ, List.getElem_cons_zero]
        go_simp
        clear t0 t1
        have hX := grownG_set (World.grownBy.refl v7 (some b6)) 0 (.int .i64 E)
        replace hA5 := (hX.block b5 (Array.getElem?_eq_some_iff.1 hA5).1 (fun e => by cases e; exact hNE rfl)).trans hA5
        replace hA6 := one_setCell (u := .int .i64 E) hA6
        replace hW := Below.setCell (p := ⟨b6, 0, none⟩) hW hL6 (.int .i64 E)
        clear hX
        generalize v7.setCell ⟨b6, 0, none⟩ (.int .i64 E) = v8 at hA5 hA6 hW ⊢
        refine hK.out _ _ (HS.out _ hW) (fun hHeld => ?_)
        clear hK K
        try simp only [Act.put, List.getElem_toArray, List.getElem_cons_succ, List.getElem_cons_zero, List.setIfInBounds_toArray, List.set_cons_zero, List.set_cons_succ]
        refine wpAnyH_done (by kernel_rfl) ?_ _
        have t0 := one_cell7 hA6
        obtain ⟨hr1, hr2, hr3⟩ := HR.out _ hW
        obtain ⟨s0, s1, s2, s3⟩ := two_cell hr3
        go_wp2
        have hX := grownG_set (grownG_set (World.grownBy.refl v8 (some (w.heap.size + 1))) 0 (.int .i64 E)) 1 (.func (.func 90) #[] #[.pointer (some ⟨w.heap.size, 0, none⟩), .pointer (some ⟨b5, 0, none⟩), .pointer (some ⟨b6, 0, none⟩)])
        have hq := two_cell (set2_heap (u := .int .i64 E) (v := .func (.func 90) #[] #[.pointer (some ⟨w.heap.size, 0, none⟩), .pointer (some ⟨b5, 0, none⟩), .pointer (some ⟨b6, 0, none⟩)]) hr3)
        refine bodyPost_ret (v := .agg #[.int .i64 E, chrF w.heap.size b5 b6]) (by simp [results, Tryz.results69, go_sem, hq.1, hq.2.1, chrF]) rfl ⟨_, _, _, rfl, HCA.out _ _ _ _ ((hX.block _ (Array.getElem?_eq_some_iff.1 hr2).1 (fun e => by injection e with e; omega)).trans hr2) ((hX.block _ (Array.getElem?_eq_some_iff.1 hA5).1 (fun e => by injection e with e; omega)).trans hA5) ((hX.block _ (Array.getElem?_eq_some_iff.1 hA6).1 (fun e => by injection e with e; omega)).trans hA6), ⟨Nat.le_refl _, by omega, by omega⟩, Below.setCell (p := ⟨w.heap.size + 1, 1, none⟩) (Below.setCell (p := ⟨w.heap.size + 1, 0, none⟩) hr1 (by simp) _) (by simp) _⟩
    · simp only [List.getElem_toArray, List.getElem_cons_succ, List.getElem_cons_zero]
      go_simp
      have hA5 := heap_alloc_new v6 (.cells #[.int .i64 0, .int .i64 0, .int .i64 0] 46)
      have hL5 := hW.size
      have hNE : b6 ≠ v6.heap.size := Nat.ne_of_lt (Array.getElem?_eq_some_iff.1 hA6).1
      replace hA6 := keepH (Joins.below_alloc1 v6 (.cells #[.int .i64 0, .int .i64 0, .int .i64 0] 46)) (Array.getElem?_eq_some_iff.1 hA6).1 hA6
      have hsz := hW.size
      rw [hN] at hsz
      replace hW := hW.alloc hsz (.cells #[.int .i64 0, .int .i64 0, .int .i64 0] 46)
      clear hsz
      obtain ⟨b5, hb5⟩ : ∃ b, v6.heap.size = b := ⟨_, rfl⟩
      rw [hb5] at hA5 hNE ⊢
      rw [hN] at hL5
      rw [hb5] at hL5
      clear hb5
      generalize v6.alloc (.cells #[.int .i64 0, .int .i64 0, .int .i64 0] 46) = v5 at hA5 hW hA6 ⊢
      refine hK.out _ _ (HS.out _ hW) (fun hHeld => ?_)
      clear hK K
      try simp only [Act.put, List.getElem_toArray, List.getElem_cons_succ, List.getElem_cons_zero, List.setIfInBounds_toArray, List.set_cons_zero, List.set_cons_succ]
      refine wpAnyH_ready (rs := [2]) (by as_aux_lemma => kernel_rfl) (by simp) ?_
      refine AllReadyH.cons (o := _) rfl (fun K hK => ?_) (AllReadyH.nil)
      simp only [List.getElem_toArray, List.getElem_cons_succ, List.getElem_cons_zero]
      go_simp
      refine (HPL.out _).mono ?_
      rintro e w2 ⟨rfl, hb⟩
      replace hA5 := keepH hb (Array.getElem?_eq_some_iff.1 hA5).1 hA5
      replace hA6 := keepH hb (Array.getElem?_eq_some_iff.1 hA6).1 hA6
      have hsz := hW.size
      rw [hN] at hsz
      replace hW := hW.trans (hb.mono hsz)
      clear hb hsz
      refine hK.out _ _ (HS.out _ hW) (fun hHeld => ?_)
      clear hK K
      try simp only [Act.put, List.getElem_toArray, List.getElem_cons_succ, List.getElem_cons_zero, List.setIfInBounds_toArray, List.set_cons_zero, List.set_cons_succ]
      refine wpAnyH_ready (rs := [4]) (by as_aux_lemma => kernel_rfl) (by simp) ?_
      refine AllReadyH.cons (o := _) rfl (fun K hK => ?_) (AllReadyH.nil)
      simp only [List.getElem_toArray, List.getElem_cons_succ, List.getElem_cons_zero]
      go_simp
      refine (HEX.out _).mono ?_
      rintro e w4 ⟨rfl, hb⟩
      replace hA5 := keepH hb (Array.getElem?_eq_some_iff.1 hA5).1 hA5
      replace hA6 := keepH hb (Array.getElem?_eq_some_iff.1 hA6).1 hA6
      have hsz := hW.size
      rw [hN] at hsz
      replace hW := hW.trans (hb.mono hsz)
      clear hb hsz
      refine hK.out _ _ (HS.out _ hW) (fun hHeld => ?_)
      clear hK K
      try simp only [Act.put, List.getElem_toArray, List.getElem_cons_succ, List.getElem_cons_zero, List.setIfInBounds_toArray, List.set_cons_zero, List.set_cons_succ]
      refine wpAnyH_ready (rs := [7]) (by as_aux_lemma => kernel_rfl) (by simp) ?_
      refine AllReadyH.cons (o := _) rfl (fun K hK => ?_) (AllReadyH.nil)
      have hT := trip_cell hA5
      obtain ⟨t0, t1, t2, t3, t4, t5⟩ := hT
      simp only [List.getElem_toArray, List.getElem_cons_succ, List.getElem_cons_zero]
      go_simp
      clear t0 t1 t2 t3 t4 t5
      have hX := grownG_set (grownG_set (grownG_set (World.grownBy.refl w4 (some b5)) 0 (.int .i64 u)) 1 (.int .i64 v)) 2 (.int .i64 z)
      replace hA6 := (hX.block b6 (Array.getElem?_eq_some_iff.1 hA6).1 (fun e => by cases e; exact hNE rfl)).trans hA6
      replace hA5 := set3_heap (u := .int .i64 u) (v := .int .i64 v) (s := .int .i64 z) hA5
      replace hW := below_set3 (x := .int .i64 u) (y := .int .i64 v) (z := .int .i64 z) hW hL5
      clear hX
      generalize ((w4.setCell ⟨b5, 0, none⟩ (.int .i64 u)).setCell ⟨b5, 1, none⟩ (.int .i64 v)).setCell ⟨b5, 2, none⟩ (.int .i64 z) = v7 at hA5 hA6 hW ⊢
      refine hK.out _ _ (HS.out _ hW) (fun hHeld => ?_)
      clear hK K
      try simp only [Act.put, List.getElem_toArray, List.getElem_cons_succ, List.getElem_cons_zero, List.setIfInBounds_toArray, List.set_cons_zero, List.set_cons_succ]
      refine wpAnyH_ready (rs := [8]) (by as_aux_lemma => kernel_rfl) (by simp) ?_
      refine AllReadyH.cons (o := _) rfl (fun K hK => ?_) (AllReadyH.nil)
      have t0 := one_cell7 hA6
      have t1 := one_frozen hA6
      simp only [List.getElem_toArray, List.getElem_cons_succ, List.getElem_cons_zero]
      go_simp
      clear t0 t1
      have hX := grownG_set (World.grownBy.refl v7 (some b6)) 0 (.int .i64 E)
      replace hA5 := (hX.block b5 (Array.getElem?_eq_some_iff.1 hA5).1 (fun e => by cases e; exact hNE rfl)).trans hA5
      replace hA6 := one_setCell (u := .int .i64 E) hA6
      replace hW := Below.setCell (p := ⟨b6, 0, none⟩) hW hL6 (.int .i64 E)
      clear hX
      generalize v7.setCell ⟨b6, 0, none⟩ (.int .i64 E) = v8 at hA5 hA6 hW ⊢
      refine hK.out _ _ (HS.out _ hW) (fun hHeld => ?_)
      clear hK K
      try simp only [Act.put, List.getElem_toArray, List.getElem_cons_succ, List.getElem_cons_zero, List.setIfInBounds_toArray, List.set_cons_zero, List.set_cons_succ]
      refine wpAnyH_done (by kernel_rfl) ?_ _
      have t0 := one_cell7 hA6
      obtain ⟨hr1, hr2, hr3⟩ := HR.out _ hW
      obtain ⟨s0, s1, s2, s3⟩ := two_cell hr3
      go_wp2
      have hX := grownG_set (grownG_set (World.grownBy.refl v8 (some (w.heap.size + 1))) 0 (.int .i64 E)) 1 (.func (.func 90) #[] #[.pointer (some ⟨w.heap.size, 0, none⟩), .pointer (some ⟨b5, 0, none⟩), .pointer (some ⟨b6, 0, none⟩)])
      have hq := two_cell (set2_heap (u := .int .i64 E) (v := .func (.func 90) #[] #[.pointer (some ⟨w.heap.size, 0, none⟩), .pointer (some ⟨b5, 0, none⟩), .pointer (some ⟨b6, 0, none⟩)]) hr3)
      refine bodyPost_ret (v := .agg #[.int .i64 E, chrF w.heap.size b5 b6]) (by simp [results, Tryz.results69, go_sem, hq.1, hq.2.1, chrF]) rfl ⟨_, _, _, rfl, HCA.out _ _ _ _ ((hX.block _ (Array.getElem?_eq_some_iff.1 hr2).1 (fun e => by injection e with e; omega)).trans hr2) ((hX.block _ (Array.getElem?_eq_some_iff.1 hA5).1 (fun e => by injection e with e; omega)).trans hA5) ((hX.block _ (Array.getElem?_eq_some_iff.1 hA6).1 (fun e => by injection e with e; omega)).trans hA6), ⟨Nat.le_refl _, by omega, by omega⟩, Below.setCell (p := ⟨w.heap.size + 1, 1, none⟩) (Below.setCell (p := ⟨w.heap.size + 1, 0, none⟩) hr1 (by simp) _) (by simp) _⟩
end Go.Proofs.YthlpjiibjlaebaaGreatDoor
