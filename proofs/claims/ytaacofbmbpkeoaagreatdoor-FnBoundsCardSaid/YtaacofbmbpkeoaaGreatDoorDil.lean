/- The program's own dilates of a set. -/
import Derived.Test.YtaacofbmbpkeoaaGreatDoorMGAI
namespace Go.Proofs.YtaacofbmbpkeoaaGreatDoor
open Go.RowKit Go.Shelf
attribute [local go_sem] Oper.semAt_some
set_option maxRecDepth 1000000
/-- The multiple of an element, by its three places. -/
def dilF (p q r k : Int) (y : Nat) : Int := (y : Int) % p * k % p + p * ((y : Int) / p % q * k % q) + p * q * ((y : Int) / p / q % r * k % r)
theorem dilF_bnd {p q r k : Int} (h : Tri p q r) (y : Nat) : 0 ≤ dilF p q r k y ∧ dilF p q r k y ≤ 23 := by
  have a := emod_b (a := (y : Int) % p * k) h.p1
  have b := emod_b (a := (y : Int) / p % q * k) h.q1
  have c := emod_b (a := (y : Int) / p / q % r * k) h.r1
  have h3 := h.pqr2
  have hp := h.p1
  have hq := h.q1
  have hpq := h.pq1
  unfold dilF
  generalize (y : Int) % p * k % p = A at *
  generalize (y : Int) / p % q * k % q = B at *
  generalize (y : Int) / p / q % r * k % r = C at *
  have m1 : 0 ≤ p * B := Int.mul_nonneg (by omega) b.1
  have m2 : p * B ≤ p * (q - 1) := Int.mul_le_mul_of_nonneg_left (by omega) (by omega)
  have m3 : 0 ≤ p * q * C := Int.mul_nonneg (by omega) c.1
  have m4 : p * q * C ≤ p * q * (r - 1) := Int.mul_le_mul_of_nonneg_left (by omega) (by omega)
  rw [Int.mul_sub, Int.mul_one] at m2 m4
  omega
theorem orF_dil_lt {p q r k : Int} (h : Tri p q r) (L : List Nat) : orF (dilF p q r k) L < 16777216 :=
  orF_lt _ _ 24 (fun x _ => by have := dilF_bnd (k := k) h x; omega)
set_option maxHeartbeats 4000000 in
theorem iDilate (w : World) (p q r k : Int) (s : Nat) (h : Tri p q r) (hs : s < 16777216) (k1 : -100 ≤ k) (k2 : k ≤ 100) (B : Nat) (hB0 : B ≤ w.heap.size) (ht : TabZ B w) :
    Calls Tryz.prog 61 #[tV p q r, .int .u64 s, .int .i64 k] w fun e w' => e = .returned (.int .u64 (orF (dilF p q r k) (bitsN s) : Nat)) ∧ Below w.heap.size w w' := by
  obtain ⟨F, hF⟩ : ∃ F, dilF p q r k = F := ⟨_, rfl⟩
  rw [hF]
  have HF := Lib.hid hF
  clear hF
  refine (callsIn_wide (n := 4)).1 ?_
  refine callsIn_of_wp_marks Tryz.func61 rfl trivial ?_ rfl
  simp only [Tryz.ntmps61, List.size_toArray, List.length_cons, List.length_nil, Nat.reduceAdd, Nat.reduceSub, Array.replicate_succ, Array.replicate_zero, List.push_toArray, List.append_toArray, List.nil_append, List.cons_append]
  have HT := Lib.hid h
  have HS := Lib.hid hs
  have K1 := Lib.hid k1
  have K2 := Lib.hid k2
  have B2 : Below w.heap.size w (((w.alloc (.cells #[.int .i64 p, .int .i64 q, .int .i64 r] 41)).alloc (.cells #[.int .i64 k] 3)).alloc (.cells #[.int .u64 0] 43)) := Joins.below_alloc3 w _ _ _
  have L1 : (((w.alloc (.cells #[.int .i64 p, .int .i64 q, .int .i64 r] 41)).alloc (.cells #[.int .i64 k] 3)).alloc (.cells #[.int .u64 0] 43)).heap[w.heap.size]? = some (.cells #[.int .i64 p, .int .i64 q, .int .i64 r] 41 (0, 0)) := keepH (Joins.below_alloc2 _ (.cells #[.int .i64 k] 3) (.cells #[.int .u64 0] 43)) (by simp) (heap_alloc_new w (.cells #[.int .i64 p, .int .i64 q, .int .i64 r] 41))
  have L3 : (((w.alloc (.cells #[.int .i64 p, .int .i64 q, .int .i64 r] 41)).alloc (.cells #[.int .i64 k] 3)).alloc (.cells #[.int .u64 0] 43)).heap[w.heap.size + 1]? = some (.cells #[.int .i64 k] 3 (0, 0)) := keepH (Joins.below_alloc1 _ (.cells #[.int .u64 0] 43)) (by simp) (by simpa using heap_alloc_new (w.alloc (.cells #[.int .i64 p, .int .i64 q, .int .i64 r] 41)) (.cells #[.int .i64 k] 3))
  have L2 : (((w.alloc (.cells #[.int .i64 p, .int .i64 q, .int .i64 r] 41)).alloc (.cells #[.int .i64 k] 3)).alloc (.cells #[.int .u64 0] 43)).heap[w.heap.size + 2]? = some (.cells #[.int .u64 0] 43 (0, 0)) := by simpa using heap_alloc_new ((w.alloc (.cells #[.int .i64 p, .int .i64 q, .int .i64 r] 41)).alloc (.cells #[.int .i64 k] 3)) (.cells #[.int .u64 0] 43)
  have HL1 := Lib.hid L1
  have HL2 := Lib.hid L2
  have HL3 := Lib.hid L3
  clear L1 L2 L3
  gi_wp2
  refine each_loop s HS.out rfl B
    (fun pre W => (W.heap[w.heap.size + 2]? = some (.cells #[.int .u64 (orF F pre : Nat)] 43 (0, 0)) ∧ W.heap[w.heap.size]? = some (.cells #[.int .i64 p, .int .i64 q, .int .i64 r] 41 (0, 0)) ∧ W.heap[w.heap.size + 1]? = some (.cells #[.int .i64 k] 3 (0, 0))) ∧ Below w.heap.size w W)
    (OwnFrom.and (Own.from (fun s W W' row hs hg hr => ⟨cells_own (w.heap.size + 2) (fun pre => #[.int .u64 (orF F pre : Nat)]) 43 s W W' row hs.1 hg hr, cells_own (β := List Nat) w.heap.size (fun _ => #[.int .i64 p, .int .i64 q, .int .i64 r]) 41 s W W' row hs.2.1 hg hr, cells_own (β := List Nat) (w.heap.size + 1) (fun _ => #[.int .i64 k]) 3 s W W' row hs.2.2 hg hr⟩) _) (ownFrom_below (Nat.le_refl _) (by simp; omega)))
    (fun pre W h => ht.on (h.2.mono hB0))
    ⟨⟨HL2.out, HL1.out, HL3.out⟩, B2⟩
    (fun y => { tmps := #[tV p q r, .int .u64 s, .int .i64 k, .pointer (some ⟨w.heap.size, 0, none⟩), undef, .pointer (some ⟨w.heap.size + 1, 0, none⟩), .int .u64 0, .pointer (some ⟨w.heap.size + 2, 0, none⟩), .int .i64 (y : Nat),
      .int .u64 s, .func (.func 68) #[.int .u64 s] #[], .int .i64 (y : Nat), undef, undef, undef, undef, undef, undef, undef, undef, undef, undef, undef], defers := [] }) ?assign ?body ?done
  case assign =>
    intro l y W K hK
    gi_wp2
    exact hK
  case body =>
    rintro l pre y W hy hpl ⟨⟨b1, b2, b3⟩, hB⟩
    have HB1 := Lib.hid b1
    have HB2 := Lib.hid b2
    have HB3 := Lib.hid b3
    have HBW := Lib.hid hB
    have c1 : W.cell? ⟨w.heap.size + 2, 0, none⟩ = some (.int .u64 (orF F pre : Nat)) := by simp [World.cell?, b1]
    have f1 : W.frozen? ⟨w.heap.size + 2, 0, none⟩ = false := by simp [World.frozen?, b1]
    obtain ⟨d0, d1, d2, _, _, _⟩ := trip_cell b2
    have e0 : W.cell? ⟨w.heap.size + 1, 0, none⟩ = some (.int .i64 k) := by simp [World.cell?, b3]
    clear b1 b2 b3 hB
    have HO := Lib.hid (by rw [← HF.out]; exact orF_dil_lt HT.out pre : orF F pre < 16777216)
    have hfb := dilF_bnd (k := k) HT.out y
    rw [HF.out] at hfb
    have HFN : Hid (((F y).toNat : Int) = F y) := Lib.hid (by omega)
    have HFL : Hid ((F y).toNat ≤ 23) := Lib.hid (by omega)
    clear hfb
    have HE9 : Hid ((y : Int) % p * k % p + p * ((y : Int) / p % q * k % q) + p * q * ((y : Int) / p / q % r * k % r) = ((F y).toNat : Int)) := Lib.hid (by rw [HFN.out, ← HF.out]; rfl)
    gi_wp2
    refine region_round (S := fun W' => W'.cell? ⟨w.heap.size, 0, none⟩ = some (.int .i64 p) ∧ W'.cell? ⟨w.heap.size, 1, none⟩ = some (.int .i64 q) ∧ W'.cell? ⟨w.heap.size, 2, none⟩ = some (.int .i64 r) ∧ W'.cell? ⟨w.heap.size + 1, 0, none⟩ = some (.int .i64 k))
      (by kernel_rfl) (no_defer (by kernel_rfl)) (fun ⟨a', w', h'⟩ => by have h3 := And.left (a := Exit.outgrown = Exit.normal) h'; cases h3) ⟨d0, d1, d2, e0⟩ (fun hHeld => ?_)
    refine wpAnyH_take (i := 1) (oi := _) (v := (tV p q r)) rfl (by kernel_rfl) (by kernel_rfl) (by kernel_rfl) (fun _ _ _ h => h) (Or.inl ⟨by rfl, ?_⟩) (by assumption) ?_
    · intro W' hSw
      obtain ⟨z1, z2, z3, z4⟩ := hSw
      simp only [List.getElem_toArray, List.getElem_cons_succ, List.getElem_cons_zero]
      go_simp
    simp only [Act.put, List.getElem_toArray, List.getElem_cons_succ, List.getElem_cons_zero, List.setIfInBounds_toArray, List.set_cons_zero, List.set_cons_succ]
    refine wpAnyH_take (i := 2) (oi := _) (v := (tV p q r)) rfl (by kernel_rfl) (by kernel_rfl) (by kernel_rfl) (fun _ _ _ h => h) (Or.inl ⟨by rfl, ?_⟩) (by assumption) ?_
    · intro W' hSw
      obtain ⟨z1, z2, z3, z4⟩ := hSw
      simp only [List.getElem_toArray, List.getElem_cons_succ, List.getElem_cons_zero]
      go_simp
    simp only [Act.put, List.getElem_toArray, List.getElem_cons_succ, List.getElem_cons_zero, List.setIfInBounds_toArray, List.set_cons_zero, List.set_cons_succ]
    refine wpAnyH_take (i := 3) (oi := _) (v := (tV p q r)) rfl (by kernel_rfl) (by kernel_rfl) (by kernel_rfl) (fun _ _ _ h => h) (Or.inl ⟨by rfl, ?_⟩) (by assumption) ?_
    · intro W' hSw
      obtain ⟨z1, z2, z3, z4⟩ := hSw
      simp only [List.getElem_toArray, List.getElem_cons_succ, List.getElem_cons_zero]
      go_simp
    simp only [Act.put, List.getElem_toArray, List.getElem_cons_succ, List.getElem_cons_zero, List.setIfInBounds_toArray, List.set_cons_zero, List.set_cons_succ]
    refine wpAnyH_take (i := 4) (oi := _) (v := (.int .i64 (y : Nat))) rfl (by kernel_rfl) (by kernel_rfl) (by kernel_rfl) (fun _ _ _ h => h) (Or.inl ⟨by rfl, ?_⟩) (by assumption) ?_
    · intro W' hSw
      obtain ⟨z1, z2, z3, z4⟩ := hSw
      simp only [List.getElem_toArray, List.getElem_cons_succ, List.getElem_cons_zero]
      go_simp
    simp only [Act.put, List.getElem_toArray, List.getElem_cons_succ, List.getElem_cons_zero, List.setIfInBounds_toArray, List.set_cons_zero, List.set_cons_succ]
    refine wpAnyH_take (i := 6) (oi := _) (v := (.int .i64 k)) rfl (by kernel_rfl) (by kernel_rfl) (by kernel_rfl) (fun _ _ _ h => h) (Or.inl ⟨by rfl, ?_⟩) (by assumption) ?_
    · intro W' hSw
      obtain ⟨z1, z2, z3, z4⟩ := hSw
      simp only [List.getElem_toArray, List.getElem_cons_succ, List.getElem_cons_zero]
      go_simp
    simp only [Act.put, List.getElem_toArray, List.getElem_cons_succ, List.getElem_cons_zero, List.setIfInBounds_toArray, List.set_cons_zero, List.set_cons_succ]
    have HS0 := Lib.hid hHeld
    have Z0 : w.heap.size < W.drew.heap.size := by have := HBW.out.size; have := (Array.getElem?_eq_some_iff.1 HB1.out).1; simp at *; omega
    have Z1 : w.heap.size + 2 < W.drew.heap.size := by have := (Array.getElem?_eq_some_iff.1 HB1.out).1; simpa using this
    have Z3 : w.heap.size + 1 < W.drew.heap.size := by have := (Array.getElem?_eq_some_iff.1 HB3.out).1; simpa using this
    have c1' : W.drew.cell? ⟨w.heap.size + 2, 0, none⟩ = some (.int .u64 (orF F pre : Nat)) := c1 
    have f1' : W.drew.frozen? ⟨w.heap.size + 2, 0, none⟩ = false := f1 
    have HC := Lib.hid c1'
    have HFr := Lib.hid f1'
    clear c1 f1 c1' f1'
    have T2 := Lib.hid (Below.refl W.drew.heap.size W.drew)
    refine wpAnyH_ready (rs := [0, 5]) (by kernel_rfl) (by simp) ?_
    refine AllReadyH.cons (o := _) rfl (fun K hK => ?_) (AllReadyH.cons (o := _) rfl (fun K hK => ?_) (AllReadyH.nil))
    · simp only [List.getElem_toArray, List.getElem_cons_zero]
      have cc := keepC T2.out Z1 HC.out
      go_simp
      clear cc
      refine hK.out _ _ (by obtain ⟨z1, z2, z3, z4⟩ := HS0.out; exact ⟨keepC T2.out Z0 z1, keepC T2.out Z0 z2, keepC T2.out Z0 z3, keepC T2.out Z3 z4⟩) (fun hHeld => ?_)
      clear hK K
      try simp only [Act.put, List.getElem_toArray, List.getElem_cons_zero, List.setIfInBounds_toArray, List.set_cons_zero, List.set_cons_succ]
      refine wpAnyH_ready (rs := [5]) (by kernel_rfl) (by simp) ?_
      refine AllReadyH.cons (o := _) rfl (fun K hK => ?_) (AllReadyH.nil)
      simp only [List.getElem_toArray, List.getElem_cons_succ, List.getElem_cons_zero]
      go_simp
      refine (iPlaces _ p q r y HT.out (by omega) (by omega)).mono ?_
      rintro e w3 ⟨rfl, hb3⟩
      have T3 := Lib.hid (T2.out.trans (hb3.mono T2.out.size))
      refine hK.out _ _ (by obtain ⟨z1, z2, z3, z4⟩ := HS0.out; exact ⟨keepC T3.out Z0 z1, keepC T3.out Z0 z2, keepC T3.out Z0 z3, keepC T3.out Z3 z4⟩) (fun hHeld => ?_)
      clear hK K
      try simp only [Act.put, List.getElem_toArray, List.getElem_cons_succ, List.getElem_cons_zero, List.setIfInBounds_toArray, List.set_cons_zero, List.set_cons_succ]
      refine wpAnyH_ready (rs := [7]) (by kernel_rfl) (by simp) ?_
      refine AllReadyH.cons (o := _) rfl (fun K hK => ?_) (AllReadyH.nil)
      simp only [List.getElem_toArray, List.getElem_cons_succ, List.getElem_cons_zero]
      go_simp
      refine (iMulti _ p q r _ _ _ k HT.out (emod_b HT.out.p1) (emod_b HT.out.q1) (emod_b HT.out.r1) K1.out K2.out).mono ?_
      rintro e w4 ⟨rfl, hb4⟩
      have T4 := Lib.hid (T3.out.trans (hb4.mono T3.out.size))
      refine hK.out _ _ (by obtain ⟨z1, z2, z3, z4⟩ := HS0.out; exact ⟨keepC T4.out Z0 z1, keepC T4.out Z0 z2, keepC T4.out Z0 z3, keepC T4.out Z3 z4⟩) (fun hHeld => ?_)
      clear hK K
      try simp only [Act.put, List.getElem_toArray, List.getElem_cons_succ, List.getElem_cons_zero, List.setIfInBounds_toArray, List.set_cons_zero, List.set_cons_succ]
      refine wpAnyH_ready (rs := [8]) (by kernel_rfl) (by simp) ?_
      refine AllReadyH.cons (o := _) rfl (fun K hK => ?_) (AllReadyH.nil)
      simp only [List.getElem_toArray, List.getElem_cons_succ, List.getElem_cons_zero]
      go_simp
      refine (iElement _ p q r _ _ _ HT.out (emod_b HT.out.p1) (emod_b HT.out.q1) (emod_b HT.out.r1)).mono ?_
      rintro e w5 ⟨rfl, hb5⟩
      have T5 := Lib.hid (T4.out.trans (hb5.mono T4.out.size))
      refine hK.out _ _ (by obtain ⟨z1, z2, z3, z4⟩ := HS0.out; exact ⟨keepC T5.out Z0 z1, keepC T5.out Z0 z2, keepC T5.out Z0 z3, keepC T5.out Z3 z4⟩) (fun hHeld => ?_)
      clear hK K
      try simp only [Act.put, List.getElem_toArray, List.getElem_cons_succ, List.getElem_cons_zero, List.setIfInBounds_toArray, List.set_cons_zero, List.set_cons_succ]
      refine wpAnyH_ready (rs := [9]) (by kernel_rfl) (by simp) ?_
      refine AllReadyH.cons (o := _) rfl (fun K hK => ?_) (AllReadyH.nil)
      simp only [List.getElem_toArray, List.getElem_cons_succ, List.getElem_cons_zero]
      go_simp
      rw [HE9.out]
      refine (iWith _ _ _ HO.out HFL.out).mono ?_
      rintro e w6 ⟨rfl, rfl⟩
      refine hK.out _ _ (by obtain ⟨z1, z2, z3, z4⟩ := HS0.out; exact ⟨keepC T5.out Z0 z1, keepC T5.out Z0 z2, keepC T5.out Z0 z3, keepC T5.out Z3 z4⟩) (fun hHeld => ?_)
      clear hK K
      try simp only [Act.put, List.getElem_toArray, List.getElem_cons_succ, List.getElem_cons_zero, List.setIfInBounds_toArray, List.set_cons_zero, List.set_cons_succ]
      refine wpAnyH_ready (rs := [10]) (by kernel_rfl) (by simp) ?_
      refine AllReadyH.cons (o := _) rfl (fun K hK => ?_) (AllReadyH.nil)
      simp only [List.getElem_toArray, List.getElem_cons_succ, List.getElem_cons_zero]
      have cc := keepC T5.out Z1 HC.out
      have ff := keepF T5.out Z1 HFr.out
      go_simp
      clear cc ff
      refine hK.out _ _ (by obtain ⟨z1, z2, z3, z4⟩ := HS0.out; exact ⟨(World.cell?_setCell_far _ _ _ _ (by simp)).trans (keepC T5.out Z0 z1), (World.cell?_setCell_far _ _ _ _ (by simp)).trans (keepC T5.out Z0 z2), (World.cell?_setCell_far _ _ _ _ (by simp)).trans (keepC T5.out Z0 z3), (World.cell?_setCell_far _ _ _ _ (by simp)).trans (keepC T5.out Z3 z4)⟩) (fun hHeld => ?_)
      clear hK K
      try simp only [Act.put, List.getElem_toArray, List.getElem_cons_succ, List.getElem_cons_zero, List.setIfInBounds_toArray, List.set_cons_zero, List.set_cons_succ]
      refine wpAnyH_done (by kernel_rfl) ?_ _
      have hk := keepH T5.out Z1 HB1.out
      have hk0 := keepH T5.out Z0 HB2.out
      have hk3 := keepH T5.out Z3 HB3.out
      exact ⟨rfl, (keeps_below (W := W) T5.out).trans (KeepsOthers.setCell _ _ _), ⟨by rw [orF_snoc]; exact Boxed.set _ hk, (grownBy_setCell' _ _ _).block _ (Array.getElem?_eq_some_iff.1 hk0).1 (by simp) |>.trans hk0, (grownBy_setCell' _ _ _).block _ (Array.getElem?_eq_some_iff.1 hk3).1 (by simp) |>.trans hk3⟩, (HBW.out.drew.trans (T5.out.mono HBW.out.size)).setCell (p := ⟨w.heap.size + 2, 0, none⟩) (by simp) _⟩
    · simp only [List.getElem_toArray, List.getElem_cons_succ, List.getElem_cons_zero]
      go_simp
      refine (iPlaces _ p q r y HT.out (by omega) (by omega)).mono ?_
      rintro e w3 ⟨rfl, hb3⟩
      have T3 := Lib.hid (T2.out.trans (hb3.mono T2.out.size))
      refine hK.out _ _ (by obtain ⟨z1, z2, z3, z4⟩ := HS0.out; exact ⟨keepC T3.out Z0 z1, keepC T3.out Z0 z2, keepC T3.out Z0 z3, keepC T3.out Z3 z4⟩) (fun hHeld => ?_)
      clear hK K
      try simp only [Act.put, List.getElem_toArray, List.getElem_cons_succ, List.getElem_cons_zero, List.setIfInBounds_toArray, List.set_cons_zero, List.set_cons_succ]
      refine wpAnyH_ready (rs := [0, 7]) (by kernel_rfl) (by simp) ?_
      refine AllReadyH.cons (o := _) rfl (fun K hK => ?_) (AllReadyH.cons (o := _) rfl (fun K hK => ?_) (AllReadyH.nil))
      · simp only [List.getElem_toArray, List.getElem_cons_zero]
        have cc := keepC T3.out Z1 HC.out
        go_simp
        clear cc
        refine hK.out _ _ (by obtain ⟨z1, z2, z3, z4⟩ := HS0.out; exact ⟨keepC T3.out Z0 z1, keepC T3.out Z0 z2, keepC T3.out Z0 z3, keepC T3.out Z3 z4⟩) (fun hHeld => ?_)
        clear hK K
        try simp only [Act.put, List.getElem_toArray, List.getElem_cons_zero, List.setIfInBounds_toArray, List.set_cons_zero, List.set_cons_succ]
        refine wpAnyH_ready (rs := [7]) (by kernel_rfl) (by simp) ?_
        refine AllReadyH.cons (o := _) rfl (fun K hK => ?_) (AllReadyH.nil)
        simp only [List.getElem_toArray, List.getElem_cons_succ, List.getElem_cons_zero]
        go_simp
        refine (iMulti _ p q r _ _ _ k HT.out (emod_b HT.out.p1) (emod_b HT.out.q1) (emod_b HT.out.r1) K1.out K2.out).mono ?_
        rintro e w4 ⟨rfl, hb4⟩
        have T4 := Lib.hid (T3.out.trans (hb4.mono T3.out.size))
        refine hK.out _ _ (by obtain ⟨z1, z2, z3, z4⟩ := HS0.out; exact ⟨keepC T4.out Z0 z1, keepC T4.out Z0 z2, keepC T4.out Z0 z3, keepC T4.out Z3 z4⟩) (fun hHeld => ?_)
        clear hK K
        try simp only [Act.put, List.getElem_toArray, List.getElem_cons_succ, List.getElem_cons_zero, List.setIfInBounds_toArray, List.set_cons_zero, List.set_cons_succ]
        refine wpAnyH_ready (rs := [8]) (by kernel_rfl) (by simp) ?_
        refine AllReadyH.cons (o := _) rfl (fun K hK => ?_) (AllReadyH.nil)
        simp only [List.getElem_toArray, List.getElem_cons_succ, List.getElem_cons_zero]
        go_simp
        refine (iElement _ p q r _ _ _ HT.out (emod_b HT.out.p1) (emod_b HT.out.q1) (emod_b HT.out.r1)).mono ?_
        rintro e w5 ⟨rfl, hb5⟩
        have T5 := Lib.hid (T4.out.trans (hb5.mono T4.out.size))
        refine hK.out _ _ (by obtain ⟨z1, z2, z3, z4⟩ := HS0.out; exact ⟨keepC T5.out Z0 z1, keepC T5.out Z0 z2, keepC T5.out Z0 z3, keepC T5.out Z3 z4⟩) (fun hHeld => ?_)
        clear hK K
        try simp only [Act.put, List.getElem_toArray, List.getElem_cons_succ, List.getElem_cons_zero, List.setIfInBounds_toArray, List.set_cons_zero, List.set_cons_succ]
        refine wpAnyH_ready (rs := [9]) (by kernel_rfl) (by simp) ?_
        refine AllReadyH.cons (o := _) rfl (fun K hK => ?_) (AllReadyH.nil)
        simp only [List.getElem_toArray, List.getElem_cons_succ, List.getElem_cons_zero]
        go_simp
        rw [HE9.out]
        refine (iWith _ _ _ HO.out HFL.out).mono ?_
        rintro e w6 ⟨rfl, rfl⟩
        refine hK.out _ _ (by obtain ⟨z1, z2, z3, z4⟩ := HS0.out; exact ⟨keepC T5.out Z0 z1, keepC T5.out Z0 z2, keepC T5.out Z0 z3, keepC T5.out Z3 z4⟩) (fun hHeld => ?_)
        clear hK K
        try simp only [Act.put, List.getElem_toArray, List.getElem_cons_succ, List.getElem_cons_zero, List.setIfInBounds_toArray, List.set_cons_zero, List.set_cons_succ]
        refine wpAnyH_ready (rs := [10]) (by kernel_rfl) (by simp) ?_
        refine AllReadyH.cons (o := _) rfl (fun K hK => ?_) (AllReadyH.nil)
        simp only [List.getElem_toArray, List.getElem_cons_succ, List.getElem_cons_zero]
        have cc := keepC T5.out Z1 HC.out
        have ff := keepF T5.out Z1 HFr.out
        go_simp
        clear cc ff
        refine hK.out _ _ (by obtain ⟨z1, z2, z3, z4⟩ := HS0.out; exact ⟨(World.cell?_setCell_far _ _ _ _ (by simp)).trans (keepC T5.out Z0 z1), (World.cell?_setCell_far _ _ _ _ (by simp)).trans (keepC T5.out Z0 z2), (World.cell?_setCell_far _ _ _ _ (by simp)).trans (keepC T5.out Z0 z3), (World.cell?_setCell_far _ _ _ _ (by simp)).trans (keepC T5.out Z3 z4)⟩) (fun hHeld => ?_)
        clear hK K
        try simp only [Act.put, List.getElem_toArray, List.getElem_cons_succ, List.getElem_cons_zero, List.setIfInBounds_toArray, List.set_cons_zero, List.set_cons_succ]
        refine wpAnyH_done (by kernel_rfl) ?_ _
        have hk := keepH T5.out Z1 HB1.out
        have hk0 := keepH T5.out Z0 HB2.out
        have hk3 := keepH T5.out Z3 HB3.out
        exact ⟨rfl, (keeps_below (W := W) T5.out).trans (KeepsOthers.setCell _ _ _), ⟨by rw [orF_snoc]; exact Boxed.set _ hk, (grownBy_setCell' _ _ _).block _ (Array.getElem?_eq_some_iff.1 hk0).1 (by simp) |>.trans hk0, (grownBy_setCell' _ _ _).block _ (Array.getElem?_eq_some_iff.1 hk3).1 (by simp) |>.trans hk3⟩, (HBW.out.drew.trans (T5.out.mono HBW.out.size)).setCell (p := ⟨w.heap.size + 2, 0, none⟩) (by simp) _⟩
      · simp only [List.getElem_toArray, List.getElem_cons_succ, List.getElem_cons_zero]
        go_simp
        refine (iMulti _ p q r _ _ _ k HT.out (emod_b HT.out.p1) (emod_b HT.out.q1) (emod_b HT.out.r1) K1.out K2.out).mono ?_
        rintro e w4 ⟨rfl, hb4⟩
        have T4 := Lib.hid (T3.out.trans (hb4.mono T3.out.size))
        refine hK.out _ _ (by obtain ⟨z1, z2, z3, z4⟩ := HS0.out; exact ⟨keepC T4.out Z0 z1, keepC T4.out Z0 z2, keepC T4.out Z0 z3, keepC T4.out Z3 z4⟩) (fun hHeld => ?_)
        clear hK K
        try simp only [Act.put, List.getElem_toArray, List.getElem_cons_succ, List.getElem_cons_zero, List.setIfInBounds_toArray, List.set_cons_zero, List.set_cons_succ]
        refine wpAnyH_ready (rs := [0, 8]) (by kernel_rfl) (by simp) ?_
        refine AllReadyH.cons (o := _) rfl (fun K hK => ?_) (AllReadyH.cons (o := _) rfl (fun K hK => ?_) (AllReadyH.nil))
        · simp only [List.getElem_toArray, List.getElem_cons_zero]
          have cc := keepC T4.out Z1 HC.out
          go_simp
          clear cc
          refine hK.out _ _ (by obtain ⟨z1, z2, z3, z4⟩ := HS0.out; exact ⟨keepC T4.out Z0 z1, keepC T4.out Z0 z2, keepC T4.out Z0 z3, keepC T4.out Z3 z4⟩) (fun hHeld => ?_)
          clear hK K
          try simp only [Act.put, List.getElem_toArray, List.getElem_cons_zero, List.setIfInBounds_toArray, List.set_cons_zero, List.set_cons_succ]
          refine wpAnyH_ready (rs := [8]) (by kernel_rfl) (by simp) ?_
          refine AllReadyH.cons (o := _) rfl (fun K hK => ?_) (AllReadyH.nil)
          simp only [List.getElem_toArray, List.getElem_cons_succ, List.getElem_cons_zero]
          go_simp
          refine (iElement _ p q r _ _ _ HT.out (emod_b HT.out.p1) (emod_b HT.out.q1) (emod_b HT.out.r1)).mono ?_
          rintro e w5 ⟨rfl, hb5⟩
          have T5 := Lib.hid (T4.out.trans (hb5.mono T4.out.size))
          refine hK.out _ _ (by obtain ⟨z1, z2, z3, z4⟩ := HS0.out; exact ⟨keepC T5.out Z0 z1, keepC T5.out Z0 z2, keepC T5.out Z0 z3, keepC T5.out Z3 z4⟩) (fun hHeld => ?_)
          clear hK K
          try simp only [Act.put, List.getElem_toArray, List.getElem_cons_succ, List.getElem_cons_zero, List.setIfInBounds_toArray, List.set_cons_zero, List.set_cons_succ]
          refine wpAnyH_ready (rs := [9]) (by kernel_rfl) (by simp) ?_
          refine AllReadyH.cons (o := _) rfl (fun K hK => ?_) (AllReadyH.nil)
          simp only [List.getElem_toArray, List.getElem_cons_succ, List.getElem_cons_zero]
          go_simp
          rw [HE9.out]
          refine (iWith _ _ _ HO.out HFL.out).mono ?_
          rintro e w6 ⟨rfl, rfl⟩
          refine hK.out _ _ (by obtain ⟨z1, z2, z3, z4⟩ := HS0.out; exact ⟨keepC T5.out Z0 z1, keepC T5.out Z0 z2, keepC T5.out Z0 z3, keepC T5.out Z3 z4⟩) (fun hHeld => ?_)
          clear hK K
          try simp only [Act.put, List.getElem_toArray, List.getElem_cons_succ, List.getElem_cons_zero, List.setIfInBounds_toArray, List.set_cons_zero, List.set_cons_succ]
          refine wpAnyH_ready (rs := [10]) (by kernel_rfl) (by simp) ?_
          refine AllReadyH.cons (o := _) rfl (fun K hK => ?_) (AllReadyH.nil)
          simp only [List.getElem_toArray, List.getElem_cons_succ, List.getElem_cons_zero]
          have cc := keepC T5.out Z1 HC.out
          have ff := keepF T5.out Z1 HFr.out
          go_simp
          clear cc ff
          refine hK.out _ _ (by obtain ⟨z1, z2, z3, z4⟩ := HS0.out; exact ⟨(World.cell?_setCell_far _ _ _ _ (by simp)).trans (keepC T5.out Z0 z1), (World.cell?_setCell_far _ _ _ _ (by simp)).trans (keepC T5.out Z0 z2), (World.cell?_setCell_far _ _ _ _ (by simp)).trans (keepC T5.out Z0 z3), (World.cell?_setCell_far _ _ _ _ (by simp)).trans (keepC T5.out Z3 z4)⟩) (fun hHeld => ?_)
          clear hK K
          try simp only [Act.put, List.getElem_toArray, List.getElem_cons_succ, List.getElem_cons_zero, List.setIfInBounds_toArray, List.set_cons_zero, List.set_cons_succ]
          refine wpAnyH_done (by kernel_rfl) ?_ _
          have hk := keepH T5.out Z1 HB1.out
          have hk0 := keepH T5.out Z0 HB2.out
          have hk3 := keepH T5.out Z3 HB3.out
          exact ⟨rfl, (keeps_below (W := W) T5.out).trans (KeepsOthers.setCell _ _ _), ⟨by rw [orF_snoc]; exact Boxed.set _ hk, (grownBy_setCell' _ _ _).block _ (Array.getElem?_eq_some_iff.1 hk0).1 (by simp) |>.trans hk0, (grownBy_setCell' _ _ _).block _ (Array.getElem?_eq_some_iff.1 hk3).1 (by simp) |>.trans hk3⟩, (HBW.out.drew.trans (T5.out.mono HBW.out.size)).setCell (p := ⟨w.heap.size + 2, 0, none⟩) (by simp) _⟩
        · simp only [List.getElem_toArray, List.getElem_cons_succ, List.getElem_cons_zero]
          go_simp
          refine (iElement _ p q r _ _ _ HT.out (emod_b HT.out.p1) (emod_b HT.out.q1) (emod_b HT.out.r1)).mono ?_
          rintro e w5 ⟨rfl, hb5⟩
          have T5 := Lib.hid (T4.out.trans (hb5.mono T4.out.size))
          refine hK.out _ _ (by obtain ⟨z1, z2, z3, z4⟩ := HS0.out; exact ⟨keepC T5.out Z0 z1, keepC T5.out Z0 z2, keepC T5.out Z0 z3, keepC T5.out Z3 z4⟩) (fun hHeld => ?_)
          clear hK K
          try simp only [Act.put, List.getElem_toArray, List.getElem_cons_succ, List.getElem_cons_zero, List.setIfInBounds_toArray, List.set_cons_zero, List.set_cons_succ]
          refine wpAnyH_ready (rs := [0]) (by kernel_rfl) (by simp) ?_
          refine AllReadyH.cons (o := _) rfl (fun K hK => ?_) (AllReadyH.nil)
          simp only [List.getElem_toArray, List.getElem_cons_zero]
          have cc := keepC T5.out Z1 HC.out
          go_simp
          clear cc
          refine hK.out _ _ (by obtain ⟨z1, z2, z3, z4⟩ := HS0.out; exact ⟨keepC T5.out Z0 z1, keepC T5.out Z0 z2, keepC T5.out Z0 z3, keepC T5.out Z3 z4⟩) (fun hHeld => ?_)
          clear hK K
          try simp only [Act.put, List.getElem_toArray, List.getElem_cons_zero, List.setIfInBounds_toArray, List.set_cons_zero, List.set_cons_succ]
          refine wpAnyH_ready (rs := [9]) (by kernel_rfl) (by simp) ?_
          refine AllReadyH.cons (o := _) rfl (fun K hK => ?_) (AllReadyH.nil)
          simp only [List.getElem_toArray, List.getElem_cons_succ, List.getElem_cons_zero]
          go_simp
          rw [HE9.out]
          refine (iWith _ _ _ HO.out HFL.out).mono ?_
          rintro e w6 ⟨rfl, rfl⟩
          refine hK.out _ _ (by obtain ⟨z1, z2, z3, z4⟩ := HS0.out; exact ⟨keepC T5.out Z0 z1, keepC T5.out Z0 z2, keepC T5.out Z0 z3, keepC T5.out Z3 z4⟩) (fun hHeld => ?_)
          clear hK K
          try simp only [Act.put, List.getElem_toArray, List.getElem_cons_succ, List.getElem_cons_zero, List.setIfInBounds_toArray, List.set_cons_zero, List.set_cons_succ]
          refine wpAnyH_ready (rs := [10]) (by kernel_rfl) (by simp) ?_
          refine AllReadyH.cons (o := _) rfl (fun K hK => ?_) (AllReadyH.nil)
          simp only [List.getElem_toArray, List.getElem_cons_succ, List.getElem_cons_zero]
          have cc := keepC T5.out Z1 HC.out
          have ff := keepF T5.out Z1 HFr.out
          go_simp
          clear cc ff
          refine hK.out _ _ (by obtain ⟨z1, z2, z3, z4⟩ := HS0.out; exact ⟨(World.cell?_setCell_far _ _ _ _ (by simp)).trans (keepC T5.out Z0 z1), (World.cell?_setCell_far _ _ _ _ (by simp)).trans (keepC T5.out Z0 z2), (World.cell?_setCell_far _ _ _ _ (by simp)).trans (keepC T5.out Z0 z3), (World.cell?_setCell_far _ _ _ _ (by simp)).trans (keepC T5.out Z3 z4)⟩) (fun hHeld => ?_)
          clear hK K
          try simp only [Act.put, List.getElem_toArray, List.getElem_cons_succ, List.getElem_cons_zero, List.setIfInBounds_toArray, List.set_cons_zero, List.set_cons_succ]
          refine wpAnyH_done (by kernel_rfl) ?_ _
          have hk := keepH T5.out Z1 HB1.out
          have hk0 := keepH T5.out Z0 HB2.out
          have hk3 := keepH T5.out Z3 HB3.out
          exact ⟨rfl, (keeps_below (W := W) T5.out).trans (KeepsOthers.setCell _ _ _), ⟨by rw [orF_snoc]; exact Boxed.set _ hk, (grownBy_setCell' _ _ _).block _ (Array.getElem?_eq_some_iff.1 hk0).1 (by simp) |>.trans hk0, (grownBy_setCell' _ _ _).block _ (Array.getElem?_eq_some_iff.1 hk3).1 (by simp) |>.trans hk3⟩, (HBW.out.drew.trans (T5.out.mono HBW.out.size)).setCell (p := ⟨w.heap.size + 2, 0, none⟩) (by simp) _⟩
  case done =>
    rintro D W hD ⟨⟨b1, b2, b3⟩, hB⟩ hK
    have c1 : W.cell? ⟨w.heap.size + 2, 0, none⟩ = some (.int .u64 (orF F (bitsN s) : Nat)) := by simp [World.cell?, b1]
    gi_wp2
    refine ⟨by simp, .inl ⟨_, _, rfl, run_takeDeferred hK, ?_⟩⟩
    exact ⟨_, results_tmp rfl _ _ _, rfl, hB.trans (belowK_b (w := w) (Nat.le_refl _) W D _ _ (by simp at hD; omega) hK rfl rfl)⟩
end Go.Proofs.YtaacofbmbpkeoaaGreatDoor
