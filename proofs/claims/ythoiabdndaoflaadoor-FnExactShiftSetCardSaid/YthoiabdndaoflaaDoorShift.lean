/- The program's own shift of a set. -/
import Derived.Test.YthoiabdndaoflaaDoorRound
import Derived.Test.YthoiabdndaoflaaDoorGrpMul
namespace Go.Proofs.YthoiabdndaoflaaDoor
open Go.RowKit Go.Shelf
attribute [local go_sem] Oper.semAt_some
set_option maxRecDepth 1000000
/-- A block of cells stays as it is where blocks that are no cells turn. -/
theorem cells_own {β : Type} (b : Nat) (f : β → Array Value) (t : TypeId) : Own (fun (s : β) W => W.heap[b]? = some (.cells (f s) t (0, 0))) := fun s W W' row hs hg hr =>
  (hg.block b (Array.getElem?_eq_some_iff.1 hs).1 (fun e => by obtain ⟨o, ho, hc⟩ := hr b e.symm; rw [hs] at ho; cases ho; cases hc)).trans hs
def isDef : Op → Bool
  | .defer _ => true
  | _ => false
theorem no_defer {ops : Array Oper} (h : (ops.toList.all fun o => !isDef o.op) = true) : ∀ (i : Nat) (o : Oper), ops[i]? = some o → ∀ c, o.op ≠ .defer c := fun i o ho c e => by
  have h1 := List.all_eq_true.1 h o (by rw [← Array.getElem?_toList] at ho; exact List.mem_of_getElem? ho)
  rw [e] at h1
  cases h1
theorem keeps_below {W W' : World} (h : Below W.drew.heap.size W.drew W') : KeepsOthers W W' := ⟨h.size, fun k _ ho _ => (h.block k (Array.getElem?_eq_some_iff.1 ho).1).trans ho⟩
/-- The shifted element, by its three places. -/
def shF (p q r u v t : Int) (y : Nat) : Int := ((y : Int) % p + u) % p + p * (((y : Int) / p % q + v) % q) + p * q * (((y : Int) / p / q % r + t) % r)
theorem shF_bnd {p q r u v t : Int} (h : Tri p q r) (y : Nat) : 0 ≤ shF p q r u v t y ∧ shF p q r u v t y ≤ 23 := by
  have a := emod_b (a := (y : Int) % p + u) h.p1
  have b := emod_b (a := (y : Int) / p % q + v) h.q1
  have c := emod_b (a := (y : Int) / p / q % r + t) h.r1
  have h3 := h.pqr2
  have hp := h.p1
  have hq := h.q1
  have hpq := h.pq1
  unfold shF
  generalize ((y : Int) % p + u) % p = A at *
  generalize ((y : Int) / p % q + v) % q = B at *
  generalize ((y : Int) / p / q % r + t) % r = C at *
  have m1 : 0 ≤ p * B := Int.mul_nonneg (by omega) b.1
  have m2 : p * B ≤ p * (q - 1) := Int.mul_le_mul_of_nonneg_left (by omega) (by omega)
  have m3 : 0 ≤ p * q * C := Int.mul_nonneg (by omega) c.1
  have m4 : p * q * C ≤ p * q * (r - 1) := Int.mul_le_mul_of_nonneg_left (by omega) (by omega)
  rw [Int.mul_sub, Int.mul_one] at m2 m4
  omega
theorem orF_snoc_lt {p q r u v t : Int} (h : Tri p q r) (L : List Nat) : orF (shF p q r u v t) L < 16777216 :=
  orF_lt _ _ 24 (fun x _ => by have := shF_bnd (u := u) (v := v) (t := t) h x; omega)
set_option maxHeartbeats 4000000 in
theorem iShift (w : World) (p q r : Int) (s x : Nat) (h : Tri p q r) (hs : s < 16777216) (hx : (x : Int) < p * q * r) (B : Nat) (hB0 : B ≤ w.heap.size) (ht : TabZ B w) :
    Calls Tryd.prog 31 #[tV p q r, .int .u64 s, .int .i64 x] w fun e w' => e = .returned (.int .u64 (orF (shF p q r ((x : Int) % p) ((x : Int) / p % q) ((x : Int) / p / q % r)) (bitsN s) : Nat)) ∧ Below w.heap.size w w' := by
  have hx0 : (0 : Int) ≤ x := by omega
  have hx23 : (x : Int) ≤ 23 := by have := h.pqr2; omega
  have BU := Lib.hid (And.intro (emod_b (a := (x : Int)) h.p1) (And.intro (emod_b (a := (x : Int) / p) h.q1) (emod_b (a := (x : Int) / p / q) h.r1)))
  have IPL := Lib.hid (fun (W : World) => iPlaces W p q r x h hx0 hx23)
  obtain ⟨u, hu⟩ : ∃ u, (x : Int) % p = u := ⟨_, rfl⟩
  obtain ⟨v, hv⟩ : ∃ u, (x : Int) / p % q = u := ⟨_, rfl⟩
  obtain ⟨t, ht3⟩ : ∃ u, (x : Int) / p / q % r = u := ⟨_, rfl⟩
  rw [hu, hv, ht3] at BU IPL
  rw [hu, hv, ht3]
  clear hu hv ht3
  obtain ⟨F, hF⟩ : ∃ F, shF p q r u v t = F := ⟨_, rfl⟩
  rw [hF]
  have HF := Lib.hid hF
  clear hF
  refine (callsIn_wide (n := 4)).1 ?_
  refine callsIn_of_wp_marks Tryd.func31 rfl trivial ?_ rfl
  simp only [Tryd.ntmps31, List.size_toArray, List.length_cons, List.length_nil, Nat.reduceAdd, Nat.reduceSub, Array.replicate_succ, Array.replicate_zero, List.push_toArray, List.append_toArray, List.nil_append, List.cons_append]
  have HT := Lib.hid h
  have HS := Lib.hid hs
  gi_wp2
  refine ⟨trivial, ?_⟩
  refine (callsIn_wide.2 (IPL.out _)).mono ?_
  rintro e w1 ⟨rfl, hb1⟩
  have B0 : Below w.heap.size w ((w.alloc (.cells #[.int .i64 p, .int .i64 q, .int .i64 r] 40)).alloc (.cells #[.int .u64 0] 42)) := Joins.below_alloc2 w _ _
  have hsz := hb1.size
  simp only [World.size_alloc] at hsz
  have K1 : w1.heap[w.heap.size]? = some (.cells #[.int .i64 p, .int .i64 q, .int .i64 r] 40 (0, 0)) := keepH hb1 (by simp; omega) (keepH (Joins.below_alloc1 _ (.cells #[.int .u64 0] 42)) (by simp) (heap_alloc_new w (.cells #[.int .i64 p, .int .i64 q, .int .i64 r] 40)))
  have K2 : w1.heap[w.heap.size + 1]? = some (.cells #[.int .u64 0] 42 (0, 0)) := keepH hb1 (by simp) (by simpa using heap_alloc_new (w.alloc (.cells #[.int .i64 p, .int .i64 q, .int .i64 r] 40)) (.cells #[.int .u64 0] 42))
  have B1 := B0.trans (hb1.mono (by simp; omega))
  have hHB := Lib.hid hb1
  clear hb1
  have K1a := (heap_alloc_new w1 (.cells #[.int .i64 u, .int .i64 v, .int .i64 t] 40))
  have B2 : Below w.heap.size w (w1.alloc (.cells #[.int .i64 u, .int .i64 v, .int .i64 t] 40)) := B1.alloc B1.size _
  have L1 := keepH (Joins.below_alloc1 w1 (.cells #[.int .i64 u, .int .i64 v, .int .i64 t] 40)) (by omega) K1
  have L2 := keepH (Joins.below_alloc1 w1 (.cells #[.int .i64 u, .int .i64 v, .int .i64 t] 40)) (by omega) K2
  have hK1 := Lib.hid K1
  have hK2 := Lib.hid K2
  clear K1 K2
  gi_wp2
  refine each_loop s HS.out rfl B
    (fun pre W => (W.heap[w.heap.size + 1]? = some (.cells #[.int .u64 (orF F pre : Nat)] 42 (0, 0)) ∧ W.heap[w.heap.size]? = some (.cells #[.int .i64 p, .int .i64 q, .int .i64 r] 40 (0, 0)) ∧ W.heap[w1.heap.size]? = some (.cells #[.int .i64 u, .int .i64 v, .int .i64 t] 40 (0, 0))) ∧ Below w.heap.size w W)
    (OwnFrom.and (Own.from (fun s W W' row hs hg hr => ⟨cells_own (w.heap.size + 1) (fun pre => #[.int .u64 (orF F pre : Nat)]) 42 s W W' row hs.1 hg hr, cells_own (β := List Nat) w.heap.size (fun _ => #[.int .i64 p, .int .i64 q, .int .i64 r]) 40 s W W' row hs.2.1 hg hr, cells_own (β := List Nat) w1.heap.size (fun _ => #[.int .i64 u, .int .i64 v, .int .i64 t]) 40 s W W' row hs.2.2 hg hr⟩) _) (ownFrom_below (Nat.le_refl _) (by simp; omega)))
    (fun pre W h => ht.on (h.2.mono hB0))
    ⟨⟨L2, L1, K1a⟩, B2⟩
    (fun y => { tmps := #[tV p q r, .int .u64 s, .int .i64 x, .pointer (some ⟨w.heap.size, 0, none⟩), undef, undef, .int .u64 0, .pointer (some ⟨w.heap.size + 1, 0, none⟩), .pointer (some ⟨w1.heap.size, 0, none⟩), .int .i64 (y : Nat),
      tV p q r, .int .i64 x, tV u v t, .int .u64 s, .func (.func 42) #[.int .u64 s] #[], .int .i64 (y : Nat), undef, undef, undef, undef, undef, undef, undef, undef, undef, undef, undef], defers := [] }) ?assign ?body ?done
  case assign =>
    intro l y W K hK
    gi_wp2
    exact hK
  case body =>
    rintro l pre y W hy hpl ⟨⟨b1, b2, b3⟩, hB⟩
    have HB1 := Lib.hid b1
    have HB2 := Lib.hid b2
    have HB3 := Lib.hid b3
    have HBW := Lib.hid hB
    have c1 : W.cell? ⟨w.heap.size + 1, 0, none⟩ = some (.int .u64 (orF F pre : Nat)) := by simp [World.cell?, b1]
    have f1 : W.frozen? ⟨w.heap.size + 1, 0, none⟩ = false := by simp [World.frozen?, b1]
    obtain ⟨d0, d1, d2, _, _, _⟩ := trip_cell b2
    obtain ⟨e0, e1, e2, _, _, _⟩ := trip_cell b3
    clear b1 b2 b3 hB
    have HO := Lib.hid (by rw [← HF.out]; exact orF_snoc_lt HT.out pre : orF F pre < 16777216)
    have hfb := shF_bnd (u := u) (v := v) (t := t) HT.out y
    rw [HF.out] at hfb
    have HFN : Hid (((F y).toNat : Int) = F y) := Lib.hid (by omega)
    have HFL : Hid ((F y).toNat ≤ 23) := Lib.hid (by omega)
    clear hfb
    have HE9 : Hid (((y : Int) + u) % p + p * (((y : Int) / p + v) % q) + p * q * (((y : Int) / p / q + t) % r) = ((F y).toNat : Int)) := Lib.hid (by rw [HFN.out, ← HF.out]; unfold shF; rw [Int.emod_add_emod, Int.emod_add_emod, Int.emod_add_emod])
    gi_wp2
    refine region_round (S := fun W' => W'.cell? ⟨w.heap.size, 0, none⟩ = some (.int .i64 p) ∧ W'.cell? ⟨w.heap.size, 1, none⟩ = some (.int .i64 q) ∧ W'.cell? ⟨w.heap.size, 2, none⟩ = some (.int .i64 r) ∧ W'.cell? ⟨w1.heap.size, 0, none⟩ = some (.int .i64 u) ∧ W'.cell? ⟨w1.heap.size, 1, none⟩ = some (.int .i64 v) ∧ W'.cell? ⟨w1.heap.size, 2, none⟩ = some (.int .i64 t))
      (by kernel_rfl) (no_defer (by kernel_rfl)) (fun ⟨a', w', h'⟩ => by have h3 := And.left (a := Exit.outgrown = Exit.normal) h'; cases h3) ⟨d0, d1, d2, e0, e1, e2⟩ (fun hHeld => ?_)
    refine wpAnyH_take (i := 1) (oi := _) (v := (tV p q r)) rfl (by kernel_rfl) (by kernel_rfl) (by kernel_rfl) (fun _ _ _ h => h) (Or.inl ⟨by rfl, ?_⟩) (by assumption) ?_
    · intro W' hSw
      obtain ⟨z1, z2, z3, z4, z5, z6⟩ := hSw
      simp only [List.getElem_toArray, List.getElem_cons_succ, List.getElem_cons_zero]
      go_simp
    simp only [Act.put, List.getElem_toArray, List.getElem_cons_succ, List.getElem_cons_zero, List.setIfInBounds_toArray, List.set_cons_zero, List.set_cons_succ]
    refine wpAnyH_take (i := 2) (oi := _) (v := (tV p q r)) rfl (by kernel_rfl) (by kernel_rfl) (by kernel_rfl) (fun _ _ _ h => h) (Or.inl ⟨by rfl, ?_⟩) (by assumption) ?_
    · intro W' hSw
      obtain ⟨z1, z2, z3, z4, z5, z6⟩ := hSw
      simp only [List.getElem_toArray, List.getElem_cons_succ, List.getElem_cons_zero]
      go_simp
    simp only [Act.put, List.getElem_toArray, List.getElem_cons_succ, List.getElem_cons_zero, List.setIfInBounds_toArray, List.set_cons_zero, List.set_cons_succ]
    refine wpAnyH_take (i := 3) (oi := _) (v := (tV p q r)) rfl (by kernel_rfl) (by kernel_rfl) (by kernel_rfl) (fun _ _ _ h => h) (Or.inl ⟨by rfl, ?_⟩) (by assumption) ?_
    · intro W' hSw
      obtain ⟨z1, z2, z3, z4, z5, z6⟩ := hSw
      simp only [List.getElem_toArray, List.getElem_cons_succ, List.getElem_cons_zero]
      go_simp
    simp only [Act.put, List.getElem_toArray, List.getElem_cons_succ, List.getElem_cons_zero, List.setIfInBounds_toArray, List.set_cons_zero, List.set_cons_succ]
    refine wpAnyH_take (i := 4) (oi := _) (v := (.int .i64 (y : Nat))) rfl (by kernel_rfl) (by kernel_rfl) (by kernel_rfl) (fun _ _ _ h => h) (Or.inl ⟨by rfl, ?_⟩) (by assumption) ?_
    · intro W' hSw
      obtain ⟨z1, z2, z3, z4, z5, z6⟩ := hSw
      simp only [List.getElem_toArray, List.getElem_cons_succ, List.getElem_cons_zero]
      go_simp
    simp only [Act.put, List.getElem_toArray, List.getElem_cons_succ, List.getElem_cons_zero, List.setIfInBounds_toArray, List.set_cons_zero, List.set_cons_succ]
    refine wpAnyH_take (i := 6) (oi := _) (v := (tV u v t)) rfl (by kernel_rfl) (by kernel_rfl) (by kernel_rfl) (fun _ _ _ h => h) (Or.inl ⟨by rfl, ?_⟩) (by assumption) ?_
    · intro W' hSw
      obtain ⟨z1, z2, z3, z4, z5, z6⟩ := hSw
      simp only [List.getElem_toArray, List.getElem_cons_succ, List.getElem_cons_zero]
      go_simp
    simp only [Act.put, List.getElem_toArray, List.getElem_cons_succ, List.getElem_cons_zero, List.setIfInBounds_toArray, List.set_cons_zero, List.set_cons_succ]
    have HS0 := Lib.hid hHeld
    have Z0 : w.heap.size < W.drew.heap.size := by have := HBW.out.size; have := (Array.getElem?_eq_some_iff.1 HB1.out).1; simp at *; omega
    have Z1 : w.heap.size + 1 < W.drew.heap.size := by have := (Array.getElem?_eq_some_iff.1 HB1.out).1; simpa using this
    have Z3 : w1.heap.size < W.drew.heap.size := by have := (Array.getElem?_eq_some_iff.1 HB3.out).1; simpa using this
    have N3 : w.heap.size + 1 ≠ w1.heap.size := by omega
    have c1' : W.drew.cell? ⟨w.heap.size + 1, 0, none⟩ = some (.int .u64 (orF F pre : Nat)) := c1 
    have f1' : W.drew.frozen? ⟨w.heap.size + 1, 0, none⟩ = false := f1 
    have HC := Lib.hid c1'
    have HFr := Lib.hid f1'
    clear c1 f1 c1' f1'
    have T2 := Lib.hid (Below.refl W.drew.heap.size W.drew)
    refine wpAnyH_ready (rs := [0, 5]) (by kernel_rfl) (by simp) ?_
    refine AllReadyH.cons (o := _) rfl (fun K hK => ?_) (AllReadyH.cons (o := _) rfl (fun K hK => ?_) (AllReadyH.nil))
    · simp only [List.getElem_toArray, List.getElem_cons_zero]
      have cc := keepC T2.out Z1 HC.out
      go_simp
      clear cc
      refine hK.out _ _ (by obtain ⟨z1, z2, z3, z4, z5, z6⟩ := HS0.out; exact ⟨keepC T2.out Z0 z1, keepC T2.out Z0 z2, keepC T2.out Z0 z3, keepC T2.out Z3 z4, keepC T2.out Z3 z5, keepC T2.out Z3 z6⟩) (fun hHeld => ?_)
      clear hK K
      try simp only [Act.put, List.getElem_toArray, List.getElem_cons_zero, List.setIfInBounds_toArray, List.set_cons_zero, List.set_cons_succ]
      refine wpAnyH_ready (rs := [5]) (by kernel_rfl) (by simp) ?_
      refine AllReadyH.cons (o := _) rfl (fun K hK => ?_) (AllReadyH.nil)
      simp only [List.getElem_toArray, List.getElem_cons_succ, List.getElem_cons_zero]
      go_simp
      refine (iPlaces _ p q r y HT.out (by omega) (by omega)).mono ?_
      rintro e w3 ⟨rfl, hb3⟩
      have T3 := Lib.hid (T2.out.trans (hb3.mono T2.out.size))
      refine hK.out _ _ (by obtain ⟨z1, z2, z3, z4, z5, z6⟩ := HS0.out; exact ⟨keepC T3.out Z0 z1, keepC T3.out Z0 z2, keepC T3.out Z0 z3, keepC T3.out Z3 z4, keepC T3.out Z3 z5, keepC T3.out Z3 z6⟩) (fun hHeld => ?_)
      clear hK K
      try simp only [Act.put, List.getElem_toArray, List.getElem_cons_succ, List.getElem_cons_zero, List.setIfInBounds_toArray, List.set_cons_zero, List.set_cons_succ]
      refine wpAnyH_ready (rs := [7]) (by kernel_rfl) (by simp) ?_
      refine AllReadyH.cons (o := _) rfl (fun K hK => ?_) (AllReadyH.nil)
      simp only [List.getElem_toArray, List.getElem_cons_succ, List.getElem_cons_zero]
      go_simp
      refine (iAdd _ p q r _ _ _ u v t HT.out (emod_b HT.out.p1) (emod_b HT.out.q1) (emod_b HT.out.r1) BU.out.1 BU.out.2.1 BU.out.2.2).mono ?_
      rintro e w4 ⟨rfl, hb4⟩
      have T4 := Lib.hid (T3.out.trans (hb4.mono T3.out.size))
      refine hK.out _ _ (by obtain ⟨z1, z2, z3, z4, z5, z6⟩ := HS0.out; exact ⟨keepC T4.out Z0 z1, keepC T4.out Z0 z2, keepC T4.out Z0 z3, keepC T4.out Z3 z4, keepC T4.out Z3 z5, keepC T4.out Z3 z6⟩) (fun hHeld => ?_)
      clear hK K
      try simp only [Act.put, List.getElem_toArray, List.getElem_cons_succ, List.getElem_cons_zero, List.setIfInBounds_toArray, List.set_cons_zero, List.set_cons_succ]
      refine wpAnyH_ready (rs := [8]) (by kernel_rfl) (by simp) ?_
      refine AllReadyH.cons (o := _) rfl (fun K hK => ?_) (AllReadyH.nil)
      simp only [List.getElem_toArray, List.getElem_cons_succ, List.getElem_cons_zero]
      go_simp
      refine (iElement _ p q r _ _ _ HT.out (emod_b HT.out.p1) (emod_b HT.out.q1) (emod_b HT.out.r1)).mono ?_
      rintro e w5 ⟨rfl, hb5⟩
      have T5 := Lib.hid (T4.out.trans (hb5.mono T4.out.size))
      refine hK.out _ _ (by obtain ⟨z1, z2, z3, z4, z5, z6⟩ := HS0.out; exact ⟨keepC T5.out Z0 z1, keepC T5.out Z0 z2, keepC T5.out Z0 z3, keepC T5.out Z3 z4, keepC T5.out Z3 z5, keepC T5.out Z3 z6⟩) (fun hHeld => ?_)
      clear hK K
      try simp only [Act.put, List.getElem_toArray, List.getElem_cons_succ, List.getElem_cons_zero, List.setIfInBounds_toArray, List.set_cons_zero, List.set_cons_succ]
      refine wpAnyH_ready (rs := [9]) (by kernel_rfl) (by simp) ?_
      refine AllReadyH.cons (o := _) rfl (fun K hK => ?_) (AllReadyH.nil)
      simp only [List.getElem_toArray, List.getElem_cons_succ, List.getElem_cons_zero]
      go_simp
      rw [HE9.out]
      refine (iWith _ _ _ HO.out HFL.out).mono ?_
      rintro e w6 ⟨rfl, rfl⟩
      refine hK.out _ _ (by obtain ⟨z1, z2, z3, z4, z5, z6⟩ := HS0.out; exact ⟨keepC T5.out Z0 z1, keepC T5.out Z0 z2, keepC T5.out Z0 z3, keepC T5.out Z3 z4, keepC T5.out Z3 z5, keepC T5.out Z3 z6⟩) (fun hHeld => ?_)
      clear hK K
      try simp only [Act.put, List.getElem_toArray, List.getElem_cons_succ, List.getElem_cons_zero, List.setIfInBounds_toArray, List.set_cons_zero, List.set_cons_succ]
      refine wpAnyH_ready (rs := [10]) (by kernel_rfl) (by simp) ?_
      refine AllReadyH.cons (o := _) rfl (fun K hK => ?_) (AllReadyH.nil)
      simp only [List.getElem_toArray, List.getElem_cons_succ, List.getElem_cons_zero]
      have cc := keepC T5.out Z1 HC.out
      have ff := keepF T5.out Z1 HFr.out
      go_simp
      clear cc ff
      refine hK.out _ _ (by obtain ⟨z1, z2, z3, z4, z5, z6⟩ := HS0.out; exact ⟨(World.cell?_setCell_far _ _ _ _ (by simp)).trans (keepC T5.out Z0 z1), (World.cell?_setCell_far _ _ _ _ (by simp)).trans (keepC T5.out Z0 z2), (World.cell?_setCell_far _ _ _ _ (by simp)).trans (keepC T5.out Z0 z3), (World.cell?_setCell_far _ _ _ _ N3).trans (keepC T5.out Z3 z4), (World.cell?_setCell_far _ _ _ _ N3).trans (keepC T5.out Z3 z5), (World.cell?_setCell_far _ _ _ _ N3).trans (keepC T5.out Z3 z6)⟩) (fun hHeld => ?_)
      clear hK K
      try simp only [Act.put, List.getElem_toArray, List.getElem_cons_succ, List.getElem_cons_zero, List.setIfInBounds_toArray, List.set_cons_zero, List.set_cons_succ]
      refine wpAnyH_done (by kernel_rfl) ?_ _
      have hk := keepH T5.out Z1 HB1.out
      have hk0 := keepH T5.out Z0 HB2.out
      have hk3 := keepH T5.out Z3 HB3.out
      exact ⟨rfl, (keeps_below (W := W) T5.out).trans (KeepsOthers.setCell _ _ _), ⟨by rw [orF_snoc]; exact Boxed.set _ hk, (grownBy_setCell' _ _ _).block _ (Array.getElem?_eq_some_iff.1 hk0).1 (by simp) |>.trans hk0, (grownBy_setCell' _ _ _).block _ (Array.getElem?_eq_some_iff.1 hk3).1 (by simpa using N3.symm) |>.trans hk3⟩, (HBW.out.drew.trans (T5.out.mono HBW.out.size)).setCell (p := ⟨w.heap.size + 1, 0, none⟩) (by simp) _⟩
    · simp only [List.getElem_toArray, List.getElem_cons_succ, List.getElem_cons_zero]
      go_simp
      refine (iPlaces _ p q r y HT.out (by omega) (by omega)).mono ?_
      rintro e w3 ⟨rfl, hb3⟩
      have T3 := Lib.hid (T2.out.trans (hb3.mono T2.out.size))
      refine hK.out _ _ (by obtain ⟨z1, z2, z3, z4, z5, z6⟩ := HS0.out; exact ⟨keepC T3.out Z0 z1, keepC T3.out Z0 z2, keepC T3.out Z0 z3, keepC T3.out Z3 z4, keepC T3.out Z3 z5, keepC T3.out Z3 z6⟩) (fun hHeld => ?_)
      clear hK K
      try simp only [Act.put, List.getElem_toArray, List.getElem_cons_succ, List.getElem_cons_zero, List.setIfInBounds_toArray, List.set_cons_zero, List.set_cons_succ]
      refine wpAnyH_ready (rs := [0, 7]) (by kernel_rfl) (by simp) ?_
      refine AllReadyH.cons (o := _) rfl (fun K hK => ?_) (AllReadyH.cons (o := _) rfl (fun K hK => ?_) (AllReadyH.nil))
      · simp only [List.getElem_toArray, List.getElem_cons_zero]
        have cc := keepC T3.out Z1 HC.out
        go_simp
        clear cc
        refine hK.out _ _ (by obtain ⟨z1, z2, z3, z4, z5, z6⟩ := HS0.out; exact ⟨keepC T3.out Z0 z1, keepC T3.out Z0 z2, keepC T3.out Z0 z3, keepC T3.out Z3 z4, keepC T3.out Z3 z5, keepC T3.out Z3 z6⟩) (fun hHeld => ?_)
        clear hK K
        try simp only [Act.put, List.getElem_toArray, List.getElem_cons_zero, List.setIfInBounds_toArray, List.set_cons_zero, List.set_cons_succ]
        refine wpAnyH_ready (rs := [7]) (by kernel_rfl) (by simp) ?_
        refine AllReadyH.cons (o := _) rfl (fun K hK => ?_) (AllReadyH.nil)
        simp only [List.getElem_toArray, List.getElem_cons_succ, List.getElem_cons_zero]
        go_simp
        refine (iAdd _ p q r _ _ _ u v t HT.out (emod_b HT.out.p1) (emod_b HT.out.q1) (emod_b HT.out.r1) BU.out.1 BU.out.2.1 BU.out.2.2).mono ?_
        rintro e w4 ⟨rfl, hb4⟩
        have T4 := Lib.hid (T3.out.trans (hb4.mono T3.out.size))
        refine hK.out _ _ (by obtain ⟨z1, z2, z3, z4, z5, z6⟩ := HS0.out; exact ⟨keepC T4.out Z0 z1, keepC T4.out Z0 z2, keepC T4.out Z0 z3, keepC T4.out Z3 z4, keepC T4.out Z3 z5, keepC T4.out Z3 z6⟩) (fun hHeld => ?_)
        clear hK K
        try simp only [Act.put, List.getElem_toArray, List.getElem_cons_succ, List.getElem_cons_zero, List.setIfInBounds_toArray, List.set_cons_zero, List.set_cons_succ]
        refine wpAnyH_ready (rs := [8]) (by kernel_rfl) (by simp) ?_
        refine AllReadyH.cons (o := _) rfl (fun K hK => ?_) (AllReadyH.nil)
        simp only [List.getElem_toArray, List.getElem_cons_succ, List.getElem_cons_zero]
        go_simp
        refine (iElement _ p q r _ _ _ HT.out (emod_b HT.out.p1) (emod_b HT.out.q1) (emod_b HT.out.r1)).mono ?_
        rintro e w5 ⟨rfl, hb5⟩
        have T5 := Lib.hid (T4.out.trans (hb5.mono T4.out.size))
        refine hK.out _ _ (by obtain ⟨z1, z2, z3, z4, z5, z6⟩ := HS0.out; exact ⟨keepC T5.out Z0 z1, keepC T5.out Z0 z2, keepC T5.out Z0 z3, keepC T5.out Z3 z4, keepC T5.out Z3 z5, keepC T5.out Z3 z6⟩) (fun hHeld => ?_)
        clear hK K
        try simp only [Act.put, List.getElem_toArray, List.getElem_cons_succ, List.getElem_cons_zero, List.setIfInBounds_toArray, List.set_cons_zero, List.set_cons_succ]
        refine wpAnyH_ready (rs := [9]) (by kernel_rfl) (by simp) ?_
        refine AllReadyH.cons (o := _) rfl (fun K hK => ?_) (AllReadyH.nil)
        simp only [List.getElem_toArray, List.getElem_cons_succ, List.getElem_cons_zero]
        go_simp
        rw [HE9.out]
        refine (iWith _ _ _ HO.out HFL.out).mono ?_
        rintro e w6 ⟨rfl, rfl⟩
        refine hK.out _ _ (by obtain ⟨z1, z2, z3, z4, z5, z6⟩ := HS0.out; exact ⟨keepC T5.out Z0 z1, keepC T5.out Z0 z2, keepC T5.out Z0 z3, keepC T5.out Z3 z4, keepC T5.out Z3 z5, keepC T5.out Z3 z6⟩) (fun hHeld => ?_)
        clear hK K
        try simp only [Act.put, List.getElem_toArray, List.getElem_cons_succ, List.getElem_cons_zero, List.setIfInBounds_toArray, List.set_cons_zero, List.set_cons_succ]
        refine wpAnyH_ready (rs := [10]) (by kernel_rfl) (by simp) ?_
        refine AllReadyH.cons (o := _) rfl (fun K hK => ?_) (AllReadyH.nil)
        simp only [List.getElem_toArray, List.getElem_cons_succ, List.getElem_cons_zero]
        have cc := keepC T5.out Z1 HC.out
        have ff := keepF T5.out Z1 HFr.out
        go_simp
        clear cc ff
        refine hK.out _ _ (by obtain ⟨z1, z2, z3, z4, z5, z6⟩ := HS0.out; exact ⟨(World.cell?_setCell_far _ _ _ _ (by simp)).trans (keepC T5.out Z0 z1), (World.cell?_setCell_far _ _ _ _ (by simp)).trans (keepC T5.out Z0 z2), (World.cell?_setCell_far _ _ _ _ (by simp)).trans (keepC T5.out Z0 z3), (World.cell?_setCell_far _ _ _ _ N3).trans (keepC T5.out Z3 z4), (World.cell?_setCell_far _ _ _ _ N3).trans (keepC T5.out Z3 z5), (World.cell?_setCell_far _ _ _ _ N3).trans (keepC T5.out Z3 z6)⟩) (fun hHeld => ?_)
        clear hK K
        try simp only [Act.put, List.getElem_toArray, List.getElem_cons_succ, List.getElem_cons_zero, List.setIfInBounds_toArray, List.set_cons_zero, List.set_cons_succ]
        refine wpAnyH_done (by kernel_rfl) ?_ _
        have hk := keepH T5.out Z1 HB1.out
        have hk0 := keepH T5.out Z0 HB2.out
        have hk3 := keepH T5.out Z3 HB3.out
        exact ⟨rfl, (keeps_below (W := W) T5.out).trans (KeepsOthers.setCell _ _ _), ⟨by rw [orF_snoc]; exact Boxed.set _ hk, (grownBy_setCell' _ _ _).block _ (Array.getElem?_eq_some_iff.1 hk0).1 (by simp) |>.trans hk0, (grownBy_setCell' _ _ _).block _ (Array.getElem?_eq_some_iff.1 hk3).1 (by simpa using N3.symm) |>.trans hk3⟩, (HBW.out.drew.trans (T5.out.mono HBW.out.size)).setCell (p := ⟨w.heap.size + 1, 0, none⟩) (by simp) _⟩
      · simp only [List.getElem_toArray, List.getElem_cons_succ, List.getElem_cons_zero]
        go_simp
        refine (iAdd _ p q r _ _ _ u v t HT.out (emod_b HT.out.p1) (emod_b HT.out.q1) (emod_b HT.out.r1) BU.out.1 BU.out.2.1 BU.out.2.2).mono ?_
        rintro e w4 ⟨rfl, hb4⟩
        have T4 := Lib.hid (T3.out.trans (hb4.mono T3.out.size))
        refine hK.out _ _ (by obtain ⟨z1, z2, z3, z4, z5, z6⟩ := HS0.out; exact ⟨keepC T4.out Z0 z1, keepC T4.out Z0 z2, keepC T4.out Z0 z3, keepC T4.out Z3 z4, keepC T4.out Z3 z5, keepC T4.out Z3 z6⟩) (fun hHeld => ?_)
        clear hK K
        try simp only [Act.put, List.getElem_toArray, List.getElem_cons_succ, List.getElem_cons_zero, List.setIfInBounds_toArray, List.set_cons_zero, List.set_cons_succ]
        refine wpAnyH_ready (rs := [0, 8]) (by kernel_rfl) (by simp) ?_
        refine AllReadyH.cons (o := _) rfl (fun K hK => ?_) (AllReadyH.cons (o := _) rfl (fun K hK => ?_) (AllReadyH.nil))
        · simp only [List.getElem_toArray, List.getElem_cons_zero]
          have cc := keepC T4.out Z1 HC.out
          go_simp
          clear cc
          refine hK.out _ _ (by obtain ⟨z1, z2, z3, z4, z5, z6⟩ := HS0.out; exact ⟨keepC T4.out Z0 z1, keepC T4.out Z0 z2, keepC T4.out Z0 z3, keepC T4.out Z3 z4, keepC T4.out Z3 z5, keepC T4.out Z3 z6⟩) (fun hHeld => ?_)
          clear hK K
          try simp only [Act.put, List.getElem_toArray, List.getElem_cons_zero, List.setIfInBounds_toArray, List.set_cons_zero, List.set_cons_succ]
          refine wpAnyH_ready (rs := [8]) (by kernel_rfl) (by simp) ?_
          refine AllReadyH.cons (o := _) rfl (fun K hK => ?_) (AllReadyH.nil)
          simp only [List.getElem_toArray, List.getElem_cons_succ, List.getElem_cons_zero]
          go_simp
          refine (iElement _ p q r _ _ _ HT.out (emod_b HT.out.p1) (emod_b HT.out.q1) (emod_b HT.out.r1)).mono ?_
          rintro e w5 ⟨rfl, hb5⟩
          have T5 := Lib.hid (T4.out.trans (hb5.mono T4.out.size))
          refine hK.out _ _ (by obtain ⟨z1, z2, z3, z4, z5, z6⟩ := HS0.out; exact ⟨keepC T5.out Z0 z1, keepC T5.out Z0 z2, keepC T5.out Z0 z3, keepC T5.out Z3 z4, keepC T5.out Z3 z5, keepC T5.out Z3 z6⟩) (fun hHeld => ?_)
          clear hK K
          try simp only [Act.put, List.getElem_toArray, List.getElem_cons_succ, List.getElem_cons_zero, List.setIfInBounds_toArray, List.set_cons_zero, List.set_cons_succ]
          refine wpAnyH_ready (rs := [9]) (by kernel_rfl) (by simp) ?_
          refine AllReadyH.cons (o := _) rfl (fun K hK => ?_) (AllReadyH.nil)
          simp only [List.getElem_toArray, List.getElem_cons_succ, List.getElem_cons_zero]
          go_simp
          rw [HE9.out]
          refine (iWith _ _ _ HO.out HFL.out).mono ?_
          rintro e w6 ⟨rfl, rfl⟩
          refine hK.out _ _ (by obtain ⟨z1, z2, z3, z4, z5, z6⟩ := HS0.out; exact ⟨keepC T5.out Z0 z1, keepC T5.out Z0 z2, keepC T5.out Z0 z3, keepC T5.out Z3 z4, keepC T5.out Z3 z5, keepC T5.out Z3 z6⟩) (fun hHeld => ?_)
          clear hK K
          try simp only [Act.put, List.getElem_toArray, List.getElem_cons_succ, List.getElem_cons_zero, List.setIfInBounds_toArray, List.set_cons_zero, List.set_cons_succ]
          refine wpAnyH_ready (rs := [10]) (by kernel_rfl) (by simp) ?_
          refine AllReadyH.cons (o := _) rfl (fun K hK => ?_) (AllReadyH.nil)
          simp only [List.getElem_toArray, List.getElem_cons_succ, List.getElem_cons_zero]
          have cc := keepC T5.out Z1 HC.out
          have ff := keepF T5.out Z1 HFr.out
          go_simp
          clear cc ff
          refine hK.out _ _ (by obtain ⟨z1, z2, z3, z4, z5, z6⟩ := HS0.out; exact ⟨(World.cell?_setCell_far _ _ _ _ (by simp)).trans (keepC T5.out Z0 z1), (World.cell?_setCell_far _ _ _ _ (by simp)).trans (keepC T5.out Z0 z2), (World.cell?_setCell_far _ _ _ _ (by simp)).trans (keepC T5.out Z0 z3), (World.cell?_setCell_far _ _ _ _ N3).trans (keepC T5.out Z3 z4), (World.cell?_setCell_far _ _ _ _ N3).trans (keepC T5.out Z3 z5), (World.cell?_setCell_far _ _ _ _ N3).trans (keepC T5.out Z3 z6)⟩) (fun hHeld => ?_)
          clear hK K
          try simp only [Act.put, List.getElem_toArray, List.getElem_cons_succ, List.getElem_cons_zero, List.setIfInBounds_toArray, List.set_cons_zero, List.set_cons_succ]
          refine wpAnyH_done (by kernel_rfl) ?_ _
          have hk := keepH T5.out Z1 HB1.out
          have hk0 := keepH T5.out Z0 HB2.out
          have hk3 := keepH T5.out Z3 HB3.out
          exact ⟨rfl, (keeps_below (W := W) T5.out).trans (KeepsOthers.setCell _ _ _), ⟨by rw [orF_snoc]; exact Boxed.set _ hk, (grownBy_setCell' _ _ _).block _ (Array.getElem?_eq_some_iff.1 hk0).1 (by simp) |>.trans hk0, (grownBy_setCell' _ _ _).block _ (Array.getElem?_eq_some_iff.1 hk3).1 (by simpa using N3.symm) |>.trans hk3⟩, (HBW.out.drew.trans (T5.out.mono HBW.out.size)).setCell (p := ⟨w.heap.size + 1, 0, none⟩) (by simp) _⟩
        · simp only [List.getElem_toArray, List.getElem_cons_succ, List.getElem_cons_zero]
          go_simp
          refine (iElement _ p q r _ _ _ HT.out (emod_b HT.out.p1) (emod_b HT.out.q1) (emod_b HT.out.r1)).mono ?_
          rintro e w5 ⟨rfl, hb5⟩
          have T5 := Lib.hid (T4.out.trans (hb5.mono T4.out.size))
          refine hK.out _ _ (by obtain ⟨z1, z2, z3, z4, z5, z6⟩ := HS0.out; exact ⟨keepC T5.out Z0 z1, keepC T5.out Z0 z2, keepC T5.out Z0 z3, keepC T5.out Z3 z4, keepC T5.out Z3 z5, keepC T5.out Z3 z6⟩) (fun hHeld => ?_)
          clear hK K
          try simp only [Act.put, List.getElem_toArray, List.getElem_cons_succ, List.getElem_cons_zero, List.setIfInBounds_toArray, List.set_cons_zero, List.set_cons_succ]
          refine wpAnyH_ready (rs := [0]) (by kernel_rfl) (by simp) ?_
          refine AllReadyH.cons (o := _) rfl (fun K hK => ?_) (AllReadyH.nil)
          simp only [List.getElem_toArray, List.getElem_cons_zero]
          have cc := keepC T5.out Z1 HC.out
          go_simp
          clear cc
          refine hK.out _ _ (by obtain ⟨z1, z2, z3, z4, z5, z6⟩ := HS0.out; exact ⟨keepC T5.out Z0 z1, keepC T5.out Z0 z2, keepC T5.out Z0 z3, keepC T5.out Z3 z4, keepC T5.out Z3 z5, keepC T5.out Z3 z6⟩) (fun hHeld => ?_)
          clear hK K
          try simp only [Act.put, List.getElem_toArray, List.getElem_cons_zero, List.setIfInBounds_toArray, List.set_cons_zero, List.set_cons_succ]
          refine wpAnyH_ready (rs := [9]) (by kernel_rfl) (by simp) ?_
          refine AllReadyH.cons (o := _) rfl (fun K hK => ?_) (AllReadyH.nil)
          simp only [List.getElem_toArray, List.getElem_cons_succ, List.getElem_cons_zero]
          go_simp
          rw [HE9.out]
          refine (iWith _ _ _ HO.out HFL.out).mono ?_
          rintro e w6 ⟨rfl, rfl⟩
          refine hK.out _ _ (by obtain ⟨z1, z2, z3, z4, z5, z6⟩ := HS0.out; exact ⟨keepC T5.out Z0 z1, keepC T5.out Z0 z2, keepC T5.out Z0 z3, keepC T5.out Z3 z4, keepC T5.out Z3 z5, keepC T5.out Z3 z6⟩) (fun hHeld => ?_)
          clear hK K
          try simp only [Act.put, List.getElem_toArray, List.getElem_cons_succ, List.getElem_cons_zero, List.setIfInBounds_toArray, List.set_cons_zero, List.set_cons_succ]
          refine wpAnyH_ready (rs := [10]) (by kernel_rfl) (by simp) ?_
          refine AllReadyH.cons (o := _) rfl (fun K hK => ?_) (AllReadyH.nil)
          simp only [List.getElem_toArray, List.getElem_cons_succ, List.getElem_cons_zero]
          have cc := keepC T5.out Z1 HC.out
          have ff := keepF T5.out Z1 HFr.out
          go_simp
          clear cc ff
          refine hK.out _ _ (by obtain ⟨z1, z2, z3, z4, z5, z6⟩ := HS0.out; exact ⟨(World.cell?_setCell_far _ _ _ _ (by simp)).trans (keepC T5.out Z0 z1), (World.cell?_setCell_far _ _ _ _ (by simp)).trans (keepC T5.out Z0 z2), (World.cell?_setCell_far _ _ _ _ (by simp)).trans (keepC T5.out Z0 z3), (World.cell?_setCell_far _ _ _ _ N3).trans (keepC T5.out Z3 z4), (World.cell?_setCell_far _ _ _ _ N3).trans (keepC T5.out Z3 z5), (World.cell?_setCell_far _ _ _ _ N3).trans (keepC T5.out Z3 z6)⟩) (fun hHeld => ?_)
          clear hK K
          try simp only [Act.put, List.getElem_toArray, List.getElem_cons_succ, List.getElem_cons_zero, List.setIfInBounds_toArray, List.set_cons_zero, List.set_cons_succ]
          refine wpAnyH_done (by kernel_rfl) ?_ _
          have hk := keepH T5.out Z1 HB1.out
          have hk0 := keepH T5.out Z0 HB2.out
          have hk3 := keepH T5.out Z3 HB3.out
          exact ⟨rfl, (keeps_below (W := W) T5.out).trans (KeepsOthers.setCell _ _ _), ⟨by rw [orF_snoc]; exact Boxed.set _ hk, (grownBy_setCell' _ _ _).block _ (Array.getElem?_eq_some_iff.1 hk0).1 (by simp) |>.trans hk0, (grownBy_setCell' _ _ _).block _ (Array.getElem?_eq_some_iff.1 hk3).1 (by simpa using N3.symm) |>.trans hk3⟩, (HBW.out.drew.trans (T5.out.mono HBW.out.size)).setCell (p := ⟨w.heap.size + 1, 0, none⟩) (by simp) _⟩
  case done =>
    rintro D W hD ⟨⟨b1, b2, b3⟩, hB⟩ hK
    have c1 : W.cell? ⟨w.heap.size + 1, 0, none⟩ = some (.int .u64 (orF F (bitsN s) : Nat)) := by simp [World.cell?, b1]
    gi_wp2
    refine ⟨by simp, .inl ⟨_, _, rfl, run_takeDeferred hK, ?_⟩⟩
    exact ⟨_, results_tmp rfl _ _ _, rfl, hB.trans (belowK_b (w := w) (Nat.le_refl _) W D _ _ (by simp at hD; omega) hK rfl rfl)⟩
end Go.Proofs.YthoiabdndaoflaaDoor
