/- The program's own sums of sets: ranges over the elements of a set, each with a set moved by it. -/
import Derived.Test.YtaacofbmbpkeoaaGreatDoorMGAI
import Derived.Test.YtaacofbmbpkeoaaGreatDoorMGAK
import Derived.Test.YtaacofbmbpkeoaaGreatDoorMGAL
namespace Go.Proofs.YtaacofbmbpkeoaaGreatDoor
open Go.RowKit Go.Shelf
attribute [local go_sem] Oper.semAt_some
set_option maxRecDepth 1000000
/-- The set s moved by x, by the three places. -/
def shG (p q r : Int) (s x : Nat) : Nat := orF (shF p q r ((x : Int) % p) ((x : Int) / p % q) ((x : Int) / p / q % r)) (bitsN s)
theorem shG_lt {p q r : Int} (h : Tri p q r) {s x : Nat} (hs : s < 2 ^ (p * q * r).toNat) (hx : (x : Int) < p * q * r) : shG p q r s x < 2 ^ (p * q * r).toNat := by
  have hp : ((p.toNat : Nat) : Int) = p := Int.toNat_of_nonneg (by have := h.p1; omega)
  have hq : ((q.toNat : Nat) : Int) = q := Int.toNat_of_nonneg (by have := h.q1; omega)
  have hr : ((r.toNat : Nat) : Int) = r := Int.toNat_of_nonneg (by have := h.r1; omega)
  obtain ⟨h1, h2, h3, h4, h5, h6, h7, h8, h9, h10⟩ := h
  have e : p.toNat * q.toNat * r.toNat = (p * q * r).toNat := by
    have : ((p.toNat * q.toNat * r.toNat : Nat) : Int) = p * q * r := by rw [Int.natCast_mul, Int.natCast_mul, hp, hq, hr]
    omega
  have g1 := shN_orF (p := p.toNat) (q := q.toNat) (r := r.toNat) (x := x) (s := s) (by omega) (by omega) (by omega) (by omega) (by omega) (by rw [e]; exact hs)
  have g2 := (shN_bit (p := p.toNat) (q := q.toNat) (r := r.toNat) (x := x) (s := s) (by omega) (by omega) (by omega) (by omega) (by omega) (by rw [e]; exact hs)).1
  rw [hp, hq, hr] at g1
  rw [g1, e] at g2
  exact g2
theorem iShG (w : World) (p q r : Int) (s x : Nat) (h : Tri p q r) (hs : s < 2 ^ (p * q * r).toNat) (hx : (x : Int) < p * q * r) :
    Calls Tryz.prog 60 #[tV p q r, .int .u64 s, .int .i64 x] w fun e w' => e = .returned (.int .u64 (shG p q r s x : Nat)) ∧ Below w.heap.size w w' := iShiftN w p q r s x h hs hx
theorem tri_pow {p q r : Int} (h : Tri p q r) {s : Nat} (hs : s < 2 ^ (p * q * r).toNat) : s < 2 ^ 24 :=
  Nat.lt_of_lt_of_le hs (Nat.pow_le_pow_right (by decide) (by have := h.pqr2; omega))
theorem tri_elt {p q r : Int} (h : Tri p q r) {s x : Nat} (hs : s < 2 ^ (p * q * r).toNat) (hx : s.testBit x = true) : (x : Int) < p * q * r := by
  have h1 := h.pqr1
  have : x < (p * q * r).toNat := by
    rcases Nat.lt_or_ge x (p * q * r).toNat with h2 | h2
    · exact h2
    · rw [bit_no hs x h2] at hx; cases hx
  omega
theorem orU (a b : Nat) (ha : a < 16777216) (hb : b < 16777216) : bits .or .u64 (a : Int) (b : Int) = ((a ||| b : Nat) : Int) := bits_or_u64_nat a b (by omega) (by omega)
set_option maxHeartbeats 4000000 in
theorem iSum (w : World) (p q r : Int) (s t : Nat) (h : Tri p q r) (hs : s < 2 ^ (p * q * r).toNat) (ht2 : t < 2 ^ (p * q * r).toNat) (B : Nat) (hB0 : B ≤ w.heap.size) (ht : TabZ B w) :
    Calls Tryz.prog 40 #[tV p q r, .int .u64 s, .int .u64 t] w fun e w' => e = .returned (.int .u64 (orG (fun x => shG p q r t x) (bitsN s) : Nat)) ∧ Below w.heap.size w w' := by
  have HG0 : Hid (∀ x : Nat, (x : Int) < p * q * r → shG p q r t x < 2 ^ (p * q * r).toNat) := Lib.hid (fun x hx => shG_lt h ht2 hx)
  obtain ⟨G, HGG⟩ : ∃ G, Hid ((fun x => shG p q r t x) = G) := ⟨_, Lib.hid rfl⟩
  have HGV : Hid (∀ x : Nat, shG p q r t x = G x) := Lib.hid (fun x => by rw [← HGG.out])
  rw [HGG.out]
  refine (callsIn_wide (n := 4)).1 ?_
  refine callsIn_of_wp_marks Tryz.func40 rfl trivial ?_ rfl
  simp only [Tryz.ntmps40, List.size_toArray, List.length_cons, List.length_nil, Nat.reduceAdd, Nat.reduceSub, Array.replicate_succ, Array.replicate_zero, List.push_toArray, List.append_toArray, List.nil_append, List.cons_append]
  have HT := Lib.hid h
  have HSN := Lib.hid hs
  have HS := Lib.hid (tri_pow h hs)
  have HTS := Lib.hid ht2
  have B2 : Below w.heap.size w (((w.alloc (.cells #[.int .i64 p, .int .i64 q, .int .i64 r] 41)).alloc (.cells #[.int .u64 t] 43)).alloc (.cells #[.int .u64 0] 43)) := Joins.below_alloc3 w _ _ _
  have L1 : (((w.alloc (.cells #[.int .i64 p, .int .i64 q, .int .i64 r] 41)).alloc (.cells #[.int .u64 t] 43)).alloc (.cells #[.int .u64 0] 43)).heap[w.heap.size]? = some (.cells #[.int .i64 p, .int .i64 q, .int .i64 r] 41 (0, 0)) := keepH (Joins.below_alloc2 _ (.cells #[.int .u64 t] 43) (.cells #[.int .u64 0] 43)) (by simp) (heap_alloc_new w (.cells #[.int .i64 p, .int .i64 q, .int .i64 r] 41))
  have L3 : (((w.alloc (.cells #[.int .i64 p, .int .i64 q, .int .i64 r] 41)).alloc (.cells #[.int .u64 t] 43)).alloc (.cells #[.int .u64 0] 43)).heap[w.heap.size + 1]? = some (.cells #[.int .u64 t] 43 (0, 0)) := keepH (Joins.below_alloc1 _ (.cells #[.int .u64 0] 43)) (by simp) (by simpa using heap_alloc_new (w.alloc (.cells #[.int .i64 p, .int .i64 q, .int .i64 r] 41)) (.cells #[.int .u64 t] 43))
  have L2 : (((w.alloc (.cells #[.int .i64 p, .int .i64 q, .int .i64 r] 41)).alloc (.cells #[.int .u64 t] 43)).alloc (.cells #[.int .u64 0] 43)).heap[w.heap.size + 2]? = some (.cells #[.int .u64 0] 43 (0, 0)) := by simpa using heap_alloc_new ((w.alloc (.cells #[.int .i64 p, .int .i64 q, .int .i64 r] 41)).alloc (.cells #[.int .u64 t] 43)) (.cells #[.int .u64 0] 43)
  have HL1 := Lib.hid L1
  have HL2 := Lib.hid L2
  have HL3 := Lib.hid L3
  clear L1 L2 L3 h hs ht2
  gi_wp2
  refine each_loopP s HS.out rfl B
    (fun pre W => (W.heap[w.heap.size + 2]? = some (.cells #[.int .u64 (orG G pre : Nat)] 43 (0, 0)) ∧ W.heap[w.heap.size]? = some (.cells #[.int .i64 p, .int .i64 q, .int .i64 r] 41 (0, 0)) ∧ W.heap[w.heap.size + 1]? = some (.cells #[.int .u64 t] 43 (0, 0))) ∧ Below w.heap.size w W)
    (OwnFrom.and (Own.from (fun s W W' row hs hg hr => ⟨cells_own (w.heap.size + 2) (fun pre => #[.int .u64 (orG G pre : Nat)]) 43 s W W' row hs.1 hg hr, cells_own (β := List Nat) w.heap.size (fun _ => #[.int .i64 p, .int .i64 q, .int .i64 r]) 41 s W W' row hs.2.1 hg hr, cells_own (β := List Nat) (w.heap.size + 1) (fun _ => #[.int .u64 t]) 43 s W W' row hs.2.2 hg hr⟩) _) (ownFrom_below (Nat.le_refl _) (by simp; omega)))
    (fun pre W h => ht.on (h.2.mono hB0))
    ⟨⟨HL2.out, HL1.out, HL3.out⟩, B2⟩
    (fun y => { tmps := #[tV p q r, .int .u64 s, .int .u64 t, .pointer (some ⟨w.heap.size, 0, none⟩), undef, .pointer (some ⟨w.heap.size + 1, 0, none⟩), .int .u64 0, .pointer (some ⟨w.heap.size + 2, 0, none⟩), .int .i64 (y : Nat),
      .int .u64 s, .func (.func 68) #[.int .u64 s] #[], .int .i64 (y : Nat), undef, undef, undef, undef, undef, undef, undef], defers := [] }) ?assign ?body ?done
  case assign =>
    intro l y W K hK
    gi_wp2
    exact hK
  case body =>
    rintro l pre y W hpin hbt hpl ⟨⟨b1, b2, b3⟩, hB⟩
    have HB1 := Lib.hid b1
    have HB2 := Lib.hid b2
    have HB3 := Lib.hid b3
    have HBW := Lib.hid hB
    have c1 : W.cell? ⟨w.heap.size + 2, 0, none⟩ = some (.int .u64 (orG G pre : Nat)) := by simp [World.cell?, b1]
    have f1 : W.frozen? ⟨w.heap.size + 2, 0, none⟩ = false := by simp [World.frozen?, b1]
    obtain ⟨d0, d1, d2, _, _, _⟩ := trip_cell b2
    have e0 : W.cell? ⟨w.heap.size + 1, 0, none⟩ = some (.int .u64 t) := by simp [World.cell?, b3]
    clear b1 b2 b3 hB
    have HYN := Lib.hid (tri_elt HT.out HSN.out hbt)
    have hOl : orG G pre < 2 ^ (p * q * r).toNat := orG_lt _ _ _ (fun x hx => by rw [← HGV.out]; exact HG0.out x (tri_elt HT.out HSN.out (hpin x hx)))
    have hVl := HG0.out y HYN.out
    obtain ⟨O, HOO⟩ : ∃ O, Hid (orG G pre = O) := ⟨_, Lib.hid rfl⟩
    obtain ⟨V, HV⟩ : ∃ V, Hid (G y = V) := ⟨_, Lib.hid rfl⟩
    rw [HOO.out] at c1 hOl
    rw [HGV.out, HV.out] at hVl
    have HOR := Lib.hid (orU O V (lt24 (tri_pow HT.out hOl)) (lt24 (tri_pow HT.out hVl)))
    have HSH : Hid (shG p q r t y = V) := Lib.hid (by rw [HGV.out, HV.out])
    clear hOl hVl
    gi_wp2
    refine region_round (S := (fun W' => W'.cell? ⟨w.heap.size, 0, none⟩ = some (.int .i64 p) ∧ W'.cell? ⟨w.heap.size, 1, none⟩ = some (.int .i64 q) ∧ W'.cell? ⟨w.heap.size, 2, none⟩ = some (.int .i64 r) ∧ W'.cell? ⟨w.heap.size + 1, 0, none⟩ = some (.int .u64 t)))
      (by kernel_rfl) (no_defer (by kernel_rfl)) (fun ⟨a', w', h'⟩ => by have h3 := And.left (a := Exit.outgrown = Exit.normal) h'; cases h3) ⟨d0, d1, d2, e0⟩ (fun hHeld => ?_)
    refine wpAnyH_take (i := 1) (oi := _) (v := (tV p q r)) rfl (by kernel_rfl) (by kernel_rfl) (by kernel_rfl) (fun _ _ _ h => h) (Or.inl ⟨by rfl, ?_⟩) (by assumption) ?_
    · intro W' hSw
      obtain ⟨z0, z1, z2, z3⟩ := hSw
      simp only [List.getElem_toArray, List.getElem_cons_succ, List.getElem_cons_zero]
      go_simp
    simp only [Act.put, List.getElem_toArray, List.getElem_cons_succ, List.getElem_cons_zero, List.setIfInBounds_toArray, List.set_cons_zero, List.set_cons_succ]
    refine wpAnyH_take (i := 2) (oi := _) (v := (.int .u64 t)) rfl (by kernel_rfl) (by kernel_rfl) (by kernel_rfl) (fun _ _ _ h => h) (Or.inl ⟨by rfl, ?_⟩) (by assumption) ?_
    · intro W' hSw
      obtain ⟨z0, z1, z2, z3⟩ := hSw
      simp only [List.getElem_toArray, List.getElem_cons_succ, List.getElem_cons_zero]
      go_simp
    simp only [Act.put, List.getElem_toArray, List.getElem_cons_succ, List.getElem_cons_zero, List.setIfInBounds_toArray, List.set_cons_zero, List.set_cons_succ]
    refine wpAnyH_take (i := 3) (oi := _) (v := (.int .i64 (y : Nat))) rfl (by kernel_rfl) (by kernel_rfl) (by kernel_rfl) (fun _ _ _ h => h) (Or.inl ⟨by rfl, ?_⟩) (by assumption) ?_
    · intro W' hSw
      obtain ⟨z0, z1, z2, z3⟩ := hSw
      simp only [List.getElem_toArray, List.getElem_cons_succ, List.getElem_cons_zero]
      go_simp
    simp only [Act.put, List.getElem_toArray, List.getElem_cons_succ, List.getElem_cons_zero, List.setIfInBounds_toArray, List.set_cons_zero, List.set_cons_succ]
    have HS0 := Lib.hid hHeld
    have Z0 : w.heap.size < W.drew.heap.size := by have := HBW.out.size; have := (Array.getElem?_eq_some_iff.1 HB1.out).1; simp at *; omega
    have ZS : w.heap.size + 2 < W.drew.heap.size := by have := (Array.getElem?_eq_some_iff.1 HB1.out).1; simpa using this
    have Z3 : w.heap.size + 1 < W.drew.heap.size := by have := (Array.getElem?_eq_some_iff.1 HB3.out).1; simpa using this
    have c1' : W.drew.cell? ⟨w.heap.size + 2, 0, none⟩ = some (.int .u64 (O : Nat)) := c1 
    have f1' : W.drew.frozen? ⟨w.heap.size + 2, 0, none⟩ = false := f1 
    have HC := Lib.hid c1'
    have HFr := Lib.hid f1'
    clear c1 f1 c1' f1'
    have T2 := Lib.hid (Below.refl W.drew.heap.size W.drew)
    refine wpAnyH_ready (rs := [0, 4]) (by kernel_rfl) (by simp) ?_
    refine AllReadyH.cons (o := _) rfl (fun K hK => ?_) (AllReadyH.cons (o := _) rfl (fun K hK => ?_) (AllReadyH.nil))
    · simp only [List.getElem_toArray, List.getElem_cons_zero]
      have cc := keepC T2.out ZS HC.out
      go_simp
      clear cc
      refine hK.out _ _ (by obtain ⟨z0, z1, z2, z3⟩ := HS0.out; exact ⟨keepC T2.out Z0 z0, keepC T2.out Z0 z1, keepC T2.out Z0 z2, keepC T2.out Z3 z3⟩) (fun hHeld => ?_)
      clear hK K
      try simp only [Act.put, List.getElem_toArray, List.getElem_cons_zero, List.setIfInBounds_toArray, List.set_cons_zero, List.set_cons_succ]
      refine wpAnyH_ready (rs := [4]) (by kernel_rfl) (by simp) ?_
      refine AllReadyH.cons (o := _) rfl (fun K hK => ?_) (AllReadyH.nil)
      simp only [List.getElem_toArray, List.getElem_cons_succ, List.getElem_cons_zero]
      go_simp
      refine (iShG _ p q r t y HT.out HTS.out HYN.out).mono ?_
      rw [HSH.out]
      rintro e w3 ⟨rfl, hb3⟩
      have T3 := Lib.hid (T2.out.trans (hb3.mono T2.out.size))
      refine hK.out _ _ (by obtain ⟨z0, z1, z2, z3⟩ := HS0.out; exact ⟨keepC T3.out Z0 z0, keepC T3.out Z0 z1, keepC T3.out Z0 z2, keepC T3.out Z3 z3⟩) (fun hHeld => ?_)
      clear hK K
      try simp only [Act.put, List.getElem_toArray, List.getElem_cons_succ, List.getElem_cons_zero, List.setIfInBounds_toArray, List.set_cons_zero, List.set_cons_succ]
      refine wpAnyH_ready (rs := [5]) (by kernel_rfl) (by simp) ?_
      refine AllReadyH.cons (o := _) rfl (fun K hK => ?_) (AllReadyH.nil)
      simp only [List.getElem_toArray, List.getElem_cons_succ, List.getElem_cons_zero]
      have hor := HOR.out
      go_simp
      clear hor
      refine hK.out _ _ (by obtain ⟨z0, z1, z2, z3⟩ := HS0.out; exact ⟨keepC T3.out Z0 z0, keepC T3.out Z0 z1, keepC T3.out Z0 z2, keepC T3.out Z3 z3⟩) (fun hHeld => ?_)
      clear hK K
      try simp only [Act.put, List.getElem_toArray, List.getElem_cons_succ, List.getElem_cons_zero, List.setIfInBounds_toArray, List.set_cons_zero, List.set_cons_succ]
      refine wpAnyH_ready (rs := [6]) (by kernel_rfl) (by simp) ?_
      refine AllReadyH.cons (o := _) rfl (fun K hK => ?_) (AllReadyH.nil)
      simp only [List.getElem_toArray, List.getElem_cons_succ, List.getElem_cons_zero]
      have cc := keepC T3.out ZS HC.out
      have ff := keepF T3.out ZS HFr.out
      go_simp
      clear cc ff
      refine hK.out _ _ (by obtain ⟨z0, z1, z2, z3⟩ := HS0.out; exact ⟨(World.cell?_setCell_far _ _ _ _ (by simp)).trans (keepC T3.out Z0 z0), (World.cell?_setCell_far _ _ _ _ (by simp)).trans (keepC T3.out Z0 z1), (World.cell?_setCell_far _ _ _ _ (by simp)).trans (keepC T3.out Z0 z2), (World.cell?_setCell_far _ _ _ _ (by simp)).trans (keepC T3.out Z3 z3)⟩) (fun hHeld => ?_)
      clear hK K
      try simp only [Act.put, List.getElem_toArray, List.getElem_cons_succ, List.getElem_cons_zero, List.setIfInBounds_toArray, List.set_cons_zero, List.set_cons_succ]
      refine wpAnyH_done (by kernel_rfl) ?_ _
      have hk := keepH T3.out ZS HB1.out
      have hk0 := keepH T3.out Z0 HB2.out
      have hk3 := keepH T3.out Z3 HB3.out
      exact ⟨rfl, (keeps_below (W := W) T3.out).trans (KeepsOthers.setCell _ _ _), ⟨by rw [orG_snoc, HV.out, HOO.out]; exact Boxed.set _ hk, (grownBy_setCell' _ _ _).block _ (Array.getElem?_eq_some_iff.1 hk0).1 (by simp) |>.trans hk0, (grownBy_setCell' _ _ _).block _ (Array.getElem?_eq_some_iff.1 hk3).1 (by simp) |>.trans hk3⟩, (HBW.out.drew.trans (T3.out.mono HBW.out.size)).setCell (p := ⟨w.heap.size + 2, 0, none⟩) (by simp) _⟩
    · simp only [List.getElem_toArray, List.getElem_cons_succ, List.getElem_cons_zero]
      go_simp
      refine (iShG _ p q r t y HT.out HTS.out HYN.out).mono ?_
      rw [HSH.out]
      rintro e w3 ⟨rfl, hb3⟩
      have T3 := Lib.hid (T2.out.trans (hb3.mono T2.out.size))
      refine hK.out _ _ (by obtain ⟨z0, z1, z2, z3⟩ := HS0.out; exact ⟨keepC T3.out Z0 z0, keepC T3.out Z0 z1, keepC T3.out Z0 z2, keepC T3.out Z3 z3⟩) (fun hHeld => ?_)
      clear hK K
      try simp only [Act.put, List.getElem_toArray, List.getElem_cons_succ, List.getElem_cons_zero, List.setIfInBounds_toArray, List.set_cons_zero, List.set_cons_succ]
      refine wpAnyH_ready (rs := [0]) (by kernel_rfl) (by simp) ?_
      refine AllReadyH.cons (o := _) rfl (fun K hK => ?_) (AllReadyH.nil)
      simp only [List.getElem_toArray, List.getElem_cons_zero]
      have cc := keepC T3.out ZS HC.out
      go_simp
      clear cc
      refine hK.out _ _ (by obtain ⟨z0, z1, z2, z3⟩ := HS0.out; exact ⟨keepC T3.out Z0 z0, keepC T3.out Z0 z1, keepC T3.out Z0 z2, keepC T3.out Z3 z3⟩) (fun hHeld => ?_)
      clear hK K
      try simp only [Act.put, List.getElem_toArray, List.getElem_cons_zero, List.setIfInBounds_toArray, List.set_cons_zero, List.set_cons_succ]
      refine wpAnyH_ready (rs := [5]) (by kernel_rfl) (by simp) ?_
      refine AllReadyH.cons (o := _) rfl (fun K hK => ?_) (AllReadyH.nil)
      simp only [List.getElem_toArray, List.getElem_cons_succ, List.getElem_cons_zero]
      have hor := HOR.out
      go_simp
      clear hor
      refine hK.out _ _ (by obtain ⟨z0, z1, z2, z3⟩ := HS0.out; exact ⟨keepC T3.out Z0 z0, keepC T3.out Z0 z1, keepC T3.out Z0 z2, keepC T3.out Z3 z3⟩) (fun hHeld => ?_)
      clear hK K
      try simp only [Act.put, List.getElem_toArray, List.getElem_cons_succ, List.getElem_cons_zero, List.setIfInBounds_toArray, List.set_cons_zero, List.set_cons_succ]
      refine wpAnyH_ready (rs := [6]) (by kernel_rfl) (by simp) ?_
      refine AllReadyH.cons (o := _) rfl (fun K hK => ?_) (AllReadyH.nil)
      simp only [List.getElem_toArray, List.getElem_cons_succ, List.getElem_cons_zero]
      have cc := keepC T3.out ZS HC.out
      have ff := keepF T3.out ZS HFr.out
      go_simp
      clear cc ff
      refine hK.out _ _ (by obtain ⟨z0, z1, z2, z3⟩ := HS0.out; exact ⟨(World.cell?_setCell_far _ _ _ _ (by simp)).trans (keepC T3.out Z0 z0), (World.cell?_setCell_far _ _ _ _ (by simp)).trans (keepC T3.out Z0 z1), (World.cell?_setCell_far _ _ _ _ (by simp)).trans (keepC T3.out Z0 z2), (World.cell?_setCell_far _ _ _ _ (by simp)).trans (keepC T3.out Z3 z3)⟩) (fun hHeld => ?_)
      clear hK K
      try simp only [Act.put, List.getElem_toArray, List.getElem_cons_succ, List.getElem_cons_zero, List.setIfInBounds_toArray, List.set_cons_zero, List.set_cons_succ]
      refine wpAnyH_done (by kernel_rfl) ?_ _
      have hk := keepH T3.out ZS HB1.out
      have hk0 := keepH T3.out Z0 HB2.out
      have hk3 := keepH T3.out Z3 HB3.out
      exact ⟨rfl, (keeps_below (W := W) T3.out).trans (KeepsOthers.setCell _ _ _), ⟨by rw [orG_snoc, HV.out, HOO.out]; exact Boxed.set _ hk, (grownBy_setCell' _ _ _).block _ (Array.getElem?_eq_some_iff.1 hk0).1 (by simp) |>.trans hk0, (grownBy_setCell' _ _ _).block _ (Array.getElem?_eq_some_iff.1 hk3).1 (by simp) |>.trans hk3⟩, (HBW.out.drew.trans (T3.out.mono HBW.out.size)).setCell (p := ⟨w.heap.size + 2, 0, none⟩) (by simp) _⟩
  case done =>
    rintro D W hD ⟨⟨b1, b2, b3⟩, hB⟩ hK
    have c1 : W.cell? ⟨w.heap.size + 2, 0, none⟩ = some (.int .u64 (orG G (bitsN s) : Nat)) := by simp [World.cell?, b1]
    gi_wp2
    refine ⟨by simp, .inl ⟨_, _, rfl, run_takeDeferred hK, ?_⟩⟩
    exact ⟨_, results_tmp rfl _ _ _, rfl, hB.trans (belowK_b (w := w) (Nat.le_refl _) W D _ _ (by simp at hD; omega) hK rfl rfl)⟩
end Go.Proofs.YtaacofbmbpkeoaaGreatDoor
