/- The contracts of the program's own RestrictedSum and SubsetSums. -/
import Derived.Test.YtkejpikhlejmaaaDoorSumK
import Derived.Test.YtkejpikhlejmaaaDoorSumSpec2
namespace Go.Proofs.YtkejpikhlejmaaaDoor
open Go.RowKit Go.Shelf
attribute [local go_sem] Oper.semAt_some
set_option maxRecDepth 1000000
theorem iWithout (w : World) (s x : Nat) (hs : s < 16777216) (hx : x ≤ 23) :
    Calls Tryd.prog 53 #[.int .u64 s, .int .i64 x] w fun e w' => e = .returned (.int .u64 (woN s x : Nat)) ∧ w = w' := by
  have hp := pow_le24 (k := x) (by omega)
  have hw : IntKind.u64.wrap (2 ^ x) = ((2 ^ x : Nat) : Int) := by
    rw [pow_nat, IntKind.wrap_u64]
    generalize 2 ^ x = N at *
    omega
  have hb : bits .andNot .u64 (s : Int) ((2 ^ x : Nat) : Int) = ((woN s x : Nat) : Int) := bits_andNot s (2 ^ x) (by omega) (by omega)
  obtain ⟨r, hr⟩ : ∃ r, woN s x = r := ⟨_, rfl⟩
  rw [hr] at hb
  rw [hr]
  rw [← hw] at hb
  clear hr hw hp
  go_enter Tryd.func53, Tryd.ntmps53
  go_wp2
  go_ret
  exact ⟨rfl, rfl⟩
set_option maxHeartbeats 4000000 in
theorem iRst (w : World) (a : Option Addr) (l : List Int) (n cap : Nat) (s t : Int) (hn : n = l.length) (hm : n ≤ 9223372036854775807) (hi : Ints w a l) (B : Nat) (hB0 : B ≤ w.heap.size) (ht : TabZ B w) :
    Calls Tryd.prog 17 #[.agg #[.slice a n cap], .int .i64 s, .int .i64 t] w fun e w' => e = .returned (.int .i64 (rstE l s t)) ∧ Below w.heap.size w w' := by
  have HTZ := Lib.hid ht
  clear ht
  have HI := Lib.hid (ints_alloc hi (.cells #[.slice a n cap] 26))
  have HN := Lib.hid hn
  have C1 := newC w (.slice a n cap) 26 (n := w.heap.size) rfl
  have HB := Lib.hid (Joins.below_alloc1 w (.cells #[.slice a n cap] 26))
  have T0 := Lib.hid (Below.refl (w.alloc (.cells #[.slice a n cap] 26)).heap.size (w.alloc (.cells #[.slice a n cap] 26)))
  clear hi hn
  cases hs : two l s t with
  | false =>
    have HS := Lib.hid hs
    rw [show rstE l s t = -1 by unfold rstE; rw [if_neg (by simp [hs])]]
    clear hs
    go_enter Tryd.func17, Tryd.ntmps17
    go_wp2_with (go_at_call 50; refine (iSetsIn_no _ _ _ _ _ _ _ HN.out hm (HI.out.below rfl T0.out) HS.out).mono ?_; rintro e w1 ⟨p, q, r, u, v, rfl, hb1⟩)
    go_ret
    exact ⟨rfl, HB.out.trans (((hb1.mono (by simp)).alloc (Nat.le_trans (by simp) hb1.size) _).alloc (by have := hb1.size; simp at *; omega) _)⟩
  | true =>
    have HS := Lib.hid hs
    obtain ⟨hg, s, t, rfl, rfl, hsn, htn⟩ := two_true hs
    rw [show rstE l s t = (rstN l s t : Nat) by unfold rstE; rw [if_pos hs]; rfl]
    have HT := Lib.hid (tri_grp hg)
    have HP := prod_pad (grpB_true hg).1
    have HVL : Hid (orG (fun x => movN l (woN t x) x) (bitsN s) < 16777216) := Lib.hid (grp_pow hg (rstN_lt hg s t))
    have HGL : Hid (∀ L, orG (fun x => movN l (woN t x) x) L < 2 ^ (l.getD 0 1 * l.getD 1 1 * l.getD 2 1).toNat) := Lib.hid (fun L => by rw [← HP]; exact orG_lt _ _ _ (fun x _ => movN_lt hg _ x))
    have HGY : Hid (∀ x, movN l (woN t x) x < 2 ^ (l.getD 0 1 * l.getD 1 1 * l.getD 2 1).toNat) := Lib.hid (fun x => by rw [← HP]; exact movN_lt hg _ x)
    have HGV : Hid (∀ x, shG (l.getD 0 1) (l.getD 1 1) (l.getD 2 1) (woN t x) x = movN l (woN t x) x) := Lib.hid (fun x => shG_mov hg _ x)
    have HVE : Hid (rstN l s t = orG (fun x => movN l (woN t x) x) (bitsN s)) := Lib.hid rfl
    rw [HP] at hsn htn
    obtain ⟨p, EP⟩ : ∃ p, Hid (l.getD 0 1 = p) := ⟨_, Lib.hid rfl⟩
    obtain ⟨q, EQ⟩ : ∃ q, Hid (l.getD 1 1 = q) := ⟨_, Lib.hid rfl⟩
    obtain ⟨r, ER⟩ : ∃ r, Hid (l.getD 2 1 = r) := ⟨_, Lib.hid rfl⟩
    rw [EP.out, EQ.out, ER.out] at HT hsn htn HGL HGY HGV
    have HA := Lib.hid hsn
    have HTS := Lib.hid htn
    obtain ⟨G, HGG⟩ : ∃ G, Hid ((fun x => movN l (woN t x) x) = G) := ⟨_, Lib.hid rfl⟩
    have HGX : Hid (∀ x, movN l (woN t x) x = G x) := Lib.hid (fun x => by rw [← HGG.out])
    rw [HGG.out] at HVL HGL HVE
    clear hs hg HP hsn htn
    refine (callsIn_wide (n := 4)).1 ?_
    refine callsIn_of_wp_marks Tryd.func17 rfl trivial ?_ rfl
    simp only [Tryd.ntmps17, List.size_toArray, List.length_cons, List.length_nil, Nat.reduceAdd, Nat.reduceSub, Array.replicate_succ, Array.replicate_zero, List.push_toArray, List.append_toArray, List.nil_append, List.cons_append]
    gi_wp2
    refine ⟨trivial, ?_⟩
    refine (callsIn_wide.2 (iSetsIn_yes _ _ _ _ _ _ _ HN.out hm (HI.out.below rfl T0.out) HS.out)).mono ?_
    rw [EP.out, EQ.out, ER.out]
    rintro e w1 ⟨rfl, hb1⟩
    have HW := Lib.hid (HB.out.trans (hb1.mono (by simp)))
    have hws := HW.out.size
    have HTZ1 := Lib.hid (HTZ.out.on (HW.out.mono hB0))
    clear hb1
    gi_wp2
    have L0 : (((w1.alloc (.cells #[.int .i64 p, .int .i64 q, .int .i64 r] 49)).alloc (.cells #[.int .u64 t] 51)).alloc (.cells #[.int .u64 0] 51)).heap[w1.heap.size]? = some (.cells #[.int .i64 p, .int .i64 q, .int .i64 r] 49 (0, 0)) := keepH (Joins.below_alloc2 _ (.cells #[.int .u64 t] 51) (.cells #[.int .u64 0] 51)) (by simp) (heap_alloc_new w1 (.cells #[.int .i64 p, .int .i64 q, .int .i64 r] 49))
    have L1 : (((w1.alloc (.cells #[.int .i64 p, .int .i64 q, .int .i64 r] 49)).alloc (.cells #[.int .u64 t] 51)).alloc (.cells #[.int .u64 0] 51)).heap[w1.heap.size + 1]? = some (.cells #[.int .u64 t] 51 (0, 0)) := keepH (Joins.below_alloc1 _ (.cells #[.int .u64 0] 51)) (by simp) (by simpa using heap_alloc_new (w1.alloc (.cells #[.int .i64 p, .int .i64 q, .int .i64 r] 49)) (.cells #[.int .u64 t] 51))
    have L2 : (((w1.alloc (.cells #[.int .i64 p, .int .i64 q, .int .i64 r] 49)).alloc (.cells #[.int .u64 t] 51)).alloc (.cells #[.int .u64 0] 51)).heap[w1.heap.size + 1 + 1]? = some (.cells #[.int .u64 0] 51 (0, 0)) := by simpa using heap_alloc_new ((w1.alloc (.cells #[.int .i64 p, .int .i64 q, .int .i64 r] 49)).alloc (.cells #[.int .u64 t] 51)) (.cells #[.int .u64 0] 51)
    have HL0 := Lib.hid L0
    have HL1 := Lib.hid L1
    have HL2 := Lib.hid L2
    clear L0 L1 L2
    refine each_loopP s (tri_pow HT.out HA.out) rfl B
      (fun pre W => (W.heap[w1.heap.size + 1 + 1]? = some (.cells #[.int .u64 (orG G pre : Nat)] 51 (0, 0)) ∧ W.heap[w1.heap.size]? = some (.cells #[.int .i64 p, .int .i64 q, .int .i64 r] 49 (0, 0)) ∧ W.heap[w1.heap.size + 1]? = some (.cells #[.int .u64 t] 51 (0, 0))) ∧ Below w1.heap.size w1 W)
      (OwnFrom.and (Own.from (fun s W W' row hs hg hr => ⟨cells_own (w1.heap.size + 1 + 1) (fun pre => #[.int .u64 (orG G pre : Nat)]) 51 s W W' row hs.1 hg hr, cells_own (β := List Nat) (w1.heap.size) (fun _ => #[.int .i64 p, .int .i64 q, .int .i64 r]) 49 s W W' row hs.2.1 hg hr, cells_own (β := List Nat) (w1.heap.size + 1) (fun _ => #[.int .u64 t]) 51 s W W' row hs.2.2 hg hr⟩) _) (ownFrom_below (Nat.le_refl _) (by simp; omega)))
      (fun pre W h => HTZ1.out.on (h.2.mono (Nat.le_trans hB0 hws)))
      ⟨⟨HL2.out, HL0.out, HL1.out⟩, Joins.below_alloc3 w1 (.cells #[.int .i64 p, .int .i64 q, .int .i64 r] 49) (.cells #[.int .u64 t] 51) (.cells #[.int .u64 0] 51)⟩
      (fun y => { tmps := #[.agg #[.slice a n cap], .int .i64 (s : Nat), .int .i64 (t : Nat), .pointer (some ⟨w.heap.size, 0, none⟩), undef, undef, .int .i64 0, .pointer (some ⟨w1.heap.size, 0, none⟩), .int .u64 (s : Nat), .pointer (some ⟨w1.heap.size + 1, 0, none⟩), .bool true, .pointer (some ⟨w1.heap.size + 1 + 1, 0, none⟩), .int .i64 (y : Nat), .tuple #[tV p q r, .int .u64 (s : Nat), .int .u64 (t : Nat), .bool true], .agg #[.slice a n cap], .int .i64 (s : Nat), .int .i64 (t : Nat), .tuple #[tV p q r, .int .u64 (s : Nat), .int .u64 (t : Nat), .bool true], tV p q r, .int .u64 (s : Nat), .int .u64 (t : Nat), .bool true, .bool true, .bool false, .int .u64 (s : Nat), .func (.func 51) #[.int .u64 (s : Nat)] #[], .int .i64 (y : Nat), undef, undef, undef, undef, undef, undef, undef, undef, undef, undef], defers := [] }) ?assign ?body ?done
    case assign =>
      intro lo y W K hK
      gi_wp2
      exact hK
    case body =>
      rintro lo pre y W _ hbt hpl ⟨⟨b1, b2, b3⟩, hB⟩
      have HB1 := Lib.hid b1
      have HB2 := Lib.hid b2
      have HB3 := Lib.hid b3
      have HBW := Lib.hid hB
      have c1 : W.cell? ⟨w1.heap.size + 1 + 1, 0, none⟩ = some (.int .u64 (orG G pre : Nat)) := by simp [World.cell?, b1]
      have f1 : W.frozen? ⟨w1.heap.size + 1 + 1, 0, none⟩ = false := by simp [World.frozen?, b1]
      obtain ⟨d0, d1, d2, _, _, _⟩ := trip_cell b2
      have e0 : W.cell? ⟨w1.heap.size + 1, 0, none⟩ = some (.int .u64 t) := by simp [World.cell?, b3]
      clear b1 b2 b3 hB
      have HYN := Lib.hid (tri_elt HT.out HA.out hbt)
      have HY23 : Hid (y ≤ 23) := Lib.hid (by have := HYN.out; have := HT.out.pqr2; omega)
      have HT24 : Hid (t < 16777216) := Lib.hid (tri_pow HT.out HTS.out)
      have HWL : Hid (woN t y < 2 ^ (p * q * r).toNat) := Lib.hid (woN_le t y HTS.out)
      have hOl := HGL.out pre
      have hVl := HGY.out y
      obtain ⟨O, HOO⟩ : ∃ O, Hid (orG G pre = O) := ⟨_, Lib.hid rfl⟩
      obtain ⟨V, HV⟩ : ∃ V, Hid (G y = V) := ⟨_, Lib.hid rfl⟩
      rw [HOO.out] at c1 hOl
      rw [HGX.out, HV.out] at hVl
      have HOR := Lib.hid (orU O V (lt24 (tri_pow HT.out hOl)) (lt24 (tri_pow HT.out hVl)))
      have HSH : Hid (shG p q r (woN t y) y = V) := Lib.hid (by rw [HGV.out, HGX.out, HV.out])
      clear hOl hVl
      gi_wp2
      refine region_round (S := (fun W' => W'.cell? ⟨w1.heap.size, 0, none⟩ = some (.int .i64 p) ∧ W'.cell? ⟨w1.heap.size, 1, none⟩ = some (.int .i64 q) ∧ W'.cell? ⟨w1.heap.size, 2, none⟩ = some (.int .i64 r) ∧ W'.cell? ⟨w1.heap.size + 1, 0, none⟩ = some (.int .u64 t)))
        (by kernel_rfl) (no_defer (by kernel_rfl)) (fun ⟨a', w', h'⟩ => by have h3 := And.left (a := Exit.outgrown = Exit.normal) h'; cases h3) ⟨d0, d1, d2, e0⟩ (fun hHeld => ?_)
      refine wpAnyH_take (i := 1) (oi := _) (v := (tV p q r)) rfl (by kernel_rfl) (by kernel_rfl) (by kernel_rfl) (fun _ _ _ h => h) (Or.inl ⟨by rfl, ?_⟩) (by assumption) ?_
      · intro W' hSw
        obtain ⟨z0, z1, z2, z3⟩ := hSw
        simp only [List.getElem_toArray, List.getElem_cons_succ, List.getElem_cons_zero]
        go_simp
      simp only [Act.put, List.getElem_toArray, List.getElem_cons_succ, List.getElem_cons_zero, List.setIfInBounds_toArray, List.set_cons_zero, List.set_cons_succ]
      refine wpAnyH_take (i := 2) (oi := _) (v := (.int .u64 t)) rfl (by kernel_rfl) (by kernel_rfl) (by kernel_rfl) (fun _ _ _ h => h) (Or.inl ⟨by rfl, ?_⟩) (by assumption) ?_
      · intro W' hSw
        obtain ⟨z0, z1, z2, z3⟩ := hSw
        simp only [List.getElem_toArray, List.getElem_cons_succ, List.getElem_cons_zero]
        go_simp
      simp only [Act.put, List.getElem_toArray, List.getElem_cons_succ, List.getElem_cons_zero, List.setIfInBounds_toArray, List.set_cons_zero, List.set_cons_succ]
      refine wpAnyH_take (i := 3) (oi := _) (v := (.int .i64 (y : Nat))) rfl (by kernel_rfl) (by kernel_rfl) (by kernel_rfl) (fun _ _ _ h => h) (Or.inl ⟨by rfl, ?_⟩) (by assumption) ?_
      · intro W' hSw
        obtain ⟨z0, z1, z2, z3⟩ := hSw
        simp only [List.getElem_toArray, List.getElem_cons_succ, List.getElem_cons_zero]
        go_simp
      simp only [Act.put, List.getElem_toArray, List.getElem_cons_succ, List.getElem_cons_zero, List.setIfInBounds_toArray, List.set_cons_zero, List.set_cons_succ]
      refine wpAnyH_take (i := 5) (oi := _) (v := (.int .i64 (y : Nat))) rfl (by kernel_rfl) (by kernel_rfl) (by kernel_rfl) (fun _ _ _ h => h) (Or.inl ⟨by rfl, ?_⟩) (by assumption) ?_
      · intro W' hSw
        obtain ⟨z0, z1, z2, z3⟩ := hSw
        simp only [List.getElem_toArray, List.getElem_cons_succ, List.getElem_cons_zero]
        go_simp
      simp only [Act.put, List.getElem_toArray, List.getElem_cons_succ, List.getElem_cons_zero, List.setIfInBounds_toArray, List.set_cons_zero, List.set_cons_succ]
      have HS0 := Lib.hid hHeld
      have Z0 : w1.heap.size < W.drew.heap.size := by have := HBW.out.size; have := (Array.getElem?_eq_some_iff.1 HB1.out).1; simp at *; omega
      have ZS : w1.heap.size + 1 + 1 < W.drew.heap.size := by have := (Array.getElem?_eq_some_iff.1 HB1.out).1; simpa using this
      have Z3 : w1.heap.size + 1 < W.drew.heap.size := by have := (Array.getElem?_eq_some_iff.1 HB3.out).1; simpa using this
      have c1' : W.drew.cell? ⟨w1.heap.size + 1 + 1, 0, none⟩ = some (.int .u64 (O : Nat)) := c1 
      have f1' : W.drew.frozen? ⟨w1.heap.size + 1 + 1, 0, none⟩ = false := f1 
      have HC := Lib.hid c1'
      have HFr := Lib.hid f1'
      clear c1 f1 c1' f1'
      have T2 := Lib.hid (Below.refl W.drew.heap.size W.drew)
      refine wpAnyH_ready (rs := [0, 4]) (by kernel_rfl) (by simp) ?_
      refine AllReadyH.cons (o := _) rfl (fun K hK => ?_) (AllReadyH.cons (o := _) rfl (fun K hK => ?_) (AllReadyH.nil))
      · simp only [List.getElem_toArray, List.getElem_cons_zero]
        have cc := keepC T2.out ZS HC.out
        go_simp
        clear cc
        refine hK.out _ _ (by obtain ⟨z0, z1, z2, z3⟩ := HS0.out; exact ⟨keepC T2.out Z0 z0, keepC T2.out Z0 z1, keepC T2.out Z0 z2, keepC T2.out Z3 z3⟩) (fun hHeld => ?_)
        clear hK K
        try simp only [Act.put, List.getElem_toArray, List.getElem_cons_zero, List.setIfInBounds_toArray, List.set_cons_zero, List.set_cons_succ]
        refine wpAnyH_ready (rs := [4]) (by kernel_rfl) (by simp) ?_
        refine AllReadyH.cons (o := _) rfl (fun K hK => ?_) (AllReadyH.nil)
        simp only [List.getElem_toArray, List.getElem_cons_succ, List.getElem_cons_zero]
        go_simp
        refine (iWithout _ t y HT24.out HY23.out).mono ?_
        rintro e w3 ⟨rfl, rfl⟩
        refine hK.out _ _ (by obtain ⟨z0, z1, z2, z3⟩ := HS0.out; exact ⟨keepC T2.out Z0 z0, keepC T2.out Z0 z1, keepC T2.out Z0 z2, keepC T2.out Z3 z3⟩) (fun hHeld => ?_)
        clear hK K
        try simp only [Act.put, List.getElem_toArray, List.getElem_cons_succ, List.getElem_cons_zero, List.setIfInBounds_toArray, List.set_cons_zero, List.set_cons_succ]
        refine wpAnyH_ready (rs := [6]) (by kernel_rfl) (by simp) ?_
        refine AllReadyH.cons (o := _) rfl (fun K hK => ?_) (AllReadyH.nil)
        simp only [List.getElem_toArray, List.getElem_cons_succ, List.getElem_cons_zero]
        go_simp
        refine (iShG _ p q r (woN t y) y HT.out HWL.out HYN.out).mono ?_
        rw [HSH.out]
        rintro e w4 ⟨rfl, hb4⟩
        have T4 := Lib.hid (T2.out.trans (hb4.mono T2.out.size))
        refine hK.out _ _ (by obtain ⟨z0, z1, z2, z3⟩ := HS0.out; exact ⟨keepC T4.out Z0 z0, keepC T4.out Z0 z1, keepC T4.out Z0 z2, keepC T4.out Z3 z3⟩) (fun hHeld => ?_)
        clear hK K
        try simp only [Act.put, List.getElem_toArray, List.getElem_cons_succ, List.getElem_cons_zero, List.setIfInBounds_toArray, List.set_cons_zero, List.set_cons_succ]
        refine wpAnyH_ready (rs := [7]) (by kernel_rfl) (by simp) ?_
        refine AllReadyH.cons (o := _) rfl (fun K hK => ?_) (AllReadyH.nil)
        simp only [List.getElem_toArray, List.getElem_cons_succ, List.getElem_cons_zero]
        have hor := HOR.out
        go_simp
        clear hor
        refine hK.out _ _ (by obtain ⟨z0, z1, z2, z3⟩ := HS0.out; exact ⟨keepC T4.out Z0 z0, keepC T4.out Z0 z1, keepC T4.out Z0 z2, keepC T4.out Z3 z3⟩) (fun hHeld => ?_)
        clear hK K
        try simp only [Act.put, List.getElem_toArray, List.getElem_cons_succ, List.getElem_cons_zero, List.setIfInBounds_toArray, List.set_cons_zero, List.set_cons_succ]
        refine wpAnyH_ready (rs := [8]) (by kernel_rfl) (by simp) ?_
        refine AllReadyH.cons (o := _) rfl (fun K hK => ?_) (AllReadyH.nil)
        simp only [List.getElem_toArray, List.getElem_cons_succ, List.getElem_cons_zero]
        have cc := keepC T4.out ZS HC.out
        have ff := keepF T4.out ZS HFr.out
        go_simp
        clear cc ff
        refine hK.out _ _ (by obtain ⟨z0, z1, z2, z3⟩ := HS0.out; exact ⟨(World.cell?_setCell_far _ _ _ _ (by simp <;> omega)).trans (keepC T4.out Z0 z0), (World.cell?_setCell_far _ _ _ _ (by simp <;> omega)).trans (keepC T4.out Z0 z1), (World.cell?_setCell_far _ _ _ _ (by simp <;> omega)).trans (keepC T4.out Z0 z2), (World.cell?_setCell_far _ _ _ _ (by simp <;> omega)).trans (keepC T4.out Z3 z3)⟩) (fun hHeld => ?_)
        clear hK K
        try simp only [Act.put, List.getElem_toArray, List.getElem_cons_succ, List.getElem_cons_zero, List.setIfInBounds_toArray, List.set_cons_zero, List.set_cons_succ]
        refine wpAnyH_done (by kernel_rfl) ?_ _
        have hk := keepH T4.out ZS HB1.out
        have hk0 := keepH T4.out Z0 HB2.out
        have hk3 := keepH T4.out Z3 HB3.out
        exact ⟨rfl, (keeps_below (W := W) T4.out).trans (KeepsOthers.setCell _ _ _), ⟨by rw [orG_snoc, HV.out, HOO.out]; exact Boxed.set _ hk, (grownBy_setCell' _ _ _).block _ (Array.getElem?_eq_some_iff.1 hk0).1 (by simp <;> omega) |>.trans hk0, (grownBy_setCell' _ _ _).block _ (Array.getElem?_eq_some_iff.1 hk3).1 (by simp <;> omega) |>.trans hk3⟩, (HBW.out.drew.trans (T4.out.mono HBW.out.size)).setCell (p := ⟨w1.heap.size + 1 + 1, 0, none⟩) (by simp <;> omega) _⟩
      · simp only [List.getElem_toArray, List.getElem_cons_succ, List.getElem_cons_zero]
        go_simp
        refine (iWithout _ t y HT24.out HY23.out).mono ?_
        rintro e w3 ⟨rfl, rfl⟩
        refine hK.out _ _ (by obtain ⟨z0, z1, z2, z3⟩ := HS0.out; exact ⟨keepC T2.out Z0 z0, keepC T2.out Z0 z1, keepC T2.out Z0 z2, keepC T2.out Z3 z3⟩) (fun hHeld => ?_)
        clear hK K
        try simp only [Act.put, List.getElem_toArray, List.getElem_cons_succ, List.getElem_cons_zero, List.setIfInBounds_toArray, List.set_cons_zero, List.set_cons_succ]
        refine wpAnyH_ready (rs := [0, 6]) (by kernel_rfl) (by simp) ?_
        refine AllReadyH.cons (o := _) rfl (fun K hK => ?_) (AllReadyH.cons (o := _) rfl (fun K hK => ?_) (AllReadyH.nil))
        · simp only [List.getElem_toArray, List.getElem_cons_zero]
          have cc := keepC T2.out ZS HC.out
          go_simp
          clear cc
          refine hK.out _ _ (by obtain ⟨z0, z1, z2, z3⟩ := HS0.out; exact ⟨keepC T2.out Z0 z0, keepC T2.out Z0 z1, keepC T2.out Z0 z2, keepC T2.out Z3 z3⟩) (fun hHeld => ?_)
          clear hK K
          try simp only [Act.put, List.getElem_toArray, List.getElem_cons_zero, List.setIfInBounds_toArray, List.set_cons_zero, List.set_cons_succ]
          refine wpAnyH_ready (rs := [6]) (by kernel_rfl) (by simp) ?_
          refine AllReadyH.cons (o := _) rfl (fun K hK => ?_) (AllReadyH.nil)
          simp only [List.getElem_toArray, List.getElem_cons_succ, List.getElem_cons_zero]
          go_simp
          refine (iShG _ p q r (woN t y) y HT.out HWL.out HYN.out).mono ?_
          rw [HSH.out]
          rintro e w4 ⟨rfl, hb4⟩
          have T4 := Lib.hid (T2.out.trans (hb4.mono T2.out.size))
          refine hK.out _ _ (by obtain ⟨z0, z1, z2, z3⟩ := HS0.out; exact ⟨keepC T4.out Z0 z0, keepC T4.out Z0 z1, keepC T4.out Z0 z2, keepC T4.out Z3 z3⟩) (fun hHeld => ?_)
          clear hK K
          try simp only [Act.put, List.getElem_toArray, List.getElem_cons_succ, List.getElem_cons_zero, List.setIfInBounds_toArray, List.set_cons_zero, List.set_cons_succ]
          refine wpAnyH_ready (rs := [7]) (by kernel_rfl) (by simp) ?_
          refine AllReadyH.cons (o := _) rfl (fun K hK => ?_) (AllReadyH.nil)
          simp only [List.getElem_toArray, List.getElem_cons_succ, List.getElem_cons_zero]
          have hor := HOR.out
          go_simp
          clear hor
          refine hK.out _ _ (by obtain ⟨z0, z1, z2, z3⟩ := HS0.out; exact ⟨keepC T4.out Z0 z0, keepC T4.out Z0 z1, keepC T4.out Z0 z2, keepC T4.out Z3 z3⟩) (fun hHeld => ?_)
          clear hK K
          try simp only [Act.put, List.getElem_toArray, List.getElem_cons_succ, List.getElem_cons_zero, List.setIfInBounds_toArray, List.set_cons_zero, List.set_cons_succ]
          refine wpAnyH_ready (rs := [8]) (by kernel_rfl) (by simp) ?_
          refine AllReadyH.cons (o := _) rfl (fun K hK => ?_) (AllReadyH.nil)
          simp only [List.getElem_toArray, List.getElem_cons_succ, List.getElem_cons_zero]
          have cc := keepC T4.out ZS HC.out
          have ff := keepF T4.out ZS HFr.out
          go_simp
          clear cc ff
          refine hK.out _ _ (by obtain ⟨z0, z1, z2, z3⟩ := HS0.out; exact ⟨(World.cell?_setCell_far _ _ _ _ (by simp <;> omega)).trans (keepC T4.out Z0 z0), (World.cell?_setCell_far _ _ _ _ (by simp <;> omega)).trans (keepC T4.out Z0 z1), (World.cell?_setCell_far _ _ _ _ (by simp <;> omega)).trans (keepC T4.out Z0 z2), (World.cell?_setCell_far _ _ _ _ (by simp <;> omega)).trans (keepC T4.out Z3 z3)⟩) (fun hHeld => ?_)
          clear hK K
          try simp only [Act.put, List.getElem_toArray, List.getElem_cons_succ, List.getElem_cons_zero, List.setIfInBounds_toArray, List.set_cons_zero, List.set_cons_succ]
          refine wpAnyH_done (by kernel_rfl) ?_ _
          have hk := keepH T4.out ZS HB1.out
          have hk0 := keepH T4.out Z0 HB2.out
          have hk3 := keepH T4.out Z3 HB3.out
          exact ⟨rfl, (keeps_below (W := W) T4.out).trans (KeepsOthers.setCell _ _ _), ⟨by rw [orG_snoc, HV.out, HOO.out]; exact Boxed.set _ hk, (grownBy_setCell' _ _ _).block _ (Array.getElem?_eq_some_iff.1 hk0).1 (by simp <;> omega) |>.trans hk0, (grownBy_setCell' _ _ _).block _ (Array.getElem?_eq_some_iff.1 hk3).1 (by simp <;> omega) |>.trans hk3⟩, (HBW.out.drew.trans (T4.out.mono HBW.out.size)).setCell (p := ⟨w1.heap.size + 1 + 1, 0, none⟩) (by simp <;> omega) _⟩
        · simp only [List.getElem_toArray, List.getElem_cons_succ, List.getElem_cons_zero]
          go_simp
          refine (iShG _ p q r (woN t y) y HT.out HWL.out HYN.out).mono ?_
          rw [HSH.out]
          rintro e w4 ⟨rfl, hb4⟩
          have T4 := Lib.hid (T2.out.trans (hb4.mono T2.out.size))
          refine hK.out _ _ (by obtain ⟨z0, z1, z2, z3⟩ := HS0.out; exact ⟨keepC T4.out Z0 z0, keepC T4.out Z0 z1, keepC T4.out Z0 z2, keepC T4.out Z3 z3⟩) (fun hHeld => ?_)
          clear hK K
          try simp only [Act.put, List.getElem_toArray, List.getElem_cons_succ, List.getElem_cons_zero, List.setIfInBounds_toArray, List.set_cons_zero, List.set_cons_succ]
          refine wpAnyH_ready (rs := [0]) (by kernel_rfl) (by simp) ?_
          refine AllReadyH.cons (o := _) rfl (fun K hK => ?_) (AllReadyH.nil)
          simp only [List.getElem_toArray, List.getElem_cons_zero]
          have cc := keepC T4.out ZS HC.out
          go_simp
          clear cc
          refine hK.out _ _ (by obtain ⟨z0, z1, z2, z3⟩ := HS0.out; exact ⟨keepC T4.out Z0 z0, keepC T4.out Z0 z1, keepC T4.out Z0 z2, keepC T4.out Z3 z3⟩) (fun hHeld => ?_)
          clear hK K
          try simp only [Act.put, List.getElem_toArray, List.getElem_cons_zero, List.setIfInBounds_toArray, List.set_cons_zero, List.set_cons_succ]
          refine wpAnyH_ready (rs := [7]) (by kernel_rfl) (by simp) ?_
          refine AllReadyH.cons (o := _) rfl (fun K hK => ?_) (AllReadyH.nil)
          simp only [List.getElem_toArray, List.getElem_cons_succ, List.getElem_cons_zero]
          have hor := HOR.out
          go_simp
          clear hor
          refine hK.out _ _ (by obtain ⟨z0, z1, z2, z3⟩ := HS0.out; exact ⟨keepC T4.out Z0 z0, keepC T4.out Z0 z1, keepC T4.out Z0 z2, keepC T4.out Z3 z3⟩) (fun hHeld => ?_)
          clear hK K
          try simp only [Act.put, List.getElem_toArray, List.getElem_cons_succ, List.getElem_cons_zero, List.setIfInBounds_toArray, List.set_cons_zero, List.set_cons_succ]
          refine wpAnyH_ready (rs := [8]) (by kernel_rfl) (by simp) ?_
          refine AllReadyH.cons (o := _) rfl (fun K hK => ?_) (AllReadyH.nil)
          simp only [List.getElem_toArray, List.getElem_cons_succ, List.getElem_cons_zero]
          have cc := keepC T4.out ZS HC.out
          have ff := keepF T4.out ZS HFr.out
          go_simp
          clear cc ff
          refine hK.out _ _ (by obtain ⟨z0, z1, z2, z3⟩ := HS0.out; exact ⟨(World.cell?_setCell_far _ _ _ _ (by simp <;> omega)).trans (keepC T4.out Z0 z0), (World.cell?_setCell_far _ _ _ _ (by simp <;> omega)).trans (keepC T4.out Z0 z1), (World.cell?_setCell_far _ _ _ _ (by simp <;> omega)).trans (keepC T4.out Z0 z2), (World.cell?_setCell_far _ _ _ _ (by simp <;> omega)).trans (keepC T4.out Z3 z3)⟩) (fun hHeld => ?_)
          clear hK K
          try simp only [Act.put, List.getElem_toArray, List.getElem_cons_succ, List.getElem_cons_zero, List.setIfInBounds_toArray, List.set_cons_zero, List.set_cons_succ]
          refine wpAnyH_done (by kernel_rfl) ?_ _
          have hk := keepH T4.out ZS HB1.out
          have hk0 := keepH T4.out Z0 HB2.out
          have hk3 := keepH T4.out Z3 HB3.out
          exact ⟨rfl, (keeps_below (W := W) T4.out).trans (KeepsOthers.setCell _ _ _), ⟨by rw [orG_snoc, HV.out, HOO.out]; exact Boxed.set _ hk, (grownBy_setCell' _ _ _).block _ (Array.getElem?_eq_some_iff.1 hk0).1 (by simp <;> omega) |>.trans hk0, (grownBy_setCell' _ _ _).block _ (Array.getElem?_eq_some_iff.1 hk3).1 (by simp <;> omega) |>.trans hk3⟩, (HBW.out.drew.trans (T4.out.mono HBW.out.size)).setCell (p := ⟨w1.heap.size + 1 + 1, 0, none⟩) (by simp <;> omega) _⟩
    case done =>
      rintro D W hD ⟨⟨b1, b2, b3⟩, hB⟩ hK
      have hVl := HVL.out
      obtain ⟨V, EV⟩ : ∃ V, Hid (orG G (bitsN s) = V) := ⟨_, Lib.hid rfl⟩
      rw [EV.out] at b1 hVl
      have c1 : W.cell? ⟨w1.heap.size + 1 + 1, 0, none⟩ = some (.int .u64 (V : Nat)) := by simp [World.cell?, b1]
      clear b1 b2 b3
      gi_wp2
      refine ⟨by simp, .inl ⟨_, _, rfl, run_takeDeferred hK, ?_⟩⟩
      exact ⟨_, results_tmp rfl _ _ _, by rw [HVE.out, EV.out]; rfl, (HW.out.trans (hB.mono hws)).trans (belowK_b (w := w) (Nat.le_refl _) W D _ _ (by simp at hD; omega) hK rfl rfl)⟩
set_option maxHeartbeats 4000000 in
theorem iSub (w : World) (a : Option Addr) (l : List Int) (n cap : Nat) (s : Int) (hn : n = l.length) (hm : n ≤ 9223372036854775807) (hi : Ints w a l) (B : Nat) (hB0 : B ≤ w.heap.size) (ht : TabZ B w) :
    Calls Tryd.prog 29 #[.agg #[.slice a n cap], .int .i64 s] w fun e w' => e = .returned (.int .i64 (subE l s)) ∧ Below w.heap.size w w' := by
  have HTZ := Lib.hid ht
  clear ht
  have HI := Lib.hid (ints_alloc hi (.cells #[.slice a n cap] 26))
  have HN := Lib.hid hn
  have C1 := newC w (.slice a n cap) 26 (n := w.heap.size) rfl
  have HB := Lib.hid (Joins.below_alloc1 w (.cells #[.slice a n cap] 26))
  have T0 := Lib.hid (Below.refl (w.alloc (.cells #[.slice a n cap] 26)).heap.size (w.alloc (.cells #[.slice a n cap] 26)))
  clear hi hn
  cases hs : isS l s with
  | false =>
    have HS := Lib.hid hs
    rw [show subE l s = -1 by unfold subE; rw [if_neg (by simp [hs])]]
    clear hs
    go_enter Tryd.func29, Tryd.ntmps29
    go_wp2_with (go_at_call 61; refine (iSetIn_no _ _ _ _ _ _ HN.out hm (HI.out.below rfl T0.out) HS.out).mono ?_; rintro e w1 ⟨rfl, hb1⟩)
    go_ret
    exact ⟨rfl, HB.out.trans (Below.alloc (hb1.mono (by simp)) (Nat.le_trans (by simp) hb1.size) _)⟩
  | true =>
    have HS := Lib.hid hs
    obtain ⟨hg, s, rfl, hsn, _⟩ := isS_true hs
    rw [show subE l s = (subK l (bitsN s) : Nat) by unfold subE; rw [if_pos hs]; rfl]
    have HT := Lib.hid (tri_grp hg)
    have HP := prod_pad (grpB_true hg).1
    have HVL : Hid (subK l (bitsN s) < 16777216) := Lib.hid (grp_pow hg (subK_lt hg _))
    have HGL : Hid (∀ L, subK l L < 2 ^ (l.getD 0 1 * l.getD 1 1 * l.getD 2 1).toNat) := Lib.hid (fun L => by rw [← HP]; exact subK_lt hg L)
    have HGY : Hid (∀ t x, movN l t x < 2 ^ (l.getD 0 1 * l.getD 1 1 * l.getD 2 1).toNat) := Lib.hid (fun t x => by rw [← HP]; exact movN_lt hg t x)
    have HGV : Hid (∀ t x, shG (l.getD 0 1) (l.getD 1 1) (l.getD 2 1) t x = movN l t x) := Lib.hid (fun t x => shG_mov hg t x)
    rw [HP] at hsn
    obtain ⟨p, EP⟩ : ∃ p, Hid (l.getD 0 1 = p) := ⟨_, Lib.hid rfl⟩
    obtain ⟨q, EQ⟩ : ∃ q, Hid (l.getD 1 1 = q) := ⟨_, Lib.hid rfl⟩
    obtain ⟨r, ER⟩ : ∃ r, Hid (l.getD 2 1 = r) := ⟨_, Lib.hid rfl⟩
    rw [EP.out, EQ.out, ER.out] at HT hsn HGL HGY HGV
    have HA := Lib.hid hsn
    clear hs hg HP hsn
    refine (callsIn_wide (n := 4)).1 ?_
    refine callsIn_of_wp_marks Tryd.func29 rfl trivial ?_ rfl
    simp only [Tryd.ntmps29, List.size_toArray, List.length_cons, List.length_nil, Nat.reduceAdd, Nat.reduceSub, Array.replicate_succ, Array.replicate_zero, List.push_toArray, List.append_toArray, List.nil_append, List.cons_append]
    gi_wp2
    refine ⟨trivial, ?_⟩
    refine (callsIn_wide.2 (iSetIn_yes _ _ _ _ _ _ HN.out hm (HI.out.below rfl T0.out) HS.out)).mono ?_
    rw [EP.out, EQ.out, ER.out]
    rintro e w1 ⟨rfl, hb1⟩
    have HW := Lib.hid (HB.out.trans (hb1.mono (by simp)))
    have hws := HW.out.size
    have HTZ1 := Lib.hid (HTZ.out.on (HW.out.mono hB0))
    clear hb1
    gi_wp2
    have L0 : ((w1.alloc (.cells #[.int .i64 p, .int .i64 q, .int .i64 r] 49)).alloc (.cells #[.int .u64 1] 51)).heap[w1.heap.size]? = some (.cells #[.int .i64 p, .int .i64 q, .int .i64 r] 49 (0, 0)) := keepH (Joins.below_alloc1 _ (.cells #[.int .u64 1] 51)) (by simp) (heap_alloc_new w1 (.cells #[.int .i64 p, .int .i64 q, .int .i64 r] 49))
    have L1 : ((w1.alloc (.cells #[.int .i64 p, .int .i64 q, .int .i64 r] 49)).alloc (.cells #[.int .u64 1] 51)).heap[w1.heap.size + 1]? = some (.cells #[.int .u64 1] 51 (0, 0)) := by simpa using heap_alloc_new (w1.alloc (.cells #[.int .i64 p, .int .i64 q, .int .i64 r] 49)) (.cells #[.int .u64 1] 51)
    have HL0 := Lib.hid L0
    have HL1 := Lib.hid L1
    clear L0 L1
    refine each_loopP s (tri_pow HT.out HA.out) rfl B
      (fun pre W => (W.heap[w1.heap.size + 1]? = some (.cells #[.int .u64 (subK l pre : Nat)] 51 (0, 0)) ∧ W.heap[w1.heap.size]? = some (.cells #[.int .i64 p, .int .i64 q, .int .i64 r] 49 (0, 0))) ∧ Below w1.heap.size w1 W)
      (OwnFrom.and (Own.from (fun s W W' row hs hg hr => ⟨cells_own (w1.heap.size + 1) (fun pre => #[.int .u64 (subK l pre : Nat)]) 51 s W W' row hs.1 hg hr, cells_own (β := List Nat) (w1.heap.size) (fun _ => #[.int .i64 p, .int .i64 q, .int .i64 r]) 49 s W W' row hs.2 hg hr⟩) _) (ownFrom_below (Nat.le_refl _) (by simp; omega)))
      (fun pre W h => HTZ1.out.on (h.2.mono (Nat.le_trans hB0 hws)))
      ⟨⟨HL1.out, HL0.out⟩, Joins.below_alloc2 w1 (.cells #[.int .i64 p, .int .i64 q, .int .i64 r] 49) (.cells #[.int .u64 1] 51)⟩
      (fun y => { tmps := #[.agg #[.slice a n cap], .int .i64 (s : Nat), .pointer (some ⟨w.heap.size, 0, none⟩), undef, .int .i64 0, .pointer (some ⟨w1.heap.size, 0, none⟩), .int .u64 (s : Nat), .bool true, .pointer (some ⟨w1.heap.size + 1, 0, none⟩), .int .i64 (y : Nat), .tuple #[tV p q r, .int .u64 (s : Nat), .bool true], .agg #[.slice a n cap], .int .i64 (s : Nat), .tuple #[tV p q r, .int .u64 (s : Nat), .bool true], tV p q r, .int .u64 (s : Nat), .bool true, .bool true, .bool false, .int .u64 (s : Nat), .func (.func 51) #[.int .u64 (s : Nat)] #[], .int .i64 (y : Nat), undef, undef, undef, undef, undef, undef, undef, undef], defers := [] }) ?assign ?body ?done
    case assign =>
      intro lo y W K hK
      gi_wp2
      exact hK
    case body =>
      rintro lo pre y W _ hbt hpl ⟨⟨b1, b2⟩, hB⟩
      have HB1 := Lib.hid b1
      have HB2 := Lib.hid b2
      have HBW := Lib.hid hB
      have c1 : W.cell? ⟨w1.heap.size + 1, 0, none⟩ = some (.int .u64 (subK l pre : Nat)) := by simp [World.cell?, b1]
      have f1 : W.frozen? ⟨w1.heap.size + 1, 0, none⟩ = false := by simp [World.frozen?, b1]
      obtain ⟨d0, d1, d2, _, _, _⟩ := trip_cell b2
      clear b1 b2 hB
      have HYN := Lib.hid (tri_elt HT.out HA.out hbt)
      have hOl := HGL.out pre
      obtain ⟨O, HOO⟩ : ∃ O, Hid (subK l pre = O) := ⟨_, Lib.hid rfl⟩
      rw [HOO.out] at c1 hOl
      have hVl := HGY.out O y
      obtain ⟨V, HV⟩ : ∃ V, Hid (movN l O y = V) := ⟨_, Lib.hid rfl⟩
      rw [HV.out] at hVl
      have HOL := Lib.hid hOl
      have HOR := Lib.hid (orU O V (lt24 (tri_pow HT.out hOl)) (lt24 (tri_pow HT.out hVl)))
      have HSH : Hid (shG p q r O y = V) := Lib.hid (by rw [HGV.out, HV.out])
      clear hOl hVl
      gi_wp2
      refine region_round (S := (fun W' => W'.cell? ⟨w1.heap.size, 0, none⟩ = some (.int .i64 p) ∧ W'.cell? ⟨w1.heap.size, 1, none⟩ = some (.int .i64 q) ∧ W'.cell? ⟨w1.heap.size, 2, none⟩ = some (.int .i64 r)))
        (by kernel_rfl) (no_defer (by kernel_rfl)) (fun ⟨a', w', h'⟩ => by have h3 := And.left (a := Exit.outgrown = Exit.normal) h'; cases h3) ⟨d0, d1, d2⟩ (fun hHeld => ?_)
      refine wpAnyH_take (i := 1) (oi := _) (v := (tV p q r)) rfl (by kernel_rfl) (by kernel_rfl) (by kernel_rfl) (fun _ _ _ h => h) (Or.inl ⟨by rfl, ?_⟩) (by assumption) ?_
      · intro W' hSw
        obtain ⟨z0, z1, z2⟩ := hSw
        simp only [List.getElem_toArray, List.getElem_cons_succ, List.getElem_cons_zero]
        go_simp
      simp only [Act.put, List.getElem_toArray, List.getElem_cons_succ, List.getElem_cons_zero, List.setIfInBounds_toArray, List.set_cons_zero, List.set_cons_succ]
      refine wpAnyH_take (i := 3) (oi := _) (v := (.int .i64 (y : Nat))) rfl (by kernel_rfl) (by kernel_rfl) (by kernel_rfl) (fun _ _ _ h => h) (Or.inl ⟨by rfl, ?_⟩) (by assumption) ?_
      · intro W' hSw
        obtain ⟨z0, z1, z2⟩ := hSw
        simp only [List.getElem_toArray, List.getElem_cons_succ, List.getElem_cons_zero]
        go_simp
      simp only [Act.put, List.getElem_toArray, List.getElem_cons_succ, List.getElem_cons_zero, List.setIfInBounds_toArray, List.set_cons_zero, List.set_cons_succ]
      have HS0 := Lib.hid hHeld
      have Z0 : w1.heap.size < W.drew.heap.size := by have := HBW.out.size; have := (Array.getElem?_eq_some_iff.1 HB1.out).1; simp at *; omega
      have ZS : w1.heap.size + 1 < W.drew.heap.size := by have := (Array.getElem?_eq_some_iff.1 HB1.out).1; simpa using this
      have c1' : W.drew.cell? ⟨w1.heap.size + 1, 0, none⟩ = some (.int .u64 (O : Nat)) := c1 
      have f1' : W.drew.frozen? ⟨w1.heap.size + 1, 0, none⟩ = false := f1 
      have HC := Lib.hid c1'
      have HFr := Lib.hid f1'
      clear c1 f1 c1' f1'
      have T2 := Lib.hid (Below.refl W.drew.heap.size W.drew)
      refine wpAnyH_ready (rs := [0, 2]) (by kernel_rfl) (by simp) ?_
      refine AllReadyH.cons (o := _) rfl (fun K hK => ?_) (AllReadyH.cons (o := _) rfl (fun K hK => ?_) (AllReadyH.nil))
      · simp only [List.getElem_toArray, List.getElem_cons_zero]
        have cc := keepC T2.out ZS HC.out
        go_simp
        clear cc
        refine hK.out _ _ (by obtain ⟨z0, z1, z2⟩ := HS0.out; exact ⟨keepC T2.out Z0 z0, keepC T2.out Z0 z1, keepC T2.out Z0 z2⟩) (fun hHeld => ?_)
        clear hK K
        try simp only [Act.put, List.getElem_toArray, List.getElem_cons_zero, List.setIfInBounds_toArray, List.set_cons_zero, List.set_cons_succ]
        refine wpAnyH_ready (rs := [2]) (by kernel_rfl) (by simp) ?_
        refine AllReadyH.cons (o := _) rfl (fun K hK => ?_) (AllReadyH.nil)
        simp only [List.getElem_toArray, List.getElem_cons_succ, List.getElem_cons_zero]
        have cc := keepC T2.out ZS HC.out
        go_simp
        clear cc
        refine hK.out _ _ (by obtain ⟨z0, z1, z2⟩ := HS0.out; exact ⟨keepC T2.out Z0 z0, keepC T2.out Z0 z1, keepC T2.out Z0 z2⟩) (fun hHeld => ?_)
        clear hK K
        try simp only [Act.put, List.getElem_toArray, List.getElem_cons_succ, List.getElem_cons_zero, List.setIfInBounds_toArray, List.set_cons_zero, List.set_cons_succ]
        refine wpAnyH_ready (rs := [4]) (by kernel_rfl) (by simp) ?_
        refine AllReadyH.cons (o := _) rfl (fun K hK => ?_) (AllReadyH.nil)
        simp only [List.getElem_toArray, List.getElem_cons_succ, List.getElem_cons_zero]
        go_simp
        refine (iShG _ p q r O y HT.out HOL.out HYN.out).mono ?_
        rw [HSH.out]
        rintro e w4 ⟨rfl, hb4⟩
        have T4 := Lib.hid (T2.out.trans (hb4.mono T2.out.size))
        refine hK.out _ _ (by obtain ⟨z0, z1, z2⟩ := HS0.out; exact ⟨keepC T4.out Z0 z0, keepC T4.out Z0 z1, keepC T4.out Z0 z2⟩) (fun hHeld => ?_)
        clear hK K
        try simp only [Act.put, List.getElem_toArray, List.getElem_cons_succ, List.getElem_cons_zero, List.setIfInBounds_toArray, List.set_cons_zero, List.set_cons_succ]
        refine wpAnyH_ready (rs := [5]) (by kernel_rfl) (by simp) ?_
        refine AllReadyH.cons (o := _) rfl (fun K hK => ?_) (AllReadyH.nil)
        simp only [List.getElem_toArray, List.getElem_cons_succ, List.getElem_cons_zero]
        have hor := HOR.out
        go_simp
        clear hor
        refine hK.out _ _ (by obtain ⟨z0, z1, z2⟩ := HS0.out; exact ⟨keepC T4.out Z0 z0, keepC T4.out Z0 z1, keepC T4.out Z0 z2⟩) (fun hHeld => ?_)
        clear hK K
        try simp only [Act.put, List.getElem_toArray, List.getElem_cons_succ, List.getElem_cons_zero, List.setIfInBounds_toArray, List.set_cons_zero, List.set_cons_succ]
        refine wpAnyH_ready (rs := [6]) (by kernel_rfl) (by simp) ?_
        refine AllReadyH.cons (o := _) rfl (fun K hK => ?_) (AllReadyH.nil)
        simp only [List.getElem_toArray, List.getElem_cons_succ, List.getElem_cons_zero]
        have cc := keepC T4.out ZS HC.out
        have ff := keepF T4.out ZS HFr.out
        go_simp
        clear cc ff
        refine hK.out _ _ (by obtain ⟨z0, z1, z2⟩ := HS0.out; exact ⟨(World.cell?_setCell_far _ _ _ _ (by simp <;> omega)).trans (keepC T4.out Z0 z0), (World.cell?_setCell_far _ _ _ _ (by simp <;> omega)).trans (keepC T4.out Z0 z1), (World.cell?_setCell_far _ _ _ _ (by simp <;> omega)).trans (keepC T4.out Z0 z2)⟩) (fun hHeld => ?_)
        clear hK K
        try simp only [Act.put, List.getElem_toArray, List.getElem_cons_succ, List.getElem_cons_zero, List.setIfInBounds_toArray, List.set_cons_zero, List.set_cons_succ]
        refine wpAnyH_done (by kernel_rfl) ?_ _
        have hk := keepH T4.out ZS HB1.out
        have hk0 := keepH T4.out Z0 HB2.out
        exact ⟨rfl, (keeps_below (W := W) T4.out).trans (KeepsOthers.setCell _ _ _), ⟨by rw [subK_snoc, HOO.out, HV.out]; exact Boxed.set _ hk, (grownBy_setCell' _ _ _).block _ (Array.getElem?_eq_some_iff.1 hk0).1 (by simp <;> omega) |>.trans hk0⟩, (HBW.out.drew.trans (T4.out.mono HBW.out.size)).setCell (p := ⟨w1.heap.size + 1, 0, none⟩) (by simp <;> omega) _⟩
      · simp only [List.getElem_toArray, List.getElem_cons_succ, List.getElem_cons_zero]
        have cc := keepC T2.out ZS HC.out
        go_simp
        clear cc
        refine hK.out _ _ (by obtain ⟨z0, z1, z2⟩ := HS0.out; exact ⟨keepC T2.out Z0 z0, keepC T2.out Z0 z1, keepC T2.out Z0 z2⟩) (fun hHeld => ?_)
        clear hK K
        try simp only [Act.put, List.getElem_toArray, List.getElem_cons_succ, List.getElem_cons_zero, List.setIfInBounds_toArray, List.set_cons_zero, List.set_cons_succ]
        refine wpAnyH_ready (rs := [0, 4]) (by kernel_rfl) (by simp) ?_
        refine AllReadyH.cons (o := _) rfl (fun K hK => ?_) (AllReadyH.cons (o := _) rfl (fun K hK => ?_) (AllReadyH.nil))
        · simp only [List.getElem_toArray, List.getElem_cons_zero]
          have cc := keepC T2.out ZS HC.out
          go_simp
          clear cc
          refine hK.out _ _ (by obtain ⟨z0, z1, z2⟩ := HS0.out; exact ⟨keepC T2.out Z0 z0, keepC T2.out Z0 z1, keepC T2.out Z0 z2⟩) (fun hHeld => ?_)
          clear hK K
          try simp only [Act.put, List.getElem_toArray, List.getElem_cons_zero, List.setIfInBounds_toArray, List.set_cons_zero, List.set_cons_succ]
          refine wpAnyH_ready (rs := [4]) (by kernel_rfl) (by simp) ?_
          refine AllReadyH.cons (o := _) rfl (fun K hK => ?_) (AllReadyH.nil)
          simp only [List.getElem_toArray, List.getElem_cons_succ, List.getElem_cons_zero]
          go_simp
          refine (iShG _ p q r O y HT.out HOL.out HYN.out).mono ?_
          rw [HSH.out]
          rintro e w4 ⟨rfl, hb4⟩
          have T4 := Lib.hid (T2.out.trans (hb4.mono T2.out.size))
          refine hK.out _ _ (by obtain ⟨z0, z1, z2⟩ := HS0.out; exact ⟨keepC T4.out Z0 z0, keepC T4.out Z0 z1, keepC T4.out Z0 z2⟩) (fun hHeld => ?_)
          clear hK K
          try simp only [Act.put, List.getElem_toArray, List.getElem_cons_succ, List.getElem_cons_zero, List.setIfInBounds_toArray, List.set_cons_zero, List.set_cons_succ]
          refine wpAnyH_ready (rs := [5]) (by kernel_rfl) (by simp) ?_
          refine AllReadyH.cons (o := _) rfl (fun K hK => ?_) (AllReadyH.nil)
          simp only [List.getElem_toArray, List.getElem_cons_succ, List.getElem_cons_zero]
          have hor := HOR.out
          go_simp
          clear hor
          refine hK.out _ _ (by obtain ⟨z0, z1, z2⟩ := HS0.out; exact ⟨keepC T4.out Z0 z0, keepC T4.out Z0 z1, keepC T4.out Z0 z2⟩) (fun hHeld => ?_)
          clear hK K
          try simp only [Act.put, List.getElem_toArray, List.getElem_cons_succ, List.getElem_cons_zero, List.setIfInBounds_toArray, List.set_cons_zero, List.set_cons_succ]
          refine wpAnyH_ready (rs := [6]) (by kernel_rfl) (by simp) ?_
          refine AllReadyH.cons (o := _) rfl (fun K hK => ?_) (AllReadyH.nil)
          simp only [List.getElem_toArray, List.getElem_cons_succ, List.getElem_cons_zero]
          have cc := keepC T4.out ZS HC.out
          have ff := keepF T4.out ZS HFr.out
          go_simp
          clear cc ff
          refine hK.out _ _ (by obtain ⟨z0, z1, z2⟩ := HS0.out; exact ⟨(World.cell?_setCell_far _ _ _ _ (by simp <;> omega)).trans (keepC T4.out Z0 z0), (World.cell?_setCell_far _ _ _ _ (by simp <;> omega)).trans (keepC T4.out Z0 z1), (World.cell?_setCell_far _ _ _ _ (by simp <;> omega)).trans (keepC T4.out Z0 z2)⟩) (fun hHeld => ?_)
          clear hK K
          try simp only [Act.put, List.getElem_toArray, List.getElem_cons_succ, List.getElem_cons_zero, List.setIfInBounds_toArray, List.set_cons_zero, List.set_cons_succ]
          refine wpAnyH_done (by kernel_rfl) ?_ _
          have hk := keepH T4.out ZS HB1.out
          have hk0 := keepH T4.out Z0 HB2.out
          exact ⟨rfl, (keeps_below (W := W) T4.out).trans (KeepsOthers.setCell _ _ _), ⟨by rw [subK_snoc, HOO.out, HV.out]; exact Boxed.set _ hk, (grownBy_setCell' _ _ _).block _ (Array.getElem?_eq_some_iff.1 hk0).1 (by simp <;> omega) |>.trans hk0⟩, (HBW.out.drew.trans (T4.out.mono HBW.out.size)).setCell (p := ⟨w1.heap.size + 1, 0, none⟩) (by simp <;> omega) _⟩
        · simp only [List.getElem_toArray, List.getElem_cons_succ, List.getElem_cons_zero]
          go_simp
          refine (iShG _ p q r O y HT.out HOL.out HYN.out).mono ?_
          rw [HSH.out]
          rintro e w4 ⟨rfl, hb4⟩
          have T4 := Lib.hid (T2.out.trans (hb4.mono T2.out.size))
          refine hK.out _ _ (by obtain ⟨z0, z1, z2⟩ := HS0.out; exact ⟨keepC T4.out Z0 z0, keepC T4.out Z0 z1, keepC T4.out Z0 z2⟩) (fun hHeld => ?_)
          clear hK K
          try simp only [Act.put, List.getElem_toArray, List.getElem_cons_succ, List.getElem_cons_zero, List.setIfInBounds_toArray, List.set_cons_zero, List.set_cons_succ]
          refine wpAnyH_ready (rs := [0]) (by kernel_rfl) (by simp) ?_
          refine AllReadyH.cons (o := _) rfl (fun K hK => ?_) (AllReadyH.nil)
          simp only [List.getElem_toArray, List.getElem_cons_zero]
          have cc := keepC T4.out ZS HC.out
          go_simp
          clear cc
          refine hK.out _ _ (by obtain ⟨z0, z1, z2⟩ := HS0.out; exact ⟨keepC T4.out Z0 z0, keepC T4.out Z0 z1, keepC T4.out Z0 z2⟩) (fun hHeld => ?_)
          clear hK K
          try simp only [Act.put, List.getElem_toArray, List.getElem_cons_zero, List.setIfInBounds_toArray, List.set_cons_zero, List.set_cons_succ]
          refine wpAnyH_ready (rs := [5]) (by kernel_rfl) (by simp) ?_
          refine AllReadyH.cons (o := _) rfl (fun K hK => ?_) (AllReadyH.nil)
          simp only [List.getElem_toArray, List.getElem_cons_succ, List.getElem_cons_zero]
          have hor := HOR.out
          go_simp
          clear hor
          refine hK.out _ _ (by obtain ⟨z0, z1, z2⟩ := HS0.out; exact ⟨keepC T4.out Z0 z0, keepC T4.out Z0 z1, keepC T4.out Z0 z2⟩) (fun hHeld => ?_)
          clear hK K
          try simp only [Act.put, List.getElem_toArray, List.getElem_cons_succ, List.getElem_cons_zero, List.setIfInBounds_toArray, List.set_cons_zero, List.set_cons_succ]
          refine wpAnyH_ready (rs := [6]) (by kernel_rfl) (by simp) ?_
          refine AllReadyH.cons (o := _) rfl (fun K hK => ?_) (AllReadyH.nil)
          simp only [List.getElem_toArray, List.getElem_cons_succ, List.getElem_cons_zero]
          have cc := keepC T4.out ZS HC.out
          have ff := keepF T4.out ZS HFr.out
          go_simp
          clear cc ff
          refine hK.out _ _ (by obtain ⟨z0, z1, z2⟩ := HS0.out; exact ⟨(World.cell?_setCell_far _ _ _ _ (by simp <;> omega)).trans (keepC T4.out Z0 z0), (World.cell?_setCell_far _ _ _ _ (by simp <;> omega)).trans (keepC T4.out Z0 z1), (World.cell?_setCell_far _ _ _ _ (by simp <;> omega)).trans (keepC T4.out Z0 z2)⟩) (fun hHeld => ?_)
          clear hK K
          try simp only [Act.put, List.getElem_toArray, List.getElem_cons_succ, List.getElem_cons_zero, List.setIfInBounds_toArray, List.set_cons_zero, List.set_cons_succ]
          refine wpAnyH_done (by kernel_rfl) ?_ _
          have hk := keepH T4.out ZS HB1.out
          have hk0 := keepH T4.out Z0 HB2.out
          exact ⟨rfl, (keeps_below (W := W) T4.out).trans (KeepsOthers.setCell _ _ _), ⟨by rw [subK_snoc, HOO.out, HV.out]; exact Boxed.set _ hk, (grownBy_setCell' _ _ _).block _ (Array.getElem?_eq_some_iff.1 hk0).1 (by simp <;> omega) |>.trans hk0⟩, (HBW.out.drew.trans (T4.out.mono HBW.out.size)).setCell (p := ⟨w1.heap.size + 1, 0, none⟩) (by simp <;> omega) _⟩
    case done =>
      rintro D W hD ⟨⟨b1, b2⟩, hB⟩ hK
      have hVl := HVL.out
      obtain ⟨V, EV⟩ : ∃ V, Hid (subK l (bitsN s) = V) := ⟨_, Lib.hid rfl⟩
      rw [EV.out] at b1 hVl
      have c1 : W.cell? ⟨w1.heap.size + 1, 0, none⟩ = some (.int .u64 (V : Nat)) := by simp [World.cell?, b1]
      clear b1 b2
      gi_wp2
      refine ⟨by simp, .inl ⟨_, _, rfl, run_takeDeferred hK, ?_⟩⟩
      exact ⟨_, results_tmp rfl _ _ _, by rw [EV.out]; rfl, (HW.out.trans (hB.mono hws)).trans (belowK_b (w := w) (Nat.le_refl _) W D _ _ (by simp at hD; omega) hK rfl rfl)⟩
end Go.Proofs.YtkejpikhlejmaaaDoor
