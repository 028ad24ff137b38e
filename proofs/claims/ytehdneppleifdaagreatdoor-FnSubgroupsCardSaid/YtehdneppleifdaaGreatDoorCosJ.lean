/- The contracts of the program's own CosetsOf and CosetNumber. -/
import Derived.Test.YtehdneppleifdaaGreatDoorCosI
namespace Go.Proofs.YtehdneppleifdaaGreatDoor
open Go.RowKit Go.Shelf
attribute [local go_sem] Oper.semAt_some
set_option maxRecDepth 1000000
theorem isE_el {l : List Int} (hg : grpB l = true) {x : Int} (h0 : 0 ≤ x) (h1 : x < prodI l) : isE l x = true := by
  simp only [isE, ordN_grp hg, Bool.and_eq_true, decide_eq_true_eq]
  exact ⟨h0, h1⟩
theorem repE_yes {l : List Int} {s : Nat} (h : sgB l (s : Int) = true) : cosE l (s : Int) = NLi (cosN l s (repsK l s (prodI l).toNat)) := by
  unfold cosE
  rw [if_pos h, Int.toNat_natCast, cosN_ints]
set_option maxHeartbeats 2000000 in
theorem iCosetsOf (w : World) (a : Option Addr) (l : List Int) (n cap : Nat) (s : Int) (hn : n = l.length) (hm : n ≤ 9223372036854775807) (hi : Ints w a l) (B : Nat) (hB0 : B ≤ w.heap.size) (ht : TabZ B w) :
    Calls Tryz.prog 16 #[.agg #[.slice a n cap], .int .i64 s] w fun e w' => ∃ v, e = .returned (.tuple #[v, .bool (sgB l s)]) ∧ w'.ownsRow w.heap.size 3 1 v (cosE l s).length ((cosE l s).map (Value.int .i64)) ∧ Below w.heap.size w w' := by
  have HTZ := Lib.hid ht
  clear ht
  have HI := Lib.hid (ints_alloc hi (.cells #[.slice a n cap] 26))
  have HN := Lib.hid hn
  have C1 := newC w (.slice a n cap) 26 (n := w.heap.size) rfl
  have HB := Lib.hid (Joins.below_alloc1 w (.cells #[.slice a n cap] 26))
  have T0 := Lib.hid (Below.refl (w.alloc (.cells #[.slice a n cap] 26)).heap.size (w.alloc (.cells #[.slice a n cap] 26)))
  clear hi hn
  cases hs : sgB l s with
  | false =>
    have HS := Lib.hid hs
    rw [show cosE l s = [] by unfold cosE; rw [if_neg (by simp [hs])]]
    clear hs
    go_enter Tryz.func16, Tryz.ntmps16
    go_wp2_with ((go_at_call 33; refine (iSgIn_no _ _ _ _ _ _ HN.out hm (HI.out.below rfl T0.out) B (Nat.le_trans hB0 (by simp)) (HTZ.out.on (HB.out.mono hB0)) HS.out).mono ?_; rintro e w1 ⟨rfl, hb1⟩; have TA := Lib.hid ((HB.out.trans (hb1.mono (by simp))).alloc (Nat.le_trans (by simp) hb1.size) (.cells #[.int .i64 0, .int .i64 0, .int .i64 0] 41)); have HAL := Lib.hid (heap_alloc_new w1 (.cells #[.int .i64 0, .int .i64 0, .int .i64 0] 41)); obtain ⟨y0, y1, y2, _, _, _⟩ := trip_cell HAL.out; have U0 := Lib.hid (Below.refl (w1.alloc (.cells #[.int .i64 0, .int .i64 0, .int .i64 0] 41)).heap.size (w1.alloc (.cells #[.int .i64 0, .int .i64 0, .int .i64 0] 41)))))
    go_ret2
    exact ⟨_, rfl, World.ownsRow_nil _ _ _ _, TA.out⟩
  | true =>
    have HS := Lib.hid hs
    obtain ⟨hg, s, rfl, hsn, hs24⟩ := isS_true (sgB_is hs)
    have HCO := Lib.hid (fun (W : World) => iCosets hg W s hsn)
    have HRL : Hid ((repsK l s (prodI l).toNat).length ≤ 24) := Lib.hid (by
      have h1 := reps_len l s (prodI l).toNat
      have h2 := (ords_grp hg).prod
      omega)
    have hcl := cosN_lt hg s (repsK l s (prodI l).toNat)
    rw [repE_yes hs, NLi_len]
    have HLEN := Lib.hid (cosN_len l s (repsK l s (prodI l).toNat))
    obtain ⟨p, EP⟩ : ∃ p, Hid (l.getD 0 1 = p) := ⟨_, Lib.hid rfl⟩
    obtain ⟨q, EQ⟩ : ∃ q, Hid (l.getD 1 1 = q) := ⟨_, Lib.hid rfl⟩
    obtain ⟨r, ER⟩ : ∃ r, Hid (l.getD 2 1 = r) := ⟨_, Lib.hid rfl⟩
    rw [EP.out, EQ.out, ER.out] at HCO
    obtain ⟨R, hR⟩ : ∃ R, cosN l s (repsK l s (prodI l).toNat) = R := ⟨_, rfl⟩
    rw [hR] at HCO HLEN hcl
    rw [hR]
    obtain ⟨m, hmm⟩ : ∃ m, (repsK l s (prodI l).toNat).length = m := ⟨_, rfl⟩
    rw [hmm] at HCO HLEN HRL
    rw [HLEN.out]
    have HCL := Lib.hid hcl
    clear hs hg hsn hs24 hR hmm hcl
    go_enter Tryz.func16, Tryz.ntmps16
    go_wp2_with (first
      | (go_at_call 37; refine (iNumbers _ _ R m _ HLEN.out.symm (Nat.le_trans HRL.out (by decide)) HCL.out HE2.out).mono ?_; rintro e w3 ⟨rfl, ho3, hb3⟩; have H3 := Lib.hid ho3; have T3 := Lib.hid (T2.out.trans (hb3.mono T2.out.size)))
      | (go_at_call 45; refine (HCO.out _).mono ?_; rintro e w2 ⟨v2, rfl, ho2, hb2⟩; obtain ⟨a2, cap2, rfl, he2⟩ := els_own HLEN.out.symm ho2; have HE2 := Lib.hid he2; have T2 := Lib.hid (TA.out.trans (hb2.mono TA.out.size)); clear ho2 he2)
      | (go_at_call 33; refine (iSgIn_yes _ _ _ _ _ _ HN.out hm (HI.out.below rfl T0.out) B (Nat.le_trans hB0 (by simp)) (HTZ.out.on (HB.out.mono hB0)) HS.out).mono ?_; rw [EP.out, EQ.out, ER.out]; rintro e w1 ⟨rfl, hb1⟩; have TA := Lib.hid ((HB.out.trans (hb1.mono (by simp))).alloc (Nat.le_trans (by simp) hb1.size) (.cells #[.int .i64 p, .int .i64 q, .int .i64 r] 41)); have HAL := Lib.hid (heap_alloc_new w1 (.cells #[.int .i64 p, .int .i64 q, .int .i64 r] 41)); obtain ⟨y0, y1, y2, _, _, _⟩ := trip_cell HAL.out; have U0 := Lib.hid (Below.refl (w1.alloc (.cells #[.int .i64 p, .int .i64 q, .int .i64 r] 41)).heap.size (w1.alloc (.cells #[.int .i64 p, .int .i64 q, .int .i64 r] 41)))))
    go_ret2
    exact ⟨_, rfl, Joins.ownsRow_le H3.out T2.out.size, T3.out⟩
theorem find_congr {p q : Nat → Bool} : ∀ (R : List Nat), (∀ y ∈ R, p y = q y) → R.findIdx? p = R.findIdx? q
  | [], _ => rfl
  | x :: R, h => by
    rw [List.findIdx?_cons, List.findIdx?_cons, h x (by simp), find_congr R (fun y hy => h y (by simp [hy]))]
/-- The number of an element's coset is the place of the subgroup's shift by it. -/
theorem num_idx {l : List Int} (hg : grpB l = true) {s x : Nat} (hs : IsSg l s) (hx : (x : Int) < prodI l) :
    idxN (cosN l s (repsK l s (prodI l).toNat)) (movN l s x) = (match (repsK l s (prodI l).toNat).findIdx? (fun y => (movN l s y).testBit x) with | some i => ((i : Nat) : Int) | none => -1) := by
  have hf : ∀ y ∈ repsK l s (prodI l).toNat, ((fun y => y == movN l s x) ∘ fun y => movN l s y) y = (fun y => (movN l s y).testBit x) y := fun y hy => by
    have hyl := reps_lt l s (prodI l).toNat y hy
    have hyp : (y : Int) < prodI l := by omega
    simp only [Function.comp]
    rw [Bool.eq_iff_iff, beq_iff_eq]
    constructor
    · intro e
      rw [e]; exact coset_holds hg hs hx
    · intro e
      exact coset_same hg hs hyp e
  unfold idxN cosN
  rw [List.findIdx?_map, find_congr _ hf]
  generalize List.findIdx? _ _ = o
  cases o <;> rfl
set_option maxHeartbeats 2000000 in
theorem iCosNo (w : World) (a : Option Addr) (l : List Int) (n cap : Nat) (s x : Int) (hn : n = l.length) (hm : n ≤ 9223372036854775807) (hi : Ints w a l) (B : Nat) (hB0 : B ≤ w.heap.size) (ht : TabZ B w) :
    Calls Tryz.prog 24 #[.agg #[.slice a n cap], .int .i64 s, .int .i64 x] w fun e w' => e = .returned (.int .i64 (numE l s x)) ∧ Below w.heap.size w w' := by
  have HTZ := Lib.hid ht
  clear ht
  have HI := Lib.hid (ints_alloc hi (.cells #[.slice a n cap] 26))
  have HN := Lib.hid hn
  have C1 := newC w (.slice a n cap) 26 (n := w.heap.size) rfl
  have HB := Lib.hid (Joins.below_alloc1 w (.cells #[.slice a n cap] 26))
  have T0 := Lib.hid (Below.refl (w.alloc (.cells #[.slice a n cap] 26)).heap.size (w.alloc (.cells #[.slice a n cap] 26)))
  clear hi hn
  cases hs : sgB l s with
  | false =>
    have HS := Lib.hid hs
    rw [show numE l s x = -1 by unfold numE; rw [if_neg (by simp [hs])]]
    clear hs
    go_enter Tryz.func24, Tryz.ntmps24
    go_wp2_with ((go_at_call 33; refine (iSgIn_no _ _ _ _ _ _ HN.out hm (HI.out.below rfl T0.out) B (Nat.le_trans hB0 (by simp)) (HTZ.out.on (HB.out.mono hB0)) HS.out).mono ?_; rintro e w1 ⟨rfl, hb1⟩; have TA := Lib.hid ((HB.out.trans (hb1.mono (by simp))).alloc (Nat.le_trans (by simp) hb1.size) (.cells #[.int .i64 0, .int .i64 0, .int .i64 0] 41)); have HAL := Lib.hid (heap_alloc_new w1 (.cells #[.int .i64 0, .int .i64 0, .int .i64 0] 41)); obtain ⟨y0, y1, y2, _, _, _⟩ := trip_cell HAL.out; have U0 := Lib.hid (Below.refl (w1.alloc (.cells #[.int .i64 0, .int .i64 0, .int .i64 0] 41)).heap.size (w1.alloc (.cells #[.int .i64 0, .int .i64 0, .int .i64 0] 41)))))
    go_ret
    exact ⟨rfl, TA.out⟩
  | true =>
    have HS := Lib.hid hs
    obtain ⟨hg, s, rfl, hsn, hs24⟩ := isS_true (sgB_is hs)
    have HCO := Lib.hid (fun (W : World) => iCosets hg W s hsn)
    have HRL : Hid ((repsK l s (prodI l).toNat).length ≤ 24) := Lib.hid (by
      have h1 := reps_len l s (prodI l).toNat
      have h2 := (ords_grp hg).prod
      omega)
    have HLEN := Lib.hid (cosN_len l s (repsK l s (prodI l).toNat))
    have HPR := Lib.hid (fun (W : World) => iProduct W _ _ _ (tri_grp hg))
    rw [← prod_pad (grpB_true hg).1] at HPR
    have hP24 := (ords_grp hg).prod
    cases hx : isE l x with
    | false =>
      rw [show numE l (s : Int) x = -1 by unfold numE; rw [if_neg (by simp [hx])]]
      have hor : x < 0 ∨ (0 ≤ x ∧ prodI l ≤ x) := by
        rcases Int.lt_or_le x 0 with h1 | h1
        · exact .inl h1
        · refine .inr ⟨h1, ?_⟩
          rcases Int.lt_or_le x (prodI l) with h2 | h2
          · rw [isE_el hg h1 h2] at hx; cases hx
          · exact h2
      obtain ⟨p, EP⟩ : ∃ p, Hid (l.getD 0 1 = p) := ⟨_, Lib.hid rfl⟩
      obtain ⟨q, EQ⟩ : ∃ q, Hid (l.getD 1 1 = q) := ⟨_, Lib.hid rfl⟩
      obtain ⟨r, ER⟩ : ∃ r, Hid (l.getD 2 1 = r) := ⟨_, Lib.hid rfl⟩
      rw [EP.out, EQ.out, ER.out] at HPR
      obtain ⟨P, hPP⟩ : ∃ P, prodI l = P := ⟨_, rfl⟩
      rw [hPP] at HPR hor hP24
      clear hs hg hsn hs24 hx hPP HCO HRL HLEN
      rcases hor with h1 | ⟨h1, h2⟩
      · go_enter Tryz.func24, Tryz.ntmps24
        go_wp2_with ((go_at_call 33; refine (iSgIn_yes _ _ _ _ _ _ HN.out hm (HI.out.below rfl T0.out) B (Nat.le_trans hB0 (by simp)) (HTZ.out.on (HB.out.mono hB0)) HS.out).mono ?_; rw [EP.out, EQ.out, ER.out]; rintro e w1 ⟨rfl, hb1⟩; have TA := Lib.hid ((HB.out.trans (hb1.mono (by simp))).alloc (Nat.le_trans (by simp) hb1.size) (.cells #[.int .i64 p, .int .i64 q, .int .i64 r] 41)); have HAL := Lib.hid (heap_alloc_new w1 (.cells #[.int .i64 p, .int .i64 q, .int .i64 r] 41)); obtain ⟨y0, y1, y2, _, _, _⟩ := trip_cell HAL.out; have U0 := Lib.hid (Below.refl (w1.alloc (.cells #[.int .i64 p, .int .i64 q, .int .i64 r] 41)).heap.size (w1.alloc (.cells #[.int .i64 p, .int .i64 q, .int .i64 r] 41)))))
        go_ret
        exact ⟨rfl, TA.out⟩
      · have h3 : ¬ x < 0 := by omega
        have h4 : ¬ x < P := by omega
        go_enter Tryz.func24, Tryz.ntmps24
        go_wp2_with (first
          | (go_at_call 53; refine (HPR.out _).mono ?_; rintro e w2 ⟨rfl, hb2⟩)
          | (go_at_call 33; refine (iSgIn_yes _ _ _ _ _ _ HN.out hm (HI.out.below rfl T0.out) B (Nat.le_trans hB0 (by simp)) (HTZ.out.on (HB.out.mono hB0)) HS.out).mono ?_; rw [EP.out, EQ.out, ER.out]; rintro e w1 ⟨rfl, hb1⟩; have TA := Lib.hid ((HB.out.trans (hb1.mono (by simp))).alloc (Nat.le_trans (by simp) hb1.size) (.cells #[.int .i64 p, .int .i64 q, .int .i64 r] 41)); have HAL := Lib.hid (heap_alloc_new w1 (.cells #[.int .i64 p, .int .i64 q, .int .i64 r] 41)); obtain ⟨y0, y1, y2, _, _, _⟩ := trip_cell HAL.out; have U0 := Lib.hid (Below.refl (w1.alloc (.cells #[.int .i64 p, .int .i64 q, .int .i64 r] 41)).heap.size (w1.alloc (.cells #[.int .i64 p, .int .i64 q, .int .i64 r] 41)))))
        go_ret
        exact ⟨rfl, TA.out.trans (hb2.mono TA.out.size)⟩
    | true =>
      obtain ⟨_, x0, x1, x2⟩ := isE_true hx
      have hxp : x < prodI l := x1
      obtain ⟨x, rfl⟩ : ∃ y : Nat, x = (y : Int) := ⟨x.toNat, by omega⟩
      rw [show numE l (s : Int) (x : Int) = idxN (cosN l s (repsK l s (prodI l).toNat)) (movN l s x) by rw [num_idx hg ((sgB_iff (sgB_is hs)).1 hs) hxp]; unfold numE; rw [if_pos ⟨hs, hx⟩, Int.toNat_natCast, Int.toNat_natCast]; generalize List.findIdx? _ _ = o; cases o <;> rfl]
      have HSH := Lib.hid (fun (W : World) => iMov hg W s x hsn hxp)
      obtain ⟨p, EP⟩ : ∃ p, Hid (l.getD 0 1 = p) := ⟨_, Lib.hid rfl⟩
      obtain ⟨q, EQ⟩ : ∃ q, Hid (l.getD 1 1 = q) := ⟨_, Lib.hid rfl⟩
      obtain ⟨r, ER⟩ : ∃ r, Hid (l.getD 2 1 = r) := ⟨_, Lib.hid rfl⟩
      rw [EP.out, EQ.out, ER.out] at HCO HPR HSH
      obtain ⟨R, hR⟩ : ∃ R, cosN l s (repsK l s (prodI l).toNat) = R := ⟨_, rfl⟩
      rw [hR] at HCO HLEN
      rw [hR]
      obtain ⟨m, hmm⟩ : ∃ m, (repsK l s (prodI l).toNat).length = m := ⟨_, rfl⟩
      rw [hmm] at HCO HLEN HRL
      obtain ⟨V, hV⟩ : ∃ V, movN l s x = V := ⟨_, rfl⟩
      rw [hV] at HSH
      rw [hV]
      obtain ⟨P, hPP⟩ : ∃ P, prodI l = P := ⟨_, rfl⟩
      rw [hPP] at HPR hxp hP24
      have h3 : ¬ (x : Int) < 0 := by omega
      clear hs hg hsn hs24 hx hPP hR hmm hV x0 x1 x2
      go_enter Tryz.func24, Tryz.ntmps24
      go_upto_region 4 with (first
        | (go_at_call 53; refine (HPR.out _).mono ?_; rintro e w2 ⟨rfl, hb2⟩; have U2 := Lib.hid (U0.out.trans (hb2.mono U0.out.size)); obtain ⟨d0, d1, d2, _, _, _⟩ := trip_cell (keepH U2.out (by simp) HAL.out))
        | (go_at_call 33; refine (iSgIn_yes _ _ _ _ _ _ HN.out hm (HI.out.below rfl T0.out) B (Nat.le_trans hB0 (by simp)) (HTZ.out.on (HB.out.mono hB0)) HS.out).mono ?_; rw [EP.out, EQ.out, ER.out]; rintro e w1 ⟨rfl, hb1⟩; have TA := Lib.hid ((HB.out.trans (hb1.mono (by simp))).alloc (Nat.le_trans (by simp) hb1.size) (.cells #[.int .i64 p, .int .i64 q, .int .i64 r] 41)); have HAL := Lib.hid (heap_alloc_new w1 (.cells #[.int .i64 p, .int .i64 q, .int .i64 r] 41)); obtain ⟨y0, y1, y2, _, _, _⟩ := trip_cell HAL.out; have U0 := Lib.hid (Below.refl (w1.alloc (.cells #[.int .i64 p, .int .i64 q, .int .i64 r] 41)).heap.size (w1.alloc (.cells #[.int .i64 p, .int .i64 q, .int .i64 r] 41)))))
      go_region_held3 (fun W => W.cell? ⟨w1.heap.size, 0, none⟩ = some (.int .i64 p) ∧ W.cell? ⟨w1.heap.size, 1, none⟩ = some (.int .i64 q) ∧ W.cell? ⟨w1.heap.size, 2, none⟩ = some (.int .i64 r)) (first | exact ⟨f0, f1, f2⟩ | exact ⟨e0, e1, e2⟩ | exact ⟨d0, d1, d2⟩)
        (first
        | (go_at_call 54; refine (iIndex _ _ R m _ V HLEN.out.symm (Nat.le_trans HRL.out (by decide)) HE4.out).mono ?_; rintro e w5 ⟨rfl, rfl⟩)
        | (go_at_call 55; have hx_ := HE3; clear hx_; refine (HSH.out _).mono ?_; rintro e w4 ⟨rfl, hb4⟩; have U4 := Lib.hid (U3.out.trans (hb4.mono U3.out.size)); have HE4 := Lib.hid (HE3.out.below hb4); obtain ⟨f0, f1, f2, _, _, _⟩ := trip_cell (keepH U4.out (by simp) HAL.out))
        | (go_at_call 45; refine (HCO.out _).mono ?_; rintro e w3 ⟨v3, rfl, ho3, hb3⟩; obtain ⟨a3, cap3, rfl, he3⟩ := els_own HLEN.out.symm ho3; have HE3 := Lib.hid he3; have U3 := Lib.hid (U2.out.drew.trans (hb3.mono U2.out.drew.size)); obtain ⟨e0, e1, e2, _, _, _⟩ := trip_cell (keepH U3.out (by simp) HAL.out); clear ho3 he3))
      all_goals go_wp2
      go_ret
      exact ⟨rfl, TA.out.trans (U4.out.mono TA.out.size)⟩
end Go.Proofs.YtehdneppleifdaaGreatDoor
