/- The contract of the program's own CountSums. -/
import Derived.Test.YthlpjiibjlaebaaDoorSumK
namespace Go.Proofs.YthlpjiibjlaebaaDoor
open Go.RowKit
set_option maxRecDepth 1000000
set_option maxHeartbeats 4000000 in
theorem iCntS (w : World) (a : Option Addr) (l : List Int) (n cap : Nat) (s t x : Int) (hn : n = l.length) (hm : n ≤ 9223372036854775807) (hi : Ints w a l) (B : Nat) (hB0 : B ≤ w.heap.size) (ht : TabZ B w) :
    Calls Tryd.prog 26 #[.agg #[.slice a n cap], .int .i64 s, .int .i64 t, .int .i64 x] w fun e w' => e = .returned (.int .i64 (cntS l s t x)) ∧ Below w.heap.size w w' := by
  have HTZ := Lib.hid ht
  clear ht
  have HI := Lib.hid (ints_alloc hi (.cells #[.slice a n cap] 26))
  have HN := Lib.hid hn
  have C1 := newC w (.slice a n cap) 26 (n := w.heap.size) rfl
  have HB := Lib.hid (Joins.below_alloc1 w (.cells #[.slice a n cap] 26))
  have T0 := Lib.hid (Below.refl (w.alloc (.cells #[.slice a n cap] 26)).heap.size (w.alloc (.cells #[.slice a n cap] 26)))
  clear hi hn
  cases hs : two l s t with
  | false =>
    have HS := Lib.hid hs
    rw [show cntS l s t x = -1 by unfold cntS; rw [if_neg (by simp [hs])]]
    clear hs
    go_enter Tryd.func26, Tryd.ntmps26
    go_wp2_with (go_at_call 60; refine (iSetsIn_no _ _ _ _ _ _ _ HN.out hm (HI.out.below rfl T0.out) HS.out).mono ?_; rintro e w1 ⟨p, q, r, u, v, rfl, hb1⟩)
    go_ret
    exact ⟨rfl, HB.out.trans (Below.alloc (hb1.mono (by simp)) (Nat.le_trans (by simp) hb1.size) _)⟩
  | true =>
    have HS := Lib.hid hs
    obtain ⟨hg, s, t, rfl, rfl, hsn, htn⟩ := two_true hs
    have HT := Lib.hid (tri_grp hg)
    have HP := prod_pad (grpB_true hg).1
    have HVG : Hid (∀ x : Nat, (x : Int) < prodI l → cntS l s t x = (((bitsN (s &&& movN l (ngN l t) x)).length : Nat) : Int)) := Lib.hid (fun x hx => by
      unfold cntS
      rw [if_pos ⟨hs, by omega, hx⟩]
      show ((parN l (bitsN s) (bitsN t) x : Nat) : Int) = _
      rw [count_par hg hsn htn hx])
    have HNO : Hid (∀ x, (x < 0 ∨ prodI l ≤ x) → cntS l s t x = -1) := Lib.hid (fun x hx => by unfold cntS; rw [if_neg (fun h => by have h1 := h.2.1; have h2 := h.2.2; omega)])
    have HDL : Hid (orF (dilF (l.getD 0 1) (l.getD 1 1) (l.getD 2 1) (-1)) (bitsN t) = ngN l t) := Lib.hid (dl_tri hg (-1) (bitsN t)).symm
    have HUL : Hid (ngN l t < 2 ^ (prodI l).toNat) := Lib.hid (ngN_lt hg t)
    have HGV : Hid (∀ t x, shG (l.getD 0 1) (l.getD 1 1) (l.getD 2 1) t x = movN l t x) := Lib.hid (fun t x => shG_mov hg t x)
    have HVL : Hid (∀ x, movN l (ngN l t) x < 2 ^ (prodI l).toNat) := Lib.hid (fun x => movN_lt hg _ x)
    rw [HP] at hsn htn HVG HNO HUL HVL
    obtain ⟨p, EP⟩ : ∃ p, Hid (l.getD 0 1 = p) := ⟨_, Lib.hid rfl⟩
    obtain ⟨q, EQ⟩ : ∃ q, Hid (l.getD 1 1 = q) := ⟨_, Lib.hid rfl⟩
    obtain ⟨r, ER⟩ : ∃ r, Hid (l.getD 2 1 = r) := ⟨_, Lib.hid rfl⟩
    rw [EP.out, EQ.out, ER.out] at HT hsn htn HVG HNO HDL HUL HGV HVL
    have HA := Lib.hid hsn
    have HC : Hid (t < 16777216) := Lib.hid (tri_pow HT.out htn)
    obtain ⟨u, HU⟩ : ∃ u, Hid (ngN l t = u) := ⟨_, Lib.hid rfl⟩
    rw [HU.out] at HVG HDL HUL HVL
    clear hs hg HP hsn htn
    have hpq1 := HT.out.pqr1
    have hpq2 := HT.out.pqr2
    by_cases h0 : x < 0
    · rw [HNO.out x (.inl h0)]
      go_enter Tryd.func26, Tryd.ntmps26
      go_wp2_with (go_at_call 60; refine (iSetsIn_yes _ _ _ _ _ _ _ HN.out hm (HI.out.below rfl T0.out) HS.out).mono ?_; rw [EP.out, EQ.out, ER.out]; rintro e w1 ⟨rfl, hb1⟩; have TA := Lib.hid ((HB.out.trans (hb1.mono (by simp))).alloc (Nat.le_trans (by simp) hb1.size) (.cells #[.int .i64 p, .int .i64 q, .int .i64 r] 51)); have RY := Lib.hid (heap_alloc_new w1 (.cells #[.int .i64 p, .int .i64 q, .int .i64 r] 51)); obtain ⟨y0, y1, y2, _, _, _⟩ := trip_cell RY.out)
      go_ret
      exact ⟨rfl, TA.out⟩
    · have h0' : 0 ≤ x := by omega
      by_cases h1 : p * q * r ≤ x
      · rw [HNO.out x (.inr h1)]
        clear h0
        go_enter Tryd.func26, Tryd.ntmps26
        go_wp2_with (first | (go_at_call 78; refine (iProduct _ _ _ _ HT.out).mono ?_; rintro e w2 ⟨rfl, hb2⟩; have TB := Lib.hid (TA.out.trans (hb2.mono TA.out.size)); have RZ := Lib.hid (keepH hb2 (by simp) RY.out); obtain ⟨z0, z1, z2, _, _, _⟩ := trip_cell RZ.out) | (go_at_call 60; refine (iSetsIn_yes _ _ _ _ _ _ _ HN.out hm (HI.out.below rfl T0.out) HS.out).mono ?_; rw [EP.out, EQ.out, ER.out]; rintro e w1 ⟨rfl, hb1⟩; have TA := Lib.hid ((HB.out.trans (hb1.mono (by simp))).alloc (Nat.le_trans (by simp) hb1.size) (.cells #[.int .i64 p, .int .i64 q, .int .i64 r] 51)); have RY := Lib.hid (heap_alloc_new w1 (.cells #[.int .i64 p, .int .i64 q, .int .i64 r] 51)); obtain ⟨y0, y1, y2, _, _, _⟩ := trip_cell RY.out))
        go_ret
        exact ⟨rfl, TB.out⟩
      · have h1' : x < p * q * r := by omega
        obtain ⟨x, rfl⟩ : ∃ y : Nat, x = (y : Int) := ⟨x.toNat, by omega⟩
        rw [HVG.out x h1']
        have HXN := Lib.hid h1'
        have hvl := HVL.out x
        obtain ⟨V, HV⟩ : ∃ V, Hid (movN l u x = V) := ⟨_, Lib.hid rfl⟩
        rw [HV.out] at hvl
        rw [HV.out]
        have HSH : Hid (shG p q r u x = V) := Lib.hid (by rw [HGV.out, HV.out])
        have han := andU s V (s &&& V) (lt24 (tri_pow HT.out HA.out)) (by have := lt24 (tri_pow HT.out hvl); omega) rfl
        have hAl : s &&& V < 16777216 := Nat.lt_of_le_of_lt Nat.and_le_left (lt24 (tri_pow HT.out HA.out))
        obtain ⟨A, HAA⟩ : ∃ A, Hid (s &&& V = A) := ⟨_, Lib.hid rfl⟩
        rw [HAA.out] at han hAl
        rw [HAA.out]
        have HAL := Lib.hid hAl
        obtain ⟨L, HLL⟩ : ∃ L, Hid ((bitsN A).length = L) := ⟨_, Lib.hid rfl⟩
        rw [HLL.out]
        have hm1 : (-100 : Int) ≤ -1 := by decide
        have hm2 : (-1 : Int) ≤ 100 := by decide
        have HM1 := Lib.hid hm1
        have HM2 := Lib.hid hm2
        clear h0 h1 hvl hAl hm1 hm2
        go_enter Tryd.func26, Tryd.ntmps26
        go_wp2_with (first | (go_at_call 78; refine (iProduct _ _ _ _ HT.out).mono ?_; rintro e w2 ⟨rfl, hb2⟩; have TB := Lib.hid (TA.out.trans (hb2.mono TA.out.size)); have RZ := Lib.hid (keepH hb2 (by simp) RY.out); obtain ⟨z0, z1, z2, _, _, _⟩ := trip_cell RZ.out) | (go_at_call 60; refine (iSetsIn_yes _ _ _ _ _ _ _ HN.out hm (HI.out.below rfl T0.out) HS.out).mono ?_; rw [EP.out, EQ.out, ER.out]; rintro e w1 ⟨rfl, hb1⟩; have TA := Lib.hid ((HB.out.trans (hb1.mono (by simp))).alloc (Nat.le_trans (by simp) hb1.size) (.cells #[.int .i64 p, .int .i64 q, .int .i64 r] 51)); have RY := Lib.hid (heap_alloc_new w1 (.cells #[.int .i64 p, .int .i64 q, .int .i64 r] 51)); obtain ⟨y0, y1, y2, _, _, _⟩ := trip_cell RY.out))
        have TBd := Lib.hid TB.out.drew
        go_region_held3 (fun W => W.cell? ⟨w1.heap.size, 0, none⟩ = some (.int .i64 p) ∧ W.cell? ⟨w1.heap.size, 1, none⟩ = some (.int .i64 q) ∧ W.cell? ⟨w1.heap.size, 2, none⟩ = some (.int .i64 r)) (first | exact ⟨u0, u1, u2⟩ | exact ⟨x0, x1, x2⟩ | exact ⟨z0, z1, z2⟩)
          (first
          | (go_at_call 80; refine (iCnt _ A HAL.out).mono ?_; rw [HLL.out]; rintro e w5 ⟨rfl, rfl⟩)
          | (go_at_call 62; refine (iShG _ p q r u x HT.out HUL.out HXN.out).mono ?_; rw [HSH.out]; rintro e w4 ⟨rfl, hb4⟩; have T4 := Lib.hid (T3.out.trans (hb4.mono T3.out.size)); have RV := Lib.hid (keepH hb4 (by have := (Array.getElem?_eq_some_iff.1 RX.out).1; omega) RX.out); obtain ⟨u0, u1, u2, _, _, _⟩ := trip_cell RV.out)
          | (go_at_call 79; refine (iDilate _ p q r (-1) t HT.out HC.out HM1.out HM2.out B (Nat.le_trans hB0 TBd.out.size) (HTZ.out.on (TBd.out.mono hB0))).mono ?_; rw [HDL.out]; rintro e w3 ⟨rfl, hb3⟩; have T3 := Lib.hid (TBd.out.trans (hb3.mono TBd.out.size)); have RX := Lib.hid (keepH hb3 (by have := (Array.getElem?_eq_some_iff.1 RZ.out).1; simpa using this) RZ.out); obtain ⟨x0, x1, x2, _, _, _⟩ := trip_cell RX.out))
        go_wp2
        go_ret
        exact ⟨rfl, T4.out⟩
end Go.Proofs.YthlpjiibjlaebaaDoor
