/- The program's own annihilators, and its exported functions on characters. -/
import Derived.Test.YticgoodmfjjggaaDoorChaJ
import Derived.Test.YticgoodmfjjggaaDoorSetIn
import Derived.Test.YticgoodmfjjggaaDoorShiftN
import Derived.Laws.EntriesVeiled
namespace Go.Proofs.YticgoodmfjjggaaDoor
open Go.RowKit
set_option maxRecDepth 1000000
theorem ker_and {V S : Nat} : S ^^^ (S &&& V) = 0 ↔ V &&& S = S := by
  constructor
  · intro h
    apply Nat.eq_of_testBit_eq
    intro j
    have h1 := congrArg (fun z => z.testBit j) h
    simp only [Nat.testBit_xor, Nat.testBit_and, Nat.zero_testBit] at h1 ⊢
    cases hs : S.testBit j <;> cases hv : V.testBit j <;> simp_all
  · intro h
    apply Nat.eq_of_testBit_eq
    intro j
    have h1 := congrArg (fun z => z.testBit j) h
    simp only [Nat.testBit_xor, Nat.testBit_and, Nat.zero_testBit] at h1 ⊢
    cases hs : S.testBit j <;> cases hv : V.testBit j <;> simp_all
theorem below_set2 {B b : Nat} {w0 w : World} {x y : Value} (h : Below B w0 w) (hb : B ≤ b) : Below B w0 ((w.setCell ⟨b, 0, none⟩ x).setCell ⟨b, 1, none⟩ y) := Below.setCell (p := ⟨b, 1, none⟩) (Below.setCell (p := ⟨b, 0, none⟩) h hb _) hb _
set_option maxHeartbeats 2000000 in
theorem iCIn_no (w : World) (a : Option Addr) (l : List Int) (n cap : Nat) (k : Int) (hn : n = l.length) (hm : n ≤ 9223372036854775807) (hi : Ints w a l) (hk : isE l k = false) :
    Calls Tryd.prog 33 #[.agg #[.slice a n cap], .int .i64 k] w fun e w' => e = .returned (.tuple #[tV 0 0 0, .agg #[.int .i64 0, .nilFunc], .bool false]) ∧ Below w.heap.size w w' := by
  have HI := Lib.hid (ints_alloc (ints_alloc (ints_alloc hi (.cells #[.slice a n cap] 27)) (.cells #[.int .i64 0, .int .i64 0, .int .i64 0] 53)) (.cells #[.int .i64 0, .nilFunc] 44))
  have HN := Lib.hid hn
  have C1 := keepC (Joins.below_alloc2 _ (.cells #[.int .i64 0, .int .i64 0, .int .i64 0] 53) (.cells #[.int .i64 0, .nilFunc] 44)) (by simp <;> omega) (newC w (.slice a n cap) 27 (n := w.heap.size) rfl)
  have HB := Lib.hid (Joins.below_alloc3 w (.cells #[.slice a n cap] 27) (.cells #[.int .i64 0, .int .i64 0, .int .i64 0] 53) (.cells #[.int .i64 0, .nilFunc] 44))
  have R1 : Hid ((((w.alloc (.cells #[.slice a n cap] 27)).alloc (.cells #[.int .i64 0, .int .i64 0, .int .i64 0] 53)).alloc (.cells #[.int .i64 0, .nilFunc] 44)).heap[w.heap.size + 1]? = some (.cells #[.int .i64 0, .int .i64 0, .int .i64 0] 53 (0, 0))) := Lib.hid (keepH (Joins.below_alloc1 _ _) (by simp <;> omega) (by simpa using heap_alloc_new (w.alloc (.cells #[.slice a n cap] 27)) (.cells #[.int .i64 0, .int .i64 0, .int .i64 0] 53)))
  have R2 : Hid ((((w.alloc (.cells #[.slice a n cap] 27)).alloc (.cells #[.int .i64 0, .int .i64 0, .int .i64 0] 53)).alloc (.cells #[.int .i64 0, .nilFunc] 44)).heap[w.heap.size + 1 + 1]? = some (.cells #[.int .i64 0, .nilFunc] 44 (0, 0))) := Lib.hid (by simpa using heap_alloc_new ((w.alloc (.cells #[.slice a n cap] 27)).alloc (.cells #[.int .i64 0, .int .i64 0, .int .i64 0] 53)) (.cells #[.int .i64 0, .nilFunc] 44))
  have T0 := Lib.hid (Below.refl (((w.alloc (.cells #[.slice a n cap] 27)).alloc (.cells #[.int .i64 0, .int .i64 0, .int .i64 0] 53)).alloc (.cells #[.int .i64 0, .nilFunc] 44)).heap.size (((w.alloc (.cells #[.slice a n cap] 27)).alloc (.cells #[.int .i64 0, .int .i64 0, .int .i64 0] 53)).alloc (.cells #[.int .i64 0, .nilFunc] 44)))
  clear hi hn
  cases hg : grpB l with
  | false =>
    have HG := Lib.hid hg
    clear hg hk
    go_enter Tryd.func33, Tryd.ntmps33
    go_wp2_with (first | (go_at_call 38; refine (iOrders _ _ _ _ _ HN.out hm HI.out).mono ?_; unfold OrdersPost; rw [HG.out]; rintro e w1 ⟨p', q', r', rfl, hpqr, hb1⟩; clear hpqr; have T1 := Lib.hid (T0.out.trans (hb1.mono T0.out.size)); have TA := Lib.hid (T1.out.alloc T1.out.size (.cells #[.int .i64 p', .int .i64 q', .int .i64 r'] 53)); have c1 := keepC T1.out (by simp <;> omega) C1; obtain ⟨x10, x11, x12, x1f0, x1f1, x1f2⟩ := trip_cell (keepH T1.out (by simp <;> omega) R1.out); obtain ⟨y10, y11, y1f0, y1f1⟩ := two_cell (keepH T1.out (by simp <;> omega) R2.out); have c2 := keepC TA.out (by simp <;> omega) C1; obtain ⟨x20, x21, x22, x2f0, x2f1, x2f2⟩ := trip_cell (keepH TA.out (by simp <;> omega) R1.out); obtain ⟨y20, y21, y2f0, y2f1⟩ := two_cell (keepH TA.out (by simp <;> omega) R2.out); have R7 := Lib.hid (heap_alloc_new w1 (.cells #[.int .i64 p', .int .i64 q', .int .i64 r'] 53))))
    refine bodyPost_ret (v := .tuple #[tV 0 0 0, .agg #[.int .i64 0, .nilFunc], .bool false]) (by simp [results, Tryd.results33, go_sem, x20, x21, x22, y20, y21]) rfl ⟨rfl, below_set2 (below_set3 (HB.out.trans (TA.out.mono (by simp <;> omega))) (by omega)) (by omega)⟩
  | true =>
    have HG := Lib.hid hg
    have HT := Lib.hid (tri_grp hg)
    have HP := prod_pad (grpB_true hg).1
    have HO := ordN_grp hg
    rw [HP] at HO
    obtain ⟨p, EP⟩ : ∃ p, Hid (l.getD 0 1 = p) := ⟨_, Lib.hid rfl⟩
    obtain ⟨q, EQ⟩ : ∃ q, Hid (l.getD 1 1 = q) := ⟨_, Lib.hid rfl⟩
    obtain ⟨r, ER⟩ : ∃ r, Hid (l.getD 2 1 = r) := ⟨_, Lib.hid rfl⟩
    rw [EP.out, EQ.out, ER.out] at HT HO
    have hor : k < 0 ∨ (0 ≤ k ∧ p * q * r ≤ k) := by
      simp only [isE, HO, Bool.and_eq_false_iff, decide_eq_false_iff_not] at hk
      omega
    clear hg hk HP HO
    rcases hor with h | ⟨h, h2⟩
    · go_enter Tryd.func33, Tryd.ntmps33
      go_wp2_with (first
        | (go_at_call 38; refine (iOrders _ _ _ _ _ HN.out hm HI.out).mono ?_; unfold OrdersPost; rw [HG.out]; rintro e w1 ⟨p', q', r', rfl, hpqr, hb1⟩; obtain ⟨e1, e2, e3⟩ := hpqr rfl; clear hpqr; rw [EP.out] at e1; rw [EQ.out] at e2; rw [ER.out] at e3; subst e1 e2 e3; have T1 := Lib.hid (T0.out.trans (hb1.mono T0.out.size)); have TA := Lib.hid (T1.out.alloc T1.out.size (.cells #[.int .i64 p', .int .i64 q', .int .i64 r'] 53)); have c1 := keepC T1.out (by simp <;> omega) C1; obtain ⟨x10, x11, x12, x1f0, x1f1, x1f2⟩ := trip_cell (keepH T1.out (by simp <;> omega) R1.out); obtain ⟨y10, y11, y1f0, y1f1⟩ := two_cell (keepH T1.out (by simp <;> omega) R2.out); have c2 := keepC TA.out (by simp <;> omega) C1; obtain ⟨x20, x21, x22, x2f0, x2f1, x2f2⟩ := trip_cell (keepH TA.out (by simp <;> omega) R1.out); obtain ⟨y20, y21, y2f0, y2f1⟩ := two_cell (keepH TA.out (by simp <;> omega) R2.out); have R7 := Lib.hid (heap_alloc_new w1 (.cells #[.int .i64 p', .int .i64 q', .int .i64 r'] 53))))
      refine bodyPost_ret (v := .tuple #[tV 0 0 0, .agg #[.int .i64 0, .nilFunc], .bool false]) (by simp [results, Tryd.results33, go_sem, x20, x21, x22, y20, y21]) rfl ⟨rfl, below_set2 (below_set3 (HB.out.trans (TA.out.mono (by simp <;> omega))) (by omega)) (by omega)⟩
    · go_enter Tryd.func33, Tryd.ntmps33
      go_wp2_with (first
        | (go_at_call 40; refine (iProduct _ _ _ _ HT.out).mono ?_; rintro e w2 ⟨rfl, hb2⟩; have T2 := Lib.hid (TA.out.trans (hb2.mono TA.out.size)); have c3 := keepC T2.out (by simp <;> omega) C1; obtain ⟨x30, x31, x32, x3f0, x3f1, x3f2⟩ := trip_cell (keepH T2.out (by simp <;> omega) R1.out); obtain ⟨y30, y31, y3f0, y3f1⟩ := two_cell (keepH T2.out (by simp <;> omega) R2.out); obtain ⟨z30, z31, z32, z3f0, z3f1, z3f2⟩ := trip_cell (keepH hb2 (by simp <;> omega) R7.out))
        | (go_at_call 38; refine (iOrders _ _ _ _ _ HN.out hm HI.out).mono ?_; unfold OrdersPost; rw [HG.out]; rintro e w1 ⟨p', q', r', rfl, hpqr, hb1⟩; obtain ⟨e1, e2, e3⟩ := hpqr rfl; clear hpqr; rw [EP.out] at e1; rw [EQ.out] at e2; rw [ER.out] at e3; subst e1 e2 e3; have T1 := Lib.hid (T0.out.trans (hb1.mono T0.out.size)); have TA := Lib.hid (T1.out.alloc T1.out.size (.cells #[.int .i64 p', .int .i64 q', .int .i64 r'] 53)); have c1 := keepC T1.out (by simp <;> omega) C1; obtain ⟨x10, x11, x12, x1f0, x1f1, x1f2⟩ := trip_cell (keepH T1.out (by simp <;> omega) R1.out); obtain ⟨y10, y11, y1f0, y1f1⟩ := two_cell (keepH T1.out (by simp <;> omega) R2.out); have c2 := keepC TA.out (by simp <;> omega) C1; obtain ⟨x20, x21, x22, x2f0, x2f1, x2f2⟩ := trip_cell (keepH TA.out (by simp <;> omega) R1.out); obtain ⟨y20, y21, y2f0, y2f1⟩ := two_cell (keepH TA.out (by simp <;> omega) R2.out); have R7 := Lib.hid (heap_alloc_new w1 (.cells #[.int .i64 p', .int .i64 q', .int .i64 r'] 53))))
      refine bodyPost_ret (v := .tuple #[tV 0 0 0, .agg #[.int .i64 0, .nilFunc], .bool false]) (by simp [results, Tryd.results33, go_sem, x30, x31, x32, y30, y31]) rfl ⟨rfl, below_set2 (below_set3 (HB.out.trans (T2.out.mono (by simp <;> omega))) (by omega)) (by omega)⟩
theorem ChrAt.grown {W W' : World} {l : List Int} {k : Int} {bo bp be g : Nat} (h : ChrAt W l k bo bp be) (hg : W.grownBy W' (some g)) (ho : bo ≠ g) (hp : bp ≠ g) (he : be ≠ g) : ChrAt W' l k bo bp be :=
  ⟨(hg.block _ (Array.getElem?_eq_some_iff.1 h.o).1 (fun e => by injection e with e; exact ho e)).trans h.o, (hg.block _ (Array.getElem?_eq_some_iff.1 h.p).1 (fun e => by injection e with e; exact hp e)).trans h.p, (hg.block _ (Array.getElem?_eq_some_iff.1 h.e).1 (fun e => by injection e with e; exact he e)).trans h.e⟩
set_option maxHeartbeats 2000000 in
theorem iCIn_yes (w : World) (a : Option Addr) (l : List Int) (n cap : Nat) (k : Int) (hn : n = l.length) (hm : n ≤ 9223372036854775807) (hi : Ints w a l) (hk : isE l k = true) :
    Calls Tryd.prog 33 #[.agg #[.slice a n cap], .int .i64 k] w fun e w' => ∃ bo bp be, e = .returned (.tuple #[tV (l.getD 0 1) (l.getD 1 1) (l.getD 2 1), .agg #[.int .i64 (expN l), chrF bo bp be], .bool true]) ∧ ChrAt w' l k bo bp be ∧ (w.heap.size ≤ bo ∧ w.heap.size ≤ bp ∧ w.heap.size ≤ be) ∧ Below w.heap.size w w' := by
  have HI := Lib.hid (ints_alloc (ints_alloc (ints_alloc hi (.cells #[.slice a n cap] 27)) (.cells #[.int .i64 0, .int .i64 0, .int .i64 0] 53)) (.cells #[.int .i64 0, .nilFunc] 44))
  have HN := Lib.hid hn
  have C1 := keepC (Joins.below_alloc2 _ (.cells #[.int .i64 0, .int .i64 0, .int .i64 0] 53) (.cells #[.int .i64 0, .nilFunc] 44)) (by simp <;> omega) (newC w (.slice a n cap) 27 (n := w.heap.size) rfl)
  have HB := Lib.hid (Joins.below_alloc3 w (.cells #[.slice a n cap] 27) (.cells #[.int .i64 0, .int .i64 0, .int .i64 0] 53) (.cells #[.int .i64 0, .nilFunc] 44))
  have R1 : Hid ((((w.alloc (.cells #[.slice a n cap] 27)).alloc (.cells #[.int .i64 0, .int .i64 0, .int .i64 0] 53)).alloc (.cells #[.int .i64 0, .nilFunc] 44)).heap[w.heap.size + 1]? = some (.cells #[.int .i64 0, .int .i64 0, .int .i64 0] 53 (0, 0))) := Lib.hid (keepH (Joins.below_alloc1 _ _) (by simp <;> omega) (by simpa using heap_alloc_new (w.alloc (.cells #[.slice a n cap] 27)) (.cells #[.int .i64 0, .int .i64 0, .int .i64 0] 53)))
  have R2 : Hid ((((w.alloc (.cells #[.slice a n cap] 27)).alloc (.cells #[.int .i64 0, .int .i64 0, .int .i64 0] 53)).alloc (.cells #[.int .i64 0, .nilFunc] 44)).heap[w.heap.size + 1 + 1]? = some (.cells #[.int .i64 0, .nilFunc] 44 (0, 0))) := Lib.hid (by simpa using heap_alloc_new ((w.alloc (.cells #[.slice a n cap] 27)).alloc (.cells #[.int .i64 0, .int .i64 0, .int .i64 0] 53)) (.cells #[.int .i64 0, .nilFunc] 44))
  have T0 := Lib.hid (Below.refl (((w.alloc (.cells #[.slice a n cap] 27)).alloc (.cells #[.int .i64 0, .int .i64 0, .int .i64 0] 53)).alloc (.cells #[.int .i64 0, .nilFunc] 44)).heap.size (((w.alloc (.cells #[.slice a n cap] 27)).alloc (.cells #[.int .i64 0, .int .i64 0, .int .i64 0] 53)).alloc (.cells #[.int .i64 0, .nilFunc] 44)))
  clear hi hn
  obtain ⟨hg, hx0, hxN, hx23⟩ := isE_true hk
  have HG := Lib.hid hg
  have HT := Lib.hid (tri_grp hg)
  have HCH := Lib.hid (fun (W : World) => iChr hg W k hx0 hx23)
  have HP := prod_pad (grpB_true hg).1
  rw [HP] at hxN
  obtain ⟨E, EE⟩ : ∃ E, Hid (expN l = E) := ⟨_, Lib.hid rfl⟩
  obtain ⟨p, EP⟩ : ∃ p, Hid (l.getD 0 1 = p) := ⟨_, Lib.hid rfl⟩
  obtain ⟨q, EQ⟩ : ∃ q, Hid (l.getD 1 1 = q) := ⟨_, Lib.hid rfl⟩
  obtain ⟨r, ER⟩ : ∃ r, Hid (l.getD 2 1 = r) := ⟨_, Lib.hid rfl⟩
  rw [EP.out, EQ.out, ER.out] at HT hxN HCH
  rw [EP.out, EQ.out, ER.out]
  rw [EE.out] at HCH
  rw [EE.out]
  simp only [chrF] at HCH
  clear hg hk HP
  go_enter Tryd.func33, Tryd.ntmps33
  go_wp2_with (first
    | (go_at_call 40; refine (iProduct _ _ _ _ HT.out).mono ?_; rintro e w2 ⟨rfl, hb2⟩; have T2 := Lib.hid (TA.out.trans (hb2.mono TA.out.size)); have c3 := keepC T2.out (by simp <;> omega) C1; obtain ⟨x30, x31, x32, x3f0, x3f1, x3f2⟩ := trip_cell (keepH T2.out (by simp <;> omega) R1.out); obtain ⟨y30, y31, y3f0, y3f1⟩ := two_cell (keepH T2.out (by simp <;> omega) R2.out); obtain ⟨z30, z31, z32, z3f0, z3f1, z3f2⟩ := trip_cell (keepH hb2 (by simp <;> omega) R7.out))
    | (go_at_call 38; refine (iOrders _ _ _ _ _ HN.out hm HI.out).mono ?_; unfold OrdersPost; rw [HG.out]; rintro e w1 ⟨p', q', r', rfl, hpqr, hb1⟩; obtain ⟨e1, e2, e3⟩ := hpqr rfl; clear hpqr; rw [EP.out] at e1; rw [EQ.out] at e2; rw [ER.out] at e3; subst e1 e2 e3; have T1 := Lib.hid (T0.out.trans (hb1.mono T0.out.size)); have TA := Lib.hid (T1.out.alloc T1.out.size (.cells #[.int .i64 p', .int .i64 q', .int .i64 r'] 53)); have c1 := keepC T1.out (by simp <;> omega) C1; obtain ⟨x10, x11, x12, x1f0, x1f1, x1f2⟩ := trip_cell (keepH T1.out (by simp <;> omega) R1.out); obtain ⟨y10, y11, y1f0, y1f1⟩ := two_cell (keepH T1.out (by simp <;> omega) R2.out); have c2 := keepC TA.out (by simp <;> omega) C1; obtain ⟨x20, x21, x22, x2f0, x2f1, x2f2⟩ := trip_cell (keepH TA.out (by simp <;> omega) R1.out); obtain ⟨y20, y21, y2f0, y2f1⟩ := two_cell (keepH TA.out (by simp <;> omega) R2.out); have R7 := Lib.hid (heap_alloc_new w1 (.cells #[.int .i64 p', .int .i64 q', .int .i64 r'] 53))))
  go_region_with (first | (go_at_call 41; refine (HCH.out _).mono ?_; rintro e w3 ⟨a1, a2, a3, rfl, hc3, hle3, hb3⟩; have HC3 := Lib.hid hc3; have HL3 := Lib.hid hle3; clear hc3 hle3; have T3 := Lib.hid (T2.out.drew.trans (hb3.mono T2.out.size)); have c4 := keepC T3.out (by simp <;> omega) C1; obtain ⟨x40, x41, x42, x4f0, x4f1, x4f2⟩ := trip_cell (keepH T3.out (by simp <;> omega) R1.out); obtain ⟨y40, y41, y4f0, y4f1⟩ := two_cell (keepH T3.out (by simp <;> omega) R2.out); obtain ⟨z40, z41, z42, z4f0, z4f1, z4f2⟩ := trip_cell (keepH (hb2.drew.trans (hb3.mono hb2.size)) (by simp <;> omega) R7.out)))
  all_goals
    have hsz : w.heap.size + 3 ≤ w2.heap.size := by have := T2.out.size; simpa using this
    have hl := HL3.out
    simp only [World.size_drew] at hl
    go_wp2
    have hX := grownG_set (grownG_set (grownG_set (World.grownBy.refl w3 (some (w.heap.size + 1))) 0 (.int .i64 p')) 1 (.int .i64 q')) 2 (.int .i64 r')
    have hc := HC3.out.grown hX (by omega) (by omega) (by omega)
    have hY := grownG_set (grownG_set (World.grownBy.refl (((w3.setCell ⟨w.heap.size + 1, 0, none⟩ (.int .i64 p')).setCell ⟨w.heap.size + 1, 1, none⟩ (.int .i64 q')).setCell ⟨w.heap.size + 1, 2, none⟩ (.int .i64 r')) (some (w.heap.size + 1 + 1))) 0 (.int .i64 E)) 1 (chrF a1 a2 a3)
    have hd := hc.grown hY (by omega) (by omega) (by omega)
    refine bodyPost_ret (v := .tuple #[tV p' q' r', .agg #[.int .i64 E, chrF a1 a2 a3], .bool true]) (by simp [results, Tryd.results33, go_sem, x40, x41, x42, y40, y41, chrF]) rfl ⟨_, _, _, rfl, hd, ⟨by omega, by omega, by omega⟩, below_set2 (below_set3 (HB.out.trans (T3.out.mono (by simp <;> omega))) (by omega)) (by omega)⟩
end Go.Proofs.YticgoodmfjjggaaDoor
