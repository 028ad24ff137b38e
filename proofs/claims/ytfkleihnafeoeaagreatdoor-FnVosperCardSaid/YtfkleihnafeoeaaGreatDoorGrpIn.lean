/- The contracts of the program's own functions on groups: IsGroup, OrderOf, the places of an element. -/
import Derived.Test.YtfkleihnafeoeaaGreatDoorGrpTri
namespace Go.Proofs.YtfkleihnafeoeaaGreatDoor
open Go.RowKit
set_option maxRecDepth 1000000
theorem iOrderOf (w : World) (a : Option Addr) (l : List Int) (n cap : Nat) (hn : n = l.length) (hm : n ≤ 9223372036854775807) (hi : Ints w a l) :
    Calls Tryz.prog 57 #[.agg #[.slice a n cap]] w fun e w' => e = .returned (.int .i64 (ordN l)) ∧ Below w.heap.size w w' := by
  have HI := Lib.hid (ints_alloc hi (.cells #[.slice a n cap] 26))
  have HN := Lib.hid hn
  have C1 := newC w (.slice a n cap) 26 (n := w.heap.size) rfl
  have HB := Lib.hid (Joins.below_alloc1 w (.cells #[.slice a n cap] 26))
  have T0 := Lib.hid (Below.refl (w.alloc (.cells #[.slice a n cap] 26)).heap.size (w.alloc (.cells #[.slice a n cap] 26)))
  clear hi hn
  cases hg : grpB l with
  | false =>
    have HG := Lib.hid hg
    rw [ordN_no hg]
    clear hg
    go_enter Tryz.func57, Tryz.ntmps57
    go_wp2_with (go_at_call 68; refine (iOrders _ _ _ _ _ HN.out hm HI.out).mono ?_; unfold OrdersPost; rw [HG.out]; rintro e w1 ⟨x, y, z, rfl, _, hb1⟩)
    go_ret
    exact ⟨rfl, HB.out.trans ((hb1.mono (by simp)).alloc (Nat.le_trans (by simp) hb1.size) _)⟩
  | true =>
    have HG := Lib.hid hg
    have HT := Lib.hid (tri_grp hg)
    rw [ordN_grp hg, prod_pad (grpB_true hg).1]
    clear hg
    go_enter Tryz.func57, Tryz.ntmps57
    go_wp2_with (first
      | (go_at_call 33; refine (iProduct _ _ _ _ HT.out).mono ?_; rintro e w2 ⟨rfl, hb2⟩)
      | (go_at_call 68; refine (iOrders _ _ _ _ _ HN.out hm HI.out).mono ?_; unfold OrdersPost; rw [HG.out]; rintro e w1 ⟨x, y, z, rfl, hxyz, hb1⟩; obtain ⟨rfl, rfl, rfl⟩ := hxyz rfl; clear hxyz))
    go_ret
    exact ⟨rfl, HB.out.trans (((hb1.mono (by simp)).alloc (Nat.le_trans (by simp) hb1.size) _).trans (hb2.mono (by have := hb1.size; simp at *; omega)))⟩
theorem keepH {B k : Nat} {w w' : World} {o : Obj} (hb : Below B w w') (hk : k < B) (h : w.heap[k]? = some o) : w'.heap[k]? = some o := (hb.block k hk).trans h
theorem iIn_no (w : World) (a : Option Addr) (l : List Int) (n cap : Nat) (x : Int) (hn : n = l.length) (hm : n ≤ 9223372036854775807) (hi : Ints w a l) (hx : isE l x = false) :
    Calls Tryz.prog 51 #[.agg #[.slice a n cap], .int .i64 x] w fun e w' => e = .returned (.tuple #[tV 0 0 0, tV 0 0 0, .bool false]) ∧ Below w.heap.size w w' := by
  have HI := Lib.hid (ints_alloc (ints_alloc (ints_alloc hi (.cells #[.slice a n cap] 26)) (.cells #[.int .i64 0, .int .i64 0, .int .i64 0] 44)) (.cells #[.int .i64 0, .int .i64 0, .int .i64 0] 44))
  have HN := Lib.hid hn
  have C1 := keepC (Joins.below_alloc2 _ (.cells #[.int .i64 0, .int .i64 0, .int .i64 0] 44) (.cells #[.int .i64 0, .int .i64 0, .int .i64 0] 44)) (by simp <;> omega) (newC w (.slice a n cap) 26 (n := w.heap.size) rfl)
  have HB := Lib.hid (Joins.below_alloc3 w (.cells #[.slice a n cap] 26) (.cells #[.int .i64 0, .int .i64 0, .int .i64 0] 44) (.cells #[.int .i64 0, .int .i64 0, .int .i64 0] 44))
  have R1 : Hid ((((w.alloc (.cells #[.slice a n cap] 26)).alloc (.cells #[.int .i64 0, .int .i64 0, .int .i64 0] 44)).alloc (.cells #[.int .i64 0, .int .i64 0, .int .i64 0] 44)).heap[w.heap.size + 1]? = some (.cells #[.int .i64 0, .int .i64 0, .int .i64 0] 44 (0, 0))) := Lib.hid (keepH (Joins.below_alloc1 _ _) (by simp <;> omega) (by simpa using heap_alloc_new (w.alloc (.cells #[.slice a n cap] 26)) (.cells #[.int .i64 0, .int .i64 0, .int .i64 0] 44)))
  have R2 : Hid ((((w.alloc (.cells #[.slice a n cap] 26)).alloc (.cells #[.int .i64 0, .int .i64 0, .int .i64 0] 44)).alloc (.cells #[.int .i64 0, .int .i64 0, .int .i64 0] 44)).heap[w.heap.size + 1 + 1]? = some (.cells #[.int .i64 0, .int .i64 0, .int .i64 0] 44 (0, 0))) := Lib.hid (by simpa using heap_alloc_new ((w.alloc (.cells #[.slice a n cap] 26)).alloc (.cells #[.int .i64 0, .int .i64 0, .int .i64 0] 44)) (.cells #[.int .i64 0, .int .i64 0, .int .i64 0] 44))
  have T0 := Lib.hid (Below.refl (((w.alloc (.cells #[.slice a n cap] 26)).alloc (.cells #[.int .i64 0, .int .i64 0, .int .i64 0] 44)).alloc (.cells #[.int .i64 0, .int .i64 0, .int .i64 0] 44)).heap.size (((w.alloc (.cells #[.slice a n cap] 26)).alloc (.cells #[.int .i64 0, .int .i64 0, .int .i64 0] 44)).alloc (.cells #[.int .i64 0, .int .i64 0, .int .i64 0] 44)))
  clear hi hn
  cases hg : grpB l with
  | false =>
    have HG := Lib.hid hg
    clear hg hx
    go_enter Tryz.func51, Tryz.ntmps51
    go_wp2_with (first | (go_at_call 68; refine (iOrders _ _ _ _ _ HN.out hm HI.out).mono ?_; unfold OrdersPost; rw [HG.out]; rintro e w1 ⟨p, q, r, rfl, _, hb1⟩; have T1 := Lib.hid (T0.out.trans (hb1.mono T0.out.size)); have TA := Lib.hid (T1.out.alloc T1.out.size (.cells #[.int .i64 p, .int .i64 q, .int .i64 r] 44)); have c1 := keepC T1.out (by simp <;> omega) C1; obtain ⟨x10, x11, x12, x1f0, x1f1, x1f2⟩ := trip_cell (keepH T1.out (by simp <;> omega) R1.out); obtain ⟨y10, y11, y12, y1f0, y1f1, y1f2⟩ := trip_cell (keepH T1.out (by simp <;> omega) R2.out); have c2 := keepC TA.out (by simp <;> omega) C1; obtain ⟨x20, x21, x22, x2f0, x2f1, x2f2⟩ := trip_cell (keepH TA.out (by simp <;> omega) R1.out); obtain ⟨y20, y21, y22, y2f0, y2f1, y2f2⟩ := trip_cell (keepH TA.out (by simp <;> omega) R2.out)))
    refine bodyPost_ret (v := .tuple #[tV 0 0 0, tV 0 0 0, .bool false]) (by simp [results, Tryz.results51, go_sem, x20, x21, x22, y20, y21, y22]) rfl ⟨rfl, below_set3 (below_set3 (HB.out.trans (TA.out.mono (by simp <;> omega))) (by omega)) (by omega)⟩
  | true =>
    have HG := Lib.hid hg
    have HT := Lib.hid (tri_grp hg)
    have HP := prod_pad (grpB_true hg).1
    have HO := ordN_grp hg
    rw [HP] at HO
    obtain ⟨p, EP⟩ : ∃ p, Hid (l.getD 0 1 = p) := ⟨_, Lib.hid rfl⟩
    obtain ⟨q, EQ⟩ : ∃ q, Hid (l.getD 1 1 = q) := ⟨_, Lib.hid rfl⟩
    obtain ⟨r, ER⟩ : ∃ r, Hid (l.getD 2 1 = r) := ⟨_, Lib.hid rfl⟩
    rw [EP.out, EQ.out, ER.out] at HT HO
    have hor : x < 0 ∨ (0 ≤ x ∧ p * q * r ≤ x) := by
      simp only [isE, HO, Bool.and_eq_false_iff, decide_eq_false_iff_not] at hx
      omega
    clear hg hx HP HO
    rcases hor with h | ⟨h, h2⟩
    · go_enter Tryz.func51, Tryz.ntmps51
      go_wp2_with (first
        | (go_at_call 68; refine (iOrders _ _ _ _ _ HN.out hm HI.out).mono ?_; unfold OrdersPost; rw [HG.out]; rintro e w1 ⟨p', q', r', rfl, hpqr, hb1⟩; obtain ⟨e1, e2, e3⟩ := hpqr rfl; clear hpqr; rw [EP.out] at e1; rw [EQ.out] at e2; rw [ER.out] at e3; subst e1 e2 e3; have T1 := Lib.hid (T0.out.trans (hb1.mono T0.out.size)); have TA := Lib.hid (T1.out.alloc T1.out.size (.cells #[.int .i64 p', .int .i64 q', .int .i64 r'] 44)); have c1 := keepC T1.out (by simp <;> omega) C1; obtain ⟨x10, x11, x12, x1f0, x1f1, x1f2⟩ := trip_cell (keepH T1.out (by simp <;> omega) R1.out); obtain ⟨y10, y11, y12, y1f0, y1f1, y1f2⟩ := trip_cell (keepH T1.out (by simp <;> omega) R2.out); have c2 := keepC TA.out (by simp <;> omega) C1; obtain ⟨x20, x21, x22, x2f0, x2f1, x2f2⟩ := trip_cell (keepH TA.out (by simp <;> omega) R1.out); obtain ⟨y20, y21, y22, y2f0, y2f1, y2f2⟩ := trip_cell (keepH TA.out (by simp <;> omega) R2.out); have R7 := Lib.hid (heap_alloc_new w1 (.cells #[.int .i64 p', .int .i64 q', .int .i64 r'] 44))))
      refine bodyPost_ret (v := .tuple #[tV 0 0 0, tV 0 0 0, .bool false]) (by simp [results, Tryz.results51, go_sem, x20, x21, x22, y20, y21, y22]) rfl ⟨rfl, below_set3 (below_set3 (HB.out.trans (TA.out.mono (by simp <;> omega))) (by omega)) (by omega)⟩
    · go_enter Tryz.func51, Tryz.ntmps51
      go_wp2_with (first
        | (go_at_call 33; refine (iProduct _ _ _ _ HT.out).mono ?_; rintro e w2 ⟨rfl, hb2⟩; have T2 := Lib.hid (TA.out.trans (hb2.mono TA.out.size)); have c3 := keepC T2.out (by simp <;> omega) C1; obtain ⟨x30, x31, x32, x3f0, x3f1, x3f2⟩ := trip_cell (keepH T2.out (by simp <;> omega) R1.out); obtain ⟨y30, y31, y32, y3f0, y3f1, y3f2⟩ := trip_cell (keepH T2.out (by simp <;> omega) R2.out); obtain ⟨z30, z31, z32, z3f0, z3f1, z3f2⟩ := trip_cell (keepH hb2 (by simp <;> omega) R7.out))
        | (go_at_call 68; refine (iOrders _ _ _ _ _ HN.out hm HI.out).mono ?_; unfold OrdersPost; rw [HG.out]; rintro e w1 ⟨p', q', r', rfl, hpqr, hb1⟩; obtain ⟨e1, e2, e3⟩ := hpqr rfl; clear hpqr; rw [EP.out] at e1; rw [EQ.out] at e2; rw [ER.out] at e3; subst e1 e2 e3; have T1 := Lib.hid (T0.out.trans (hb1.mono T0.out.size)); have TA := Lib.hid (T1.out.alloc T1.out.size (.cells #[.int .i64 p', .int .i64 q', .int .i64 r'] 44)); have c1 := keepC T1.out (by simp <;> omega) C1; obtain ⟨x10, x11, x12, x1f0, x1f1, x1f2⟩ := trip_cell (keepH T1.out (by simp <;> omega) R1.out); obtain ⟨y10, y11, y12, y1f0, y1f1, y1f2⟩ := trip_cell (keepH T1.out (by simp <;> omega) R2.out); have c2 := keepC TA.out (by simp <;> omega) C1; obtain ⟨x20, x21, x22, x2f0, x2f1, x2f2⟩ := trip_cell (keepH TA.out (by simp <;> omega) R1.out); obtain ⟨y20, y21, y22, y2f0, y2f1, y2f2⟩ := trip_cell (keepH TA.out (by simp <;> omega) R2.out); have R7 := Lib.hid (heap_alloc_new w1 (.cells #[.int .i64 p', .int .i64 q', .int .i64 r'] 44))))
      refine bodyPost_ret (v := .tuple #[tV 0 0 0, tV 0 0 0, .bool false]) (by simp [results, Tryz.results51, go_sem, x30, x31, x32, y30, y31, y32]) rfl ⟨rfl, below_set3 (below_set3 (HB.out.trans (T2.out.mono (by simp <;> omega))) (by omega)) (by omega)⟩
set_option maxHeartbeats 1000000 in
theorem iIn_yes (w : World) (a : Option Addr) (l : List Int) (n cap : Nat) (x : Int) (hn : n = l.length) (hm : n ≤ 9223372036854775807) (hi : Ints w a l) (hx : isE l x = true) :
    Calls Tryz.prog 51 #[.agg #[.slice a n cap], .int .i64 x] w fun e w' => e = .returned (.tuple #[tV (l.getD 0 1) (l.getD 1 1) (l.getD 2 1), tV (x % l.getD 0 1) (x / l.getD 0 1 % l.getD 1 1) (x / l.getD 0 1 / l.getD 1 1 % l.getD 2 1), .bool true]) ∧ Below w.heap.size w w' := by
  have HI := Lib.hid (ints_alloc (ints_alloc (ints_alloc hi (.cells #[.slice a n cap] 26)) (.cells #[.int .i64 0, .int .i64 0, .int .i64 0] 44)) (.cells #[.int .i64 0, .int .i64 0, .int .i64 0] 44))
  have HN := Lib.hid hn
  have C1 := keepC (Joins.below_alloc2 _ (.cells #[.int .i64 0, .int .i64 0, .int .i64 0] 44) (.cells #[.int .i64 0, .int .i64 0, .int .i64 0] 44)) (by simp <;> omega) (newC w (.slice a n cap) 26 (n := w.heap.size) rfl)
  have HB := Lib.hid (Joins.below_alloc3 w (.cells #[.slice a n cap] 26) (.cells #[.int .i64 0, .int .i64 0, .int .i64 0] 44) (.cells #[.int .i64 0, .int .i64 0, .int .i64 0] 44))
  have R1 : Hid ((((w.alloc (.cells #[.slice a n cap] 26)).alloc (.cells #[.int .i64 0, .int .i64 0, .int .i64 0] 44)).alloc (.cells #[.int .i64 0, .int .i64 0, .int .i64 0] 44)).heap[w.heap.size + 1]? = some (.cells #[.int .i64 0, .int .i64 0, .int .i64 0] 44 (0, 0))) := Lib.hid (keepH (Joins.below_alloc1 _ _) (by simp <;> omega) (by simpa using heap_alloc_new (w.alloc (.cells #[.slice a n cap] 26)) (.cells #[.int .i64 0, .int .i64 0, .int .i64 0] 44)))
  have R2 : Hid ((((w.alloc (.cells #[.slice a n cap] 26)).alloc (.cells #[.int .i64 0, .int .i64 0, .int .i64 0] 44)).alloc (.cells #[.int .i64 0, .int .i64 0, .int .i64 0] 44)).heap[w.heap.size + 1 + 1]? = some (.cells #[.int .i64 0, .int .i64 0, .int .i64 0] 44 (0, 0))) := Lib.hid (by simpa using heap_alloc_new ((w.alloc (.cells #[.slice a n cap] 26)).alloc (.cells #[.int .i64 0, .int .i64 0, .int .i64 0] 44)) (.cells #[.int .i64 0, .int .i64 0, .int .i64 0] 44))
  have T0 := Lib.hid (Below.refl (((w.alloc (.cells #[.slice a n cap] 26)).alloc (.cells #[.int .i64 0, .int .i64 0, .int .i64 0] 44)).alloc (.cells #[.int .i64 0, .int .i64 0, .int .i64 0] 44)).heap.size (((w.alloc (.cells #[.slice a n cap] 26)).alloc (.cells #[.int .i64 0, .int .i64 0, .int .i64 0] 44)).alloc (.cells #[.int .i64 0, .int .i64 0, .int .i64 0] 44)))
  clear hi hn
  obtain ⟨hg, hx0, hxN, hx23⟩ := isE_true hx
  have HG := Lib.hid hg
  have HT := Lib.hid (tri_grp hg)
  have HP := prod_pad (grpB_true hg).1
  rw [HP] at hxN
  obtain ⟨p, EP⟩ : ∃ p, Hid (l.getD 0 1 = p) := ⟨_, Lib.hid rfl⟩
  obtain ⟨q, EQ⟩ : ∃ q, Hid (l.getD 1 1 = q) := ⟨_, Lib.hid rfl⟩
  obtain ⟨r, ER⟩ : ∃ r, Hid (l.getD 2 1 = r) := ⟨_, Lib.hid rfl⟩
  rw [EP.out, EQ.out, ER.out] at HT hxN
  rw [EP.out, EQ.out, ER.out]
  clear hg hx HP
  go_enter Tryz.func51, Tryz.ntmps51
  go_wp2_with (first
    | (go_at_call 33; refine (iProduct _ _ _ _ HT.out).mono ?_; rintro e w2 ⟨rfl, hb2⟩; have T2 := Lib.hid (TA.out.trans (hb2.mono TA.out.size)); have c3 := keepC T2.out (by simp <;> omega) C1; obtain ⟨x30, x31, x32, x3f0, x3f1, x3f2⟩ := trip_cell (keepH T2.out (by simp <;> omega) R1.out); obtain ⟨y30, y31, y32, y3f0, y3f1, y3f2⟩ := trip_cell (keepH T2.out (by simp <;> omega) R2.out); obtain ⟨z30, z31, z32, z3f0, z3f1, z3f2⟩ := trip_cell (keepH hb2 (by simp <;> omega) R7.out))
    | (go_at_call 68; refine (iOrders _ _ _ _ _ HN.out hm HI.out).mono ?_; unfold OrdersPost; rw [HG.out]; rintro e w1 ⟨p', q', r', rfl, hpqr, hb1⟩; obtain ⟨e1, e2, e3⟩ := hpqr rfl; clear hpqr; rw [EP.out] at e1; rw [EQ.out] at e2; rw [ER.out] at e3; subst e1 e2 e3; have T1 := Lib.hid (T0.out.trans (hb1.mono T0.out.size)); have TA := Lib.hid (T1.out.alloc T1.out.size (.cells #[.int .i64 p', .int .i64 q', .int .i64 r'] 44)); have c1 := keepC T1.out (by simp <;> omega) C1; obtain ⟨x10, x11, x12, x1f0, x1f1, x1f2⟩ := trip_cell (keepH T1.out (by simp <;> omega) R1.out); obtain ⟨y10, y11, y12, y1f0, y1f1, y1f2⟩ := trip_cell (keepH T1.out (by simp <;> omega) R2.out); have c2 := keepC TA.out (by simp <;> omega) C1; obtain ⟨x20, x21, x22, x2f0, x2f1, x2f2⟩ := trip_cell (keepH TA.out (by simp <;> omega) R1.out); obtain ⟨y20, y21, y22, y2f0, y2f1, y2f2⟩ := trip_cell (keepH TA.out (by simp <;> omega) R2.out); have R7 := Lib.hid (heap_alloc_new w1 (.cells #[.int .i64 p', .int .i64 q', .int .i64 r'] 44))))
  go_region_with (first | (go_at_call 70; refine (iPlaces _ _ _ _ _ HT.out hx0 hx23).mono ?_; rintro e w3 ⟨rfl, hb3⟩; have T3 := Lib.hid (T2.out.drew.trans (hb3.mono T2.out.size)); have c4 := keepC T3.out (by simp <;> omega) C1; obtain ⟨x40, x41, x42, x4f0, x4f1, x4f2⟩ := trip_cell (keepH T3.out (by simp <;> omega) R1.out); obtain ⟨y40, y41, y42, y4f0, y4f1, y4f2⟩ := trip_cell (keepH T3.out (by simp <;> omega) R2.out); obtain ⟨z40, z41, z42, z4f0, z4f1, z4f2⟩ := trip_cell (keepH (hb2.drew.trans (hb3.mono hb2.size)) (by simp <;> omega) R7.out)))
  all_goals
    go_wp2
    refine bodyPost_ret (v := .tuple #[tV p' q' r', tV (x % p') (x / p' % q') (x / p' / q' % r'), .bool true]) (by simp [results, Tryz.results51, go_sem, x40, x41, x42, y40, y41, y42]) rfl ⟨rfl, below_set3 (below_set3 (HB.out.trans (T3.out.mono (by simp <;> omega))) (by omega)) (by omega)⟩
end Go.Proofs.YtfkleihnafeoeaaGreatDoor
