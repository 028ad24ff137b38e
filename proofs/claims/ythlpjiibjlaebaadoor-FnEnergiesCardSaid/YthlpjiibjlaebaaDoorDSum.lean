/- The drawing of a group with two sets, with a set and a number of terms, with two sets and an element. -/
import Derived.Test.YthlpjiibjlaebaaDoorMGAN
namespace Go.Proofs.YthlpjiibjlaebaaDoor
open Go.RowKit
set_option maxRecDepth 1000000
set_option maxHeartbeats 4000000 in
theorem l3Two_any (w : World) (a : Option Addr) (len cap : Nat) (hlen : len ≤ 1048576) (hd : CodeIn w a len) :
    Calls Tryd.prog 59 #[.slice a len cap] w fun e w' => ∃ (u : Value) (l : List Int) (x y : Int), e = .returned (.tuple #[.agg #[u], .int .i64 x, .int .i64 y]) ∧ -9223372036854775808 ≤ x ∧ x ≤ 9223372036854775807 ∧ -9223372036854775808 ≤ y ∧ y ≤ 9223372036854775807 ∧ DGrp w u l w' := by
  have HN := Lib.hid (new_at w a len cap hlen hd)
  clear hd
  go_enter Tryd.func59, Tryd.ntmps59
  go_wp2_with (first
    | (go_at_call 76; refine (l3Set_any _ _ a len cap l au l.length cu rfl (by have := M3.out.few; omega) M3.out.ints hlen M3.out.cur M3.out.dat).mono ?_; rintro e w4 ⟨x, rfl, hx0, hx1, hcur, hg⟩; have M4 := Lib.hid (M3.out.grown hcur hg); have g4 := hg.cell g3 (by have := G2.out; simp; omega); clear hcur hg)
    | (go_at_call 75; refine (l2Any_any _ _ a len cap hlen HC1.out HD1.out).mono ?_; rintro e w2 ⟨u, l, rfl, ho, hl, hcur, hg⟩; obtain ⟨au, cu, rfl, m2⟩ := mid_of HD1.out HB1.out HC1.out ho hl hcur hg; have M2 := Lib.hid m2; clear ho hl hcur hg m2; have M3 := Lib.hid (M2.out.alloc #[.slice au l.length cu] 26); have g3 := newC w2 (.slice au l.length cu) 26 (n := w2.heap.size) rfl; have G2 := Lib.hid M2.out.lt)
    | (go_at_call 74; refine HN.out.mono ?_; rintro e w1 ⟨rfl, hcur, hda, hbel⟩; have HC1 := Lib.hid hcur; have HD1 := Lib.hid hda; have HB1 := Lib.hid hbel; clear hcur hda hbel))
  have F3 := Lib.hid (l3Set_any _ _ a len cap l au l.length cu rfl (by have := M4.out.few; omega) M4.out.drew.ints hlen M4.out.drew.cur M4.out.drew.dat)
  go_region_with (go_at_call 76; refine F3.out.mono ?_; rintro e w5 ⟨y, rfl, hy0, hy1, hcur, hg⟩; have M5 := Lib.hid (M4.out.drew.grown hcur hg); have g5 := hg.cell g4 (by have := G2.out; simp; omega); have c5 := M5.out.cells.1; have f5 := M5.out.cells.2; clear hcur hg)
  all_goals
    have c6 := World.cell?_setCell_same w5 ⟨w.heap.size, 0, none⟩ (.slice au l.length cu) c5
    go_wp2
    refine bodyPost_ret (v := .tuple #[.agg #[.slice au l.length cu], .int .i64 x, .int .i64 y]) (by simp [results, Tryd.results59, go_sem, c6]) rfl ?_
    exact ⟨_, l, x, y, rfl, hx0, hx1, hy0, hy1, M5.out.finish.1, M5.out.few, M5.out.finish.2⟩
theorem two3_at (w : World) (a : Option Addr) (len cap : Nat) (hlen : len ≤ 1048576) (hd : CodeIn w a len) :
    Calls Tryd.prog 59 #[.slice a len cap] (w.alloc nilG) fun e w1 => ∃ (u : Value) (l : List Int) (x y : Int), e = .returned (.tuple #[.agg #[u], .int .i64 x, .int .i64 y]) ∧ -9223372036854775808 ≤ x ∧ x ≤ 9223372036854775807 ∧ -9223372036854775808 ≤ y ∧ y ≤ 9223372036854775807 ∧ w1.ownsRow (w.heap.size + 1) 3 1 u l.length (l.map (Value.int .i64)) ∧ l.length ≤ 4 ∧ Below (w.heap.size + 1) (w.alloc nilG) w1 := by
  have h := l3Two_any (w.alloc nilG) a len cap hlen (hd.below (Joins.below_alloc1 w nilG))
  have e : (w.alloc nilG).heap.size = w.heap.size + 1 := by simp
  unfold DGrp at h
  rw [e] at h
  exact h
set_option maxHeartbeats 4000000 in
theorem dRst_any (w : World) (a : Option Addr) (len cap : Nat) (hlen : len ≤ 1048576) (hd : CodeIn w a len) :
    Calls Tryd.prog 12 #[.slice a len cap] w fun e w' => ∃ (u : Value) (l : List Int) (x y : Int), e = .returned (.tuple #[.agg #[u], .int .i64 x, .int .i64 y]) ∧ -9223372036854775808 ≤ x ∧ x ≤ 9223372036854775807 ∧ -9223372036854775808 ≤ y ∧ y ≤ 9223372036854775807 ∧ DGrp w u l w' := by
  have HN := Lib.hid (two3_at w a len cap hlen hd)
  have R0 := Lib.hid (heap_alloc_new w nilG)
  clear hd
  go_enter Tryd.func12, Tryd.ntmps12
  go_wp2_with (go_at_call 59; refine HN.out.mono ?_; rintro e w1 ⟨u, l, x, y, rfl, hx0, hx1, hy0, hy1, ho, hl, hb⟩; go_loud (obtain ⟨au, cu, rfl⟩ := own_slice' rfl ho; have HO := Lib.hid ho; have HB := Lib.hid hb; have HL := Lib.hid hl; have g1 := newC w1 (.slice au l.length cu) 26 (n := w1.heap.size) rfl; have hs := (show w.heap.size + 1 ≤ w1.heap.size from by have := hb.size; simpa using this); obtain ⟨c1, f1⟩ := one_cell ((hb.block _ (by omega)).trans R0.out); have c2 : (w1.alloc (.cells #[.slice au l.length cu] 26)).cell? ⟨w.heap.size, 0, none⟩ = some (.slice none 0 0) := (World.cell?_alloc_past _ _ _ (by omega)).trans c1; have f2 := (frozen?_alloc_cells w1 #[.slice au l.length cu] 26 ⟨w.heap.size, 0, none⟩).trans f1; clear ho hl hb))
  have c3 := World.cell?_setCell_same (w1.alloc (.cells #[.slice au l.length cu] 26)) ⟨w.heap.size, 0, none⟩ (.slice au l.length cu) c2
  have HE := Lib.hid (hand_on (w := w) (w1 := w1.alloc (.cells #[.slice au l.length cu] 26)) (((Joins.below_alloc1 w nilG).trans (HB.out.mono (by omega))).trans ((Joins.below_alloc1 w1 _).mono (by omega))) (HO.out.alloc _))
  go_wp2
  refine bodyPost_ret (v := .tuple #[.agg #[.slice au l.length cu], .int .i64 x, .int .i64 y]) (by simp [results, Tryd.results12, go_sem, c3]) rfl ?_
  exact ⟨_, l, x, y, rfl, hx0, hx1, hy0, hy1, HE.out.1, HL.out, HE.out.2⟩
set_option maxHeartbeats 4000000 in
theorem dSub_any (w : World) (a : Option Addr) (len cap : Nat) (hlen : len ≤ 1048576) (hd : CodeIn w a len) :
    Calls Tryd.prog 24 #[.slice a len cap] w (DrawnGI w) := by
  have HN := Lib.hid (one_at w a len cap hlen hd)
  have R0 := Lib.hid (heap_alloc_new w nilG)
  clear hd
  go_enter Tryd.func24, Tryd.ntmps24
  go_wp2_with (go_at_call 71; refine HN.out.mono ?_; rintro e w1 ⟨u, l, x, rfl, hx0, hx1, ho, hl, hb⟩; go_loud (obtain ⟨au, cu, rfl⟩ := own_slice' rfl ho; have HO := Lib.hid ho; have HB := Lib.hid hb; have HL := Lib.hid hl; have g1 := newC w1 (.slice au l.length cu) 26 (n := w1.heap.size) rfl; have hs := (show w.heap.size + 1 ≤ w1.heap.size from by have := hb.size; simpa using this); obtain ⟨c1, f1⟩ := one_cell ((hb.block _ (by omega)).trans R0.out); have c2 : (w1.alloc (.cells #[.slice au l.length cu] 26)).cell? ⟨w.heap.size, 0, none⟩ = some (.slice none 0 0) := (World.cell?_alloc_past _ _ _ (by omega)).trans c1; have f2 := (frozen?_alloc_cells w1 #[.slice au l.length cu] 26 ⟨w.heap.size, 0, none⟩).trans f1; clear ho hl hb))
  have c3 := World.cell?_setCell_same (w1.alloc (.cells #[.slice au l.length cu] 26)) ⟨w.heap.size, 0, none⟩ (.slice au l.length cu) c2
  have HE := Lib.hid (hand_on (w := w) (w1 := w1.alloc (.cells #[.slice au l.length cu] 26)) (((Joins.below_alloc1 w nilG).trans (HB.out.mono (by omega))).trans ((Joins.below_alloc1 w1 _).mono (by omega))) (HO.out.alloc _))
  go_wp2
  refine bodyPost_ret (v := .tuple #[.agg #[.slice au l.length cu], .int .i64 x]) (by simp [results, Tryd.results24, go_sem, c3]) rfl ?_
  exact ⟨_, l, x, rfl, hx0, hx1, HE.out.1, HL.out, HE.out.2⟩
set_option maxHeartbeats 4000000 in
theorem dMult_any (w : World) (a : Option Addr) (len cap : Nat) (hlen : len ≤ 1048576) (hd : CodeIn w a len) :
    Calls Tryd.prog 20 #[.slice a len cap] w fun e w' => ∃ (u : Value) (l : List Int) (x y : Int), e = .returned (.tuple #[.agg #[u], .int .i64 x, .int .i64 y]) ∧ -9223372036854775808 ≤ x ∧ x ≤ 9223372036854775807 ∧ (y ≤ 3 ∨ y = 5 ∨ y = 31) ∧ -1 ≤ y ∧ DGrp w u l w' := by
  have HN := Lib.hid (one_at w a len cap hlen hd)
  have R0 := Lib.hid (heap_alloc_new w nilG)
  clear hd
  have hq7 : (len : Int) % 7 = 0 ∨ (len : Int) % 7 = 1 ∨ (len : Int) % 7 = 2 ∨ (len : Int) % 7 = 3 ∨ (len : Int) % 7 = 4 ∨ (len : Int) % 7 = 5 ∨ (len : Int) % 7 = 6 := by omega
  go_enter Tryd.func20, Tryd.ntmps20
  go_wp2_with (go_at_call 71; refine HN.out.mono ?_; rintro e w1 ⟨u, l, x, rfl, hx0, hx1, ho, hl, hb⟩; obtain ⟨au, cu, rfl⟩ := own_slice' rfl ho; have HO := Lib.hid ho; have HB := Lib.hid hb; have HL := Lib.hid hl; have g1 := newC w1 (.slice au l.length cu) 26 (n := w1.heap.size) rfl; have hs := (show w.heap.size + 1 ≤ w1.heap.size from by have := hb.size; simpa using this); obtain ⟨c1, f1⟩ := one_cell ((hb.block _ (by omega)).trans R0.out); have c2 : (w1.alloc (.cells #[.slice au l.length cu] 26)).cell? ⟨w.heap.size, 0, none⟩ = some (.slice none 0 0) := (World.cell?_alloc_past _ _ _ (by omega)).trans c1; have f2 := (frozen?_alloc_cells w1 #[.slice au l.length cu] 26 ⟨w.heap.size, 0, none⟩).trans f1; clear ho hl hb)
  obtain ⟨W, hW⟩ : ∃ W, W = w1.alloc (.cells #[.slice au l.length cu] 26) := ⟨_, rfl⟩
  have HWO : Hid (W.ownsRow (w.heap.size + 1) 3 1 (.slice au l.length cu) l.length (l.map (Value.int .i64)) ∧ Below w.heap.size w W) := Lib.hid (by rw [hW]; exact ⟨HO.out.alloc _, ((Joins.below_alloc1 w nilG).trans (HB.out.mono (by omega))).trans ((Joins.below_alloc1 w1 _).mono (by omega))⟩)
  have hws : w1.heap.size < W.heap.size := by rw [hW]; simp
  rw [← hW] at c2 f2 g1 ⊢
  clear hW
  have hww : w.heap.size ≤ W.drew.heap.size := by show w.heap.size ≤ W.heap.size; omega
  have hw1 : w.heap.size < W.heap.size := by omega
  have k2 : (W.drew.alloc (.cells #[.int .i64 0, .int .i64 1, .int .i64 2, .int .i64 3, .int .i64 (-1), .int .i64 31, .int .i64 5] 3)).cell? ⟨w1.heap.size, 0, none⟩ = some (.slice au l.length cu) := (World.cell?_alloc_past _ _ _ hws).trans g1
  have k3 : (W.drew.alloc (.cells #[.int .i64 0, .int .i64 1, .int .i64 2, .int .i64 3, .int .i64 (-1), .int .i64 31, .int .i64 5] 3)).cell? ⟨w.heap.size, 0, none⟩ = some (.slice none 0 0) := (World.cell?_alloc_past _ _ _ hw1).trans c2
  have k4 : (W.drew.alloc (.cells #[.int .i64 0, .int .i64 1, .int .i64 2, .int .i64 3, .int .i64 (-1), .int .i64 31, .int .i64 5] 3)).frozen? ⟨w.heap.size, 0, none⟩ = false := (frozen?_alloc_cells _ _ _ _).trans f2
  have k5 : ((W.setCell ⟨w.heap.size, 0, none⟩ (.slice au l.length cu)).alloc (.cells #[.int .i64 0, .int .i64 1, .int .i64 2, .int .i64 3, .int .i64 (-1), .int .i64 31, .int .i64 5] 3)).cell? ⟨w.heap.size, 0, none⟩ = some (.slice au l.length cu) := (World.cell?_alloc_past _ _ _ (by simpa using hw1)).trans (World.cell?_setCell_same _ _ _ c2)
  have HE : Hid (World.ownsRow (((W.setCell ⟨w.heap.size, 0, none⟩ (.slice au l.length cu)).alloc (.cells #[.int .i64 0, .int .i64 1, .int .i64 2, .int .i64 3, .int .i64 (-1), .int .i64 31, .int .i64 5] 3)).drew) w.heap.size 3 1 (.slice au l.length cu) l.length (l.map (Value.int .i64)) ∧ Below w.heap.size w (((W.setCell ⟨w.heap.size, 0, none⟩ (.slice au l.length cu)).alloc (.cells #[.int .i64 0, .int .i64 1, .int .i64 2, .int .i64 3, .int .i64 (-1), .int .i64 31, .int .i64 5] 3)).drew)) := Lib.hid (by
    have h := hand_on (w := w) (w1 := W) HWO.out.2 HWO.out.1
    exact ⟨(h.1.alloc _).drew, (h.2.trans ((Joins.below_alloc1 _ _).mono (by simp; omega))).drew⟩)
  have htm : (len : Int).tmod 7 = (len : Int) % 7 := Int.tmod_eq_emod_of_nonneg (by omega)
  rcases hq7 with e7 | e7 | e7 | e7 | e7 | e7 | e7
  · have t7 := htm.trans e7
    clear htm
    go_region_with (fail)
    all_goals
      go_wp2
      refine bodyPost_ret (v := .tuple #[.agg #[.slice au l.length cu], .int .i64 x, .int .i64 (0)]) (by simp [results, Tryd.results20, go_sem, k5]) rfl ?_
      exact ⟨_, l, x, 0, rfl, hx0, hx1, by decide, by decide, HE.out.1, HL.out, HE.out.2⟩
  · have t7 := htm.trans e7
    clear htm
    go_region_with (fail)
    all_goals
      go_wp2
      refine bodyPost_ret (v := .tuple #[.agg #[.slice au l.length cu], .int .i64 x, .int .i64 (1)]) (by simp [results, Tryd.results20, go_sem, k5]) rfl ?_
      exact ⟨_, l, x, 1, rfl, hx0, hx1, by decide, by decide, HE.out.1, HL.out, HE.out.2⟩
  · have t7 := htm.trans e7
    clear htm
    go_region_with (fail)
    all_goals
      go_wp2
      refine bodyPost_ret (v := .tuple #[.agg #[.slice au l.length cu], .int .i64 x, .int .i64 (2)]) (by simp [results, Tryd.results20, go_sem, k5]) rfl ?_
      exact ⟨_, l, x, 2, rfl, hx0, hx1, by decide, by decide, HE.out.1, HL.out, HE.out.2⟩
  · have t7 := htm.trans e7
    clear htm
    go_region_with (fail)
    all_goals
      go_wp2
      refine bodyPost_ret (v := .tuple #[.agg #[.slice au l.length cu], .int .i64 x, .int .i64 (3)]) (by simp [results, Tryd.results20, go_sem, k5]) rfl ?_
      exact ⟨_, l, x, 3, rfl, hx0, hx1, by decide, by decide, HE.out.1, HL.out, HE.out.2⟩
  · have t7 := htm.trans e7
    clear htm
    go_region_with (fail)
    all_goals
      go_wp2
      refine bodyPost_ret (v := .tuple #[.agg #[.slice au l.length cu], .int .i64 x, .int .i64 (-1)]) (by simp [results, Tryd.results20, go_sem, k5]) rfl ?_
      exact ⟨_, l, x, -1, rfl, hx0, hx1, by decide, by decide, HE.out.1, HL.out, HE.out.2⟩
  · have t7 := htm.trans e7
    clear htm
    go_region_with (fail)
    all_goals
      go_wp2
      refine bodyPost_ret (v := .tuple #[.agg #[.slice au l.length cu], .int .i64 x, .int .i64 (31)]) (by simp [results, Tryd.results20, go_sem, k5]) rfl ?_
      exact ⟨_, l, x, 31, rfl, hx0, hx1, by decide, by decide, HE.out.1, HL.out, HE.out.2⟩
  · have t7 := htm.trans e7
    clear htm
    go_region_with (fail)
    all_goals
      go_wp2
      refine bodyPost_ret (v := .tuple #[.agg #[.slice au l.length cu], .int .i64 x, .int .i64 (5)]) (by simp [results, Tryd.results20, go_sem, k5]) rfl ?_
      exact ⟨_, l, x, 5, rfl, hx0, hx1, by decide, by decide, HE.out.1, HL.out, HE.out.2⟩
set_option maxHeartbeats 4000000 in
theorem dCntS_any (w : World) (a : Option Addr) (len cap : Nat) (hlen : len ≤ 1048576) (hd : CodeIn w a len) :
    Calls Tryd.prog 23 #[.slice a len cap] w fun e w' => ∃ (u : Value) (l : List Int) (x z y : Int), e = .returned (.tuple #[.agg #[u], .int .i64 x, .int .i64 z, .int .i64 y]) ∧ -9223372036854775808 ≤ x ∧ x ≤ 9223372036854775807 ∧ -9223372036854775808 ≤ z ∧ z ≤ 9223372036854775807 ∧ -9223372036854775808 ≤ y ∧ y ≤ 9223372036854775807 ∧ DGrp w u l w' := by
  have HN := Lib.hid (new_at w a len cap hlen hd)
  clear hd
  go_enter Tryd.func23, Tryd.ntmps23
  go_wp2_with (first
    | (go_at_call 76; have hx_ := M4; clear hx_; refine (l3Set_any _ _ a len cap l au l.length cu rfl (by have := M4.out.few; omega) M4.out.ints hlen M4.out.cur M4.out.dat).mono ?_; rintro e w5 ⟨z, rfl, hz0, hz1, hcur, hg⟩; have M5 := Lib.hid (M4.out.grown hcur hg); have g5 := hg.cell g4 (by have := G2.out; simp; omega); clear hcur hg)
    | (go_at_call 76; refine (l3Set_any _ _ a len cap l au l.length cu rfl (by have := M3.out.few; omega) M3.out.ints hlen M3.out.cur M3.out.dat).mono ?_; rintro e w4 ⟨x, rfl, hx0, hx1, hcur, hg⟩; have M4 := Lib.hid (M3.out.grown hcur hg); have g4 := hg.cell g3 (by have := G2.out; simp; omega); clear hcur hg)
    | (go_at_call 75; refine (l2Any_any _ _ a len cap hlen HC1.out HD1.out).mono ?_; rintro e w2 ⟨u, l, rfl, ho, hl, hcur, hg⟩; obtain ⟨au, cu, rfl, m2⟩ := mid_of HD1.out HB1.out HC1.out ho hl hcur hg; have M2 := Lib.hid m2; clear ho hl hcur hg m2; have M3 := Lib.hid (M2.out.alloc #[.slice au l.length cu] 26); have g3 := newC w2 (.slice au l.length cu) 26 (n := w2.heap.size) rfl; have G2 := Lib.hid M2.out.lt)
    | (go_at_call 74; refine HN.out.mono ?_; rintro e w1 ⟨rfl, hcur, hda, hbel⟩; have HC1 := Lib.hid hcur; have HD1 := Lib.hid hda; have HB1 := Lib.hid hbel; clear hcur hda hbel))
  have F3 := Lib.hid (l2Element_any _ _ a len cap l au l.length cu rfl (by have := M5.out.few; omega) M5.out.drew.ints M5.out.apart hlen M5.out.drew.cur M5.out.drew.dat)
  go_region_with (go_at_call 77; refine F3.out.mono ?_; rintro e w6 ⟨y, rfl, hy0, hy1, hcur, hg⟩; have M6 := Lib.hid (M5.out.drew.grown hcur hg); have g6 := hg.cell g5 (by have := G2.out; simp; omega); have c6 := M6.out.cells.1; have f6 := M6.out.cells.2; clear hcur hg)
  all_goals
    have c7 := World.cell?_setCell_same w6 ⟨w.heap.size, 0, none⟩ (.slice au l.length cu) c6
    go_wp2
    refine bodyPost_ret (v := .tuple #[.agg #[.slice au l.length cu], .int .i64 x, .int .i64 z, .int .i64 y]) (by simp [results, Tryd.results23, go_sem, c7]) rfl ?_
    exact ⟨_, l, x, z, y, rfl, hx0, hx1, hz0, hz1, hy0, hy1, M6.out.finish.1, M6.out.few, M6.out.finish.2⟩
end Go.Proofs.YthlpjiibjlaebaaDoor
