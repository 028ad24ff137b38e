/- Merged: DEl DEl2 DText DEl3 DGrp5 DEl4 GSome DEl5. -/
import Derived.Test.YticgoodmfjjggaaGreatDoorDGRA
import Derived.Test.YticgoodmfjjggaaGreatDoorDraw3
import Derived.Test.YticgoodmfjjggaaGreatDoorFmtG
import Derived.Test.YticgoodmfjjggaaGreatDoorNUMA
import Derived.Test.YticgoodmfjjggaaGreatDoorGrpSpec6
import Derived.Deep.RegionHeld3
import Derived.Deep.DeepCutAuto
import Derived.Test.YticgoodmfjjggaaGreatDoorDRAWB
import Derived.Test.YticgoodmfjjggaaGreatDoorBytes
import Derived.Deep.RegionLaw
namespace Go.Proofs.YticgoodmfjjggaaGreatDoor
open Go.RowKit
set_option maxRecDepth 1000000
set_option maxHeartbeats 4000000 in
theorem l2One_any (w : World) (a : Option Addr) (len cap : Nat) (hlen : len ≤ 1048576) (hd : CodeIn w a len) :
    Calls Tryz.prog 87 #[.slice a len cap] w (DrawnGI w) := by
  have HN := Lib.hid (new_at w a len cap hlen hd)
  clear hd
  go_enter Tryz.func87, Tryz.ntmps87
  go_wp2_with (first
    | (go_at_call 80; refine (l2Any_any _ _ a len cap hlen HC1.out HD1.out).mono ?_; rintro e w2 ⟨u, l, rfl, ho, hl, hcur, hg⟩; obtain ⟨au, cu, rfl, m2⟩ := mid_of HD1.out HB1.out HC1.out ho hl hcur hg; have M2 := Lib.hid m2; clear ho hl hcur hg m2; have M3 := Lib.hid (M2.out.alloc #[.slice au l.length cu] 26); have g3 := newC w2 (.slice au l.length cu) 26 (n := w2.heap.size) rfl; have G2 := Lib.hid M2.out.lt)
    | (go_at_call 79; refine HN.out.mono ?_; rintro e w1 ⟨rfl, hcur, hda, hbel⟩; have HC1 := Lib.hid hcur; have HD1 := Lib.hid hda; have HB1 := Lib.hid hbel; clear hcur hda hbel))
  have F3 := Lib.hid (l2Element_any _ _ a len cap l au l.length cu rfl (by have := M3.out.few; omega) M3.out.drew.ints M3.out.apart hlen M3.out.drew.cur M3.out.drew.dat)
  go_region_with (go_at_call 88; refine F3.out.mono ?_; rintro e w4 ⟨x, rfl, hx0, hx1, hcur, hg⟩; have M4 := Lib.hid (M3.out.drew.grown hcur hg); have g4 := hg.cell g3 (by have := G2.out; simp; omega); have c4 := M4.out.cells.1; have f4 := M4.out.cells.2; clear hcur hg)
  all_goals
    have c5 := World.cell?_setCell_same w4 ⟨w.heap.size, 0, none⟩ (.slice au l.length cu) c4
    go_wp2
    refine bodyPost_ret (v := .tuple #[.agg #[.slice au l.length cu], .int .i64 x]) (by simp [results, Tryz.results87, go_sem, c5]) rfl ?_
    exact ⟨_, l, x, rfl, hx0, hx1, M4.out.finish.1, M4.out.few, M4.out.finish.2⟩
set_option maxHeartbeats 4000000 in
theorem l2Two_any (w : World) (a : Option Addr) (len cap : Nat) (hlen : len ≤ 1048576) (hd : CodeIn w a len) :
    Calls Tryz.prog 65 #[.slice a len cap] w fun e w' => ∃ (u : Value) (l : List Int) (x y : Int), e = .returned (.tuple #[.agg #[u], .int .i64 x, .int .i64 y]) ∧ -9223372036854775808 ≤ x ∧ x ≤ 9223372036854775807 ∧ -9223372036854775808 ≤ y ∧ y ≤ 9223372036854775807 ∧ DGrp w u l w' := by
  have HN := Lib.hid (new_at w a len cap hlen hd)
  clear hd
  go_enter Tryz.func65, Tryz.ntmps65
  go_wp2_with (first
    | (go_at_call 88; refine (l2Element_any _ _ a len cap l au l.length cu rfl (by have := M3.out.few; omega) M3.out.ints M3.out.apart hlen M3.out.cur M3.out.dat).mono ?_; rintro e w4 ⟨x, rfl, hx0, hx1, hcur, hg⟩; have M4 := Lib.hid (M3.out.grown hcur hg); have g4 := hg.cell g3 (by have := G2.out; simp; omega); clear hcur hg)
    | (go_at_call 80; refine (l2Any_any _ _ a len cap hlen HC1.out HD1.out).mono ?_; rintro e w2 ⟨u, l, rfl, ho, hl, hcur, hg⟩; obtain ⟨au, cu, rfl, m2⟩ := mid_of HD1.out HB1.out HC1.out ho hl hcur hg; have M2 := Lib.hid m2; clear ho hl hcur hg m2; have M3 := Lib.hid (M2.out.alloc #[.slice au l.length cu] 26); have g3 := newC w2 (.slice au l.length cu) 26 (n := w2.heap.size) rfl; have G2 := Lib.hid M2.out.lt)
    | (go_at_call 79; refine HN.out.mono ?_; rintro e w1 ⟨rfl, hcur, hda, hbel⟩; have HC1 := Lib.hid hcur; have HD1 := Lib.hid hda; have HB1 := Lib.hid hbel; clear hcur hda hbel))
  have F3 := Lib.hid (l2Element_any _ _ a len cap l au l.length cu rfl (by have := M4.out.few; omega) M4.out.drew.ints M4.out.apart hlen M4.out.drew.cur M4.out.drew.dat)
  go_region_with (go_at_call 88; refine F3.out.mono ?_; rintro e w5 ⟨y, rfl, hy0, hy1, hcur, hg⟩; have M5 := Lib.hid (M4.out.drew.grown hcur hg); have g5 := hg.cell g4 (by have := G2.out; simp; omega); have c5 := M5.out.cells.1; have f5 := M5.out.cells.2; clear hcur hg)
  all_goals
    have c6 := World.cell?_setCell_same w5 ⟨w.heap.size, 0, none⟩ (.slice au l.length cu) c5
    go_wp2
    refine bodyPost_ret (v := .tuple #[.agg #[.slice au l.length cu], .int .i64 x, .int .i64 y]) (by simp [results, Tryz.results65, go_sem, c6]) rfl ?_
    exact ⟨_, l, x, y, rfl, hx0, hx1, hy0, hy1, M5.out.finish.1, M5.out.few, M5.out.finish.2⟩
theorem oneE_at (w : World) (a : Option Addr) (len cap : Nat) (hlen : len ≤ 1048576) (hd : CodeIn w a len) :
    Calls Tryz.prog 87 #[.slice a len cap] (w.alloc nilG) fun e w1 => ∃ (u : Value) (l : List Int) (x : Int), e = .returned (.tuple #[.agg #[u], .int .i64 x]) ∧ -9223372036854775808 ≤ x ∧ x ≤ 9223372036854775807 ∧ w1.ownsRow (w.heap.size + 1) 3 1 u l.length (l.map (Value.int .i64)) ∧ l.length ≤ 4 ∧ Below (w.heap.size + 1) (w.alloc nilG) w1 := by
  have h := l2One_any (w.alloc nilG) a len cap hlen (hd.below (Joins.below_alloc1 w nilG))
  have e : (w.alloc nilG).heap.size = w.heap.size + 1 := by simp
  unfold DrawnGI DGrp at h
  rw [e] at h
  exact h
set_option maxHeartbeats 4000000 in
theorem dPlaces_any (w : World) (a : Option Addr) (len cap : Nat) (hlen : len ≤ 1048576) (hd : CodeIn w a len) :
    Calls Tryz.prog 27 #[.slice a len cap] w (DrawnGI w) := by
  have HN := Lib.hid (oneE_at w a len cap hlen hd)
  have R0 := Lib.hid (heap_alloc_new w nilG)
  clear hd
  go_enter Tryz.func27, Tryz.ntmps27
  go_wp2_with (go_at_call 87; refine HN.out.mono ?_; rintro e w1 ⟨u, l, x, rfl, hx0, hx1, ho, hl, hb⟩; go_loud (obtain ⟨au, cu, rfl⟩ := own_slice' rfl ho; have HO := Lib.hid ho; have HB := Lib.hid hb; have HL := Lib.hid hl; have g1 := newC w1 (.slice au l.length cu) 26 (n := w1.heap.size) rfl; have hs := (show w.heap.size + 1 ≤ w1.heap.size from by have := hb.size; simpa using this); obtain ⟨c1, f1⟩ := one_cell ((hb.block _ (by omega)).trans R0.out); have c2 : (w1.alloc (.cells #[.slice au l.length cu] 26)).cell? ⟨w.heap.size, 0, none⟩ = some (.slice none 0 0) := (World.cell?_alloc_past _ _ _ (by omega)).trans c1; have f2 := (frozen?_alloc_cells w1 #[.slice au l.length cu] 26 ⟨w.heap.size, 0, none⟩).trans f1; clear ho hl hb))
  have c3 := World.cell?_setCell_same (w1.alloc (.cells #[.slice au l.length cu] 26)) ⟨w.heap.size, 0, none⟩ (.slice au l.length cu) c2
  have HE := Lib.hid (hand_on (w := w) (w1 := w1.alloc (.cells #[.slice au l.length cu] 26)) (((Joins.below_alloc1 w nilG).trans (HB.out.mono (by omega))).trans ((Joins.below_alloc1 w1 _).mono (by omega))) (HO.out.alloc _))
  go_wp2
  refine bodyPost_ret (v := .tuple #[.agg #[.slice au l.length cu], .int .i64 x]) (by simp [results, Tryz.results27, go_sem, c3]) rfl ?_
  exact ⟨_, l, x, rfl, hx0, hx1, HE.out.1, HL.out, HE.out.2⟩
theorem twoE_at (w : World) (a : Option Addr) (len cap : Nat) (hlen : len ≤ 1048576) (hd : CodeIn w a len) :
    Calls Tryz.prog 65 #[.slice a len cap] (w.alloc nilG) fun e w1 => ∃ (u : Value) (l : List Int) (x y : Int), e = .returned (.tuple #[.agg #[u], .int .i64 x, .int .i64 y]) ∧ -9223372036854775808 ≤ x ∧ x ≤ 9223372036854775807 ∧ -9223372036854775808 ≤ y ∧ y ≤ 9223372036854775807 ∧ w1.ownsRow (w.heap.size + 1) 3 1 u l.length (l.map (Value.int .i64)) ∧ l.length ≤ 4 ∧ Below (w.heap.size + 1) (w.alloc nilG) w1 := by
  have h := l2Two_any (w.alloc nilG) a len cap hlen (hd.below (Joins.below_alloc1 w nilG))
  have e : (w.alloc nilG).heap.size = w.heap.size + 1 := by simp
  unfold DGrp at h
  rw [e] at h
  exact h
set_option maxHeartbeats 4000000 in
theorem dAdd_any (w : World) (a : Option Addr) (len cap : Nat) (hlen : len ≤ 1048576) (hd : CodeIn w a len) :
    Calls Tryz.prog 6 #[.slice a len cap] w fun e w' => ∃ (u : Value) (l : List Int) (x y : Int), e = .returned (.tuple #[.agg #[u], .int .i64 x, .int .i64 y]) ∧ -9223372036854775808 ≤ x ∧ x ≤ 9223372036854775807 ∧ -9223372036854775808 ≤ y ∧ y ≤ 9223372036854775807 ∧ DGrp w u l w' := by
  have HN := Lib.hid (twoE_at w a len cap hlen hd)
  have R0 := Lib.hid (heap_alloc_new w nilG)
  clear hd
  go_enter Tryz.func6, Tryz.ntmps6
  go_wp2_with (go_at_call 65; refine HN.out.mono ?_; rintro e w1 ⟨u, l, x, y, rfl, hx0, hx1, hy0, hy1, ho, hl, hb⟩; go_loud (obtain ⟨au, cu, rfl⟩ := own_slice' rfl ho; have HO := Lib.hid ho; have HB := Lib.hid hb; have HL := Lib.hid hl; have g1 := newC w1 (.slice au l.length cu) 26 (n := w1.heap.size) rfl; have hs := (show w.heap.size + 1 ≤ w1.heap.size from by have := hb.size; simpa using this); obtain ⟨c1, f1⟩ := one_cell ((hb.block _ (by omega)).trans R0.out); have c2 : (w1.alloc (.cells #[.slice au l.length cu] 26)).cell? ⟨w.heap.size, 0, none⟩ = some (.slice none 0 0) := (World.cell?_alloc_past _ _ _ (by omega)).trans c1; have f2 := (frozen?_alloc_cells w1 #[.slice au l.length cu] 26 ⟨w.heap.size, 0, none⟩).trans f1; clear ho hl hb))
  have c3 := World.cell?_setCell_same (w1.alloc (.cells #[.slice au l.length cu] 26)) ⟨w.heap.size, 0, none⟩ (.slice au l.length cu) c2
  have HE := Lib.hid (hand_on (w := w) (w1 := w1.alloc (.cells #[.slice au l.length cu] 26)) (((Joins.below_alloc1 w nilG).trans (HB.out.mono (by omega))).trans ((Joins.below_alloc1 w1 _).mono (by omega))) (HO.out.alloc _))
  go_wp2
  refine bodyPost_ret (v := .tuple #[.agg #[.slice au l.length cu], .int .i64 x, .int .i64 y]) (by simp [results, Tryz.results6, go_sem, c3]) rfl ?_
  exact ⟨_, l, x, y, rfl, hx0, hx1, hy0, hy1, HE.out.1, HL.out, HE.out.2⟩
end Go.Proofs.YticgoodmfjjggaaGreatDoor

namespace Go.Proofs.YticgoodmfjjggaaGreatDoor
open Go.RowKit
set_option maxRecDepth 1000000
set_option maxHeartbeats 4000000 in
theorem dMul_any (w : World) (a : Option Addr) (len cap : Nat) (hlen : len ≤ 1048576) (hd : CodeIn w a len) :
    Calls Tryz.prog 30 #[.slice a len cap] w fun e w' => ∃ (u : Value) (l : List Int) (x y : Int), e = .returned (.tuple #[.agg #[u], .int .i64 x, .int .i64 y]) ∧ -9223372036854775808 ≤ x ∧ x ≤ 9223372036854775807 ∧ -9223372036854775808 ≤ y ∧ y ≤ 9223372036854775807 ∧ DGrp w u l w' := by
  have HN := Lib.hid (oneE_at w a len cap hlen hd)
  have R0 := Lib.hid (heap_alloc_new w nilG)
  clear hd
  have hq7 : (len : Int) % 8 = 0 ∨ (len : Int) % 8 = 1 ∨ (len : Int) % 8 = 2 ∨ (len : Int) % 8 = 3 ∨ (len : Int) % 8 = 4 ∨ (len : Int) % 8 = 5 ∨ (len : Int) % 8 = 6 ∨ (len : Int) % 8 = 7 := by omega
  go_enter Tryz.func30, Tryz.ntmps30
  go_wp2_with (go_at_call 87; refine HN.out.mono ?_; rintro e w1 ⟨u, l, x, rfl, hx0, hx1, ho, hl, hb⟩; obtain ⟨au, cu, rfl⟩ := own_slice' rfl ho; have HO := Lib.hid ho; have HB := Lib.hid hb; have HL := Lib.hid hl; have g1 := newC w1 (.slice au l.length cu) 26 (n := w1.heap.size) rfl; have hs := (show w.heap.size + 1 ≤ w1.heap.size from by have := hb.size; simpa using this); obtain ⟨c1, f1⟩ := one_cell ((hb.block _ (by omega)).trans R0.out); have c2 : (w1.alloc (.cells #[.slice au l.length cu] 26)).cell? ⟨w.heap.size, 0, none⟩ = some (.slice none 0 0) := (World.cell?_alloc_past _ _ _ (by omega)).trans c1; have f2 := (frozen?_alloc_cells w1 #[.slice au l.length cu] 26 ⟨w.heap.size, 0, none⟩).trans f1; clear ho hl hb)
  obtain ⟨W, hW⟩ : ∃ W, W = w1.alloc (.cells #[.slice au l.length cu] 26) := ⟨_, rfl⟩
  have HWO : Hid (W.ownsRow (w.heap.size + 1) 3 1 (.slice au l.length cu) l.length (l.map (Value.int .i64)) ∧ Below w.heap.size w W) := Lib.hid (by rw [hW]; exact ⟨HO.out.alloc _, ((Joins.below_alloc1 w nilG).trans (HB.out.mono (by omega))).trans ((Joins.below_alloc1 w1 _).mono (by omega))⟩)
  have hws : w1.heap.size < W.heap.size := by rw [hW]; simp
  rw [← hW] at c2 f2 g1 ⊢
  clear hW
  have hww : w.heap.size ≤ W.drew.heap.size := by show w.heap.size ≤ W.heap.size; omega
  have hw1 : w.heap.size < W.heap.size := by omega
  have k2 : (W.drew.alloc (.cells #[.int .i64 0, .int .i64 1, .int .i64 2, .int .i64 (-1), .int .i64 7, .int .i64 (-100), .int .i64 101, .int .i64 24] 3)).cell? ⟨w1.heap.size, 0, none⟩ = some (.slice au l.length cu) := (World.cell?_alloc_past _ _ _ hws).trans g1
  have k3 : (W.drew.alloc (.cells #[.int .i64 0, .int .i64 1, .int .i64 2, .int .i64 (-1), .int .i64 7, .int .i64 (-100), .int .i64 101, .int .i64 24] 3)).cell? ⟨w.heap.size, 0, none⟩ = some (.slice none 0 0) := (World.cell?_alloc_past _ _ _ hw1).trans c2
  have k4 : (W.drew.alloc (.cells #[.int .i64 0, .int .i64 1, .int .i64 2, .int .i64 (-1), .int .i64 7, .int .i64 (-100), .int .i64 101, .int .i64 24] 3)).frozen? ⟨w.heap.size, 0, none⟩ = false := (frozen?_alloc_cells _ _ _ _).trans f2
  have k5 : ((W.setCell ⟨w.heap.size, 0, none⟩ (.slice au l.length cu)).alloc (.cells #[.int .i64 0, .int .i64 1, .int .i64 2, .int .i64 (-1), .int .i64 7, .int .i64 (-100), .int .i64 101, .int .i64 24] 3)).cell? ⟨w.heap.size, 0, none⟩ = some (.slice au l.length cu) := (World.cell?_alloc_past _ _ _ (by simpa using hw1)).trans (World.cell?_setCell_same _ _ _ c2)
  have HE : Hid (World.ownsRow (((W.setCell ⟨w.heap.size, 0, none⟩ (.slice au l.length cu)).alloc (.cells #[.int .i64 0, .int .i64 1, .int .i64 2, .int .i64 (-1), .int .i64 7, .int .i64 (-100), .int .i64 101, .int .i64 24] 3)).drew) w.heap.size 3 1 (.slice au l.length cu) l.length (l.map (Value.int .i64)) ∧ Below w.heap.size w (((W.setCell ⟨w.heap.size, 0, none⟩ (.slice au l.length cu)).alloc (.cells #[.int .i64 0, .int .i64 1, .int .i64 2, .int .i64 (-1), .int .i64 7, .int .i64 (-100), .int .i64 101, .int .i64 24] 3)).drew)) := Lib.hid (by
    have h := hand_on (w := w) (w1 := W) HWO.out.2 HWO.out.1
    exact ⟨(h.1.alloc _).drew, (h.2.trans ((Joins.below_alloc1 _ _).mono (by simp; omega))).drew⟩)
  have htm : (len : Int).tmod 8 = (len : Int) % 8 := Int.tmod_eq_emod_of_nonneg (by omega)
  rcases hq7 with e7 | e7 | e7 | e7 | e7 | e7 | e7 | e7
  · have t7 := htm.trans e7
    clear htm
    go_region_with (fail)
    all_goals
      go_wp2
      refine bodyPost_ret (v := .tuple #[.agg #[.slice au l.length cu], .int .i64 x, .int .i64 (0)]) (by simp [results, Tryz.results30, go_sem, k5]) rfl ?_
      exact ⟨_, l, x, 0, rfl, hx0, hx1, by decide, by decide, HE.out.1, HL.out, HE.out.2⟩
  · have t7 := htm.trans e7
    clear htm
    go_region_with (fail)
    all_goals
      go_wp2
      refine bodyPost_ret (v := .tuple #[.agg #[.slice au l.length cu], .int .i64 x, .int .i64 (1)]) (by simp [results, Tryz.results30, go_sem, k5]) rfl ?_
      exact ⟨_, l, x, 1, rfl, hx0, hx1, by decide, by decide, HE.out.1, HL.out, HE.out.2⟩
  · have t7 := htm.trans e7
    clear htm
    go_region_with (fail)
    all_goals
      go_wp2
      refine bodyPost_ret (v := .tuple #[.agg #[.slice au l.length cu], .int .i64 x, .int .i64 (2)]) (by simp [results, Tryz.results30, go_sem, k5]) rfl ?_
      exact ⟨_, l, x, 2, rfl, hx0, hx1, by decide, by decide, HE.out.1, HL.out, HE.out.2⟩
  · have t7 := htm.trans e7
    clear htm
    go_region_with (fail)
    all_goals
      go_wp2
      refine bodyPost_ret (v := .tuple #[.agg #[.slice au l.length cu], .int .i64 x, .int .i64 (-1)]) (by simp [results, Tryz.results30, go_sem, k5]) rfl ?_
      exact ⟨_, l, x, -1, rfl, hx0, hx1, by decide, by decide, HE.out.1, HL.out, HE.out.2⟩
  · have t7 := htm.trans e7
    clear htm
    go_region_with (fail)
    all_goals
      go_wp2
      refine bodyPost_ret (v := .tuple #[.agg #[.slice au l.length cu], .int .i64 x, .int .i64 (7)]) (by simp [results, Tryz.results30, go_sem, k5]) rfl ?_
      exact ⟨_, l, x, 7, rfl, hx0, hx1, by decide, by decide, HE.out.1, HL.out, HE.out.2⟩
  · have t7 := htm.trans e7
    clear htm
    go_region_with (fail)
    all_goals
      go_wp2
      refine bodyPost_ret (v := .tuple #[.agg #[.slice au l.length cu], .int .i64 x, .int .i64 (-100)]) (by simp [results, Tryz.results30, go_sem, k5]) rfl ?_
      exact ⟨_, l, x, -100, rfl, hx0, hx1, by decide, by decide, HE.out.1, HL.out, HE.out.2⟩
  · have t7 := htm.trans e7
    clear htm
    go_region_with (fail)
    all_goals
      go_wp2
      refine bodyPost_ret (v := .tuple #[.agg #[.slice au l.length cu], .int .i64 x, .int .i64 (101)]) (by simp [results, Tryz.results30, go_sem, k5]) rfl ?_
      exact ⟨_, l, x, 101, rfl, hx0, hx1, by decide, by decide, HE.out.1, HL.out, HE.out.2⟩
  · have t7 := htm.trans e7
    clear htm
    go_region_with (fail)
    all_goals
      go_wp2
      refine bodyPost_ret (v := .tuple #[.agg #[.slice au l.length cu], .int .i64 x, .int .i64 (24)]) (by simp [results, Tryz.results30, go_sem, k5]) rfl ?_
      exact ⟨_, l, x, 24, rfl, hx0, hx1, by decide, by decide, HE.out.1, HL.out, HE.out.2⟩
end Go.Proofs.YticgoodmfjjggaaGreatDoor

namespace Go.Proofs.YticgoodmfjjggaaGreatDoor
open Go.RowKit
set_option maxRecDepth 1000000
/-- Any text of at most so many bytes. -/
def AnyStr (w : World) (C : Nat) (a : Option Addr) (len cap most : Nat) (e : Ending) (w' : World) : Prop :=
  ∃ s : ByteArray, e = .returned (.string s) ∧ s.size ≤ most ∧ CurAt w' C a len cap ∧ w.grownBy w' (some C)
theorem grown_drew1 {a w : World} {row : Option Nat} (h : a.grownBy w row) : a.grownBy w.drew row := ⟨h.os, h.tape, h.output, h.size, h.block⟩
theorem u8_wrap (z : Int) : ∃ u : UInt8, (u.toNat : Int) = IntKind.u8.wrap z := by
  have h : 0 ≤ IntKind.u8.wrap z ∧ IntKind.u8.wrap z < 256 := by
    simp [IntKind.wrap, IntKind.signed, IntKind.bits]; omega
  exact u8_of _ h.1 h.2
set_option maxHeartbeats 2000000 in
theorem pickS_any (w : World) (C : Nat) (a : Option Addr) (len cap L m cp most : Nat) (hlen : len ≤ 1048576) (hc : CurAt w C a len cap) (hd : DataAt w C a len) (hm0 : 0 < m) (hm : m ≤ 1000) (hne : L ≠ C)
    (hcells : ∀ i, i < m → ∃ s : ByteArray, s.size ≤ most ∧ w.cell? ⟨L, i, none⟩ = some (.string s)) :
    Calls Tryz.prog 83 #[.pointer (some ⟨C, 0, none⟩), .slice (some ⟨L, 0, none⟩) m cp] w (AnyStr w C a len cap most) := by
  have F := Lib.hid (below_any w C a len cap m hlen hc hd (by omega))
  have HCE := Lib.hid hcells
  have HNE := Lib.hid hne
  clear hc hd hcells hne
  go_enter Tryz.func83, Tryz.ntmps83
  go_wp2_with fail
  refine F.out.mono ?_
  rintro e w1 ⟨r, rfl, hr0, hr1, hcur, hg⟩
  obtain ⟨q, rfl⟩ : ∃ q : Nat, r = q := ⟨r.toNat, by omega⟩
  obtain ⟨s, hs, hcell⟩ := HCE.out q (by omega)
  have hcell1 : w1.cell? ⟨L, q, none⟩ = some (.string s) := hg.cell hcell (by simpa using HNE.out)
  have hqm : q < m := by omega
  have HC := Lib.hid hcur
  have HG := Lib.hid hg
  clear hcur hg F hcell
  go_wp2
  go_ret
  exact ⟨_, rfl, hs, HC.out, HG.out⟩
set_option maxHeartbeats 4000000 in
theorem spoil_any (w : World) (C : Nat) (a : Option Addr) (len cap : Nat) (s : ByteArray) (hs : s.size ≤ 1000) (hlen : len ≤ 1048576) (hc : CurAt w C a len cap) (hd : DataAt w C a len) :
    Calls Tryz.prog 82 #[.pointer (some ⟨C, 0, none⟩), .string s] w (AnyStr w C a len cap 1010) := by
  by_cases hz : s.size = 0
  · have e0 : ((s.size : Int) == 0) = true := by simp [hz]
    have F := Lib.hid (text_any w C a len cap 3 hlen (by omega) hc hd)
    clear hc hd hz
    go_enter Tryz.func82, Tryz.ntmps82
    go_wp2_with fail
    refine F.out.mono ?_
    rintro e w1 ⟨t, rfl, ht, hcur, hg⟩
    have HC := Lib.hid hcur
    have HG := Lib.hid hg
    clear hcur hg F
    go_wp2
    go_ret
    exact ⟨_, rfl, by rw [bs_size]; omega, HC.out, HG.out⟩
  · have e0 : ((s.size : Int) == 0) = false := by rw [beq_eq_false_iff_ne]; omega
    have F := Lib.hid (below_any w C a len cap s.size hlen hc hd (by omega))
    have HD := Lib.hid hd
    clear hc hd
    go_enter Tryz.func82, Tryz.ntmps82
    go_wp2_with fail
    refine F.out.mono ?_
    rintro e w1 ⟨r, rfl, hr0, hr1, hcur, hg⟩
    obtain ⟨k, rfl⟩ : ∃ k : Nat, r = k := ⟨r.toNat, by omega⟩
    have HG1 := Lib.hid hg
    have F1 := Lib.hid (below_small w1 C a len cap 4 hlen hcur (HD.out.grown hg) (by omega) (by omega))
    clear hcur hg F
    go_wp2_with fail
    refine F1.out.mono ?_
    rintro e w2 ⟨y, rfl, hy0, hy1, hcur, hg⟩
    have HC2 := Lib.hid hcur
    have HG2 := Lib.hid (grownC_trans HG1.out hg)
    have HD2 := Lib.hid (HD.out.grown HG2.out)
    clear hcur hg F1 HG1
    have hk : k < s.size := by omega
    have hk1 : (k : Int) < (s.size : Int) := by omega
    have p0 : (0 : Int) ≤ (k : Int) + 1 := by omega
    have p1 : (k : Int) + 1 ≤ (s.size : Int) := by omega
    have p2 : ((k : Int) + 1).toNat = k + 1 := by omega
    have p3 : IntKind.i64.wrap ((k : Int) + 1) = (k : Int) + 1 := by rw [IntKind.wrap_i64]; omega
    have p4 : (k : Int) ≤ (s.size : Int) := by omega
    have x1 : (s.extract 0 k).size = k := by simp; omega
    have x2 : (s.extract (k + 1) s.size).size = s.size - (k + 1) := by simp
    have x3 : (s.extract k s.size).size = s.size - k := by simp
    by_cases h0 : y = 0
    · have d0 : (y == 0) = true := by simp [h0]
      clear h0
      go_wp2
      go_region_with (fail)
      go_wp2
      go_ret
      exact ⟨_, rfl, by simp; omega, HC2.out, grown_drew1 HG2.out⟩
    · have d0 : (y == 0) = false := by simpa using h0
      by_cases h1 : y = 1
      · have d1 : (y == 1) = true := by simp [h1]
        clear h0 h1
        have F3 := Lib.hid (byte_any w2.drew C a len cap hlen HC2.out HD2.out)
        go_wp2
        go_region_with (go_at_call 121; refine F3.out.mono ?_; rintro e w3 ⟨b, rfl, hb0, hb1, hcur, hg⟩; have HC3 := Lib.hid hcur; have HG3 := Lib.hid (grownC_trans (grown_drew1 HG2.out) hg); clear hcur hg; obtain ⟨u, hu⟩ := u8_wrap b; have hc1 := conv_one w3 u _ hu; have HU := Lib.hid hu; clear hu; have hus : (bs [u]).size = 1 := rfl)
        go_wp2
        go_ret
        exact ⟨_, rfl, by simp; omega, HC3.out.other (heap_alloc_old w3 _ HC3.out.lt), grownC_trans HG3.out (World.grownBy_alloc _ _ _)⟩
      · have d1 : (y == 1) = false := by simpa using h1
        by_cases h2 : y = 2
        · have d2 : (y == 2) = true := by simp [h2]
          clear h0 h1 h2
          go_wp2
          go_ret
          exact ⟨_, rfl, by simp; omega, HC2.out, HG2.out⟩
        · have d2 : (y == 2) = false := by simpa using h2
          clear h0 h1 h2
          have F3 := Lib.hid (below_small w2.drew C a len cap 255 hlen HC2.out HD2.out (by omega) (by omega))
          go_wp2
          go_region_with (go_at_call 81; refine F3.out.mono ?_; rintro e w3 ⟨b, rfl, hb0, hb1, hcur, hg⟩; have HC3 := Lib.hid hcur; have HG3 := Lib.hid (grownC_trans (grown_drew1 HG2.out) hg); clear hcur hg; obtain ⟨u, hu⟩ := u8_wrap (bits BinOp.xor IntKind.i64 (IntKind.i64.wrap (s[k].toNat : Int)) (IntKind.i64.wrap (1 + b))); have hc1 := conv_one w3 u _ hu; have HU := Lib.hid hu; clear hu; have hus : (bs [u]).size = 1 := rfl)
          all_goals
            go_wp2
            go_ret
            exact ⟨_, rfl, by simp; omega, HC3.out.other (heap_alloc_old w3 _ HC3.out.lt), grownC_trans HG3.out (World.grownBy_alloc _ _ _)⟩
end Go.Proofs.YticgoodmfjjggaaGreatDoor

namespace Go.Proofs.YticgoodmfjjggaaGreatDoor
open Go.RowKit
set_option maxRecDepth 1000000
theorem fmtG_len (l : List Int) : (fmtG l).length ≤ 80 := by
  unfold fmtG
  split
  · next h =>
    split
    · decide
    · have := txt_tight h
      omega
  · simp
def texts12 : List ByteArray := [⟨#[]⟩, ⟨#[49]⟩, ⟨#[48]⟩, ⟨#[120]⟩, ⟨#[50, 120]⟩, ⟨#[120, 50]⟩, ⟨#[49, 120, 50]⟩, ⟨#[48, 50]⟩, ⟨#[50, 53]⟩, ⟨#[53, 120, 53]⟩, ⟨#[50, 120, 50, 120, 50, 120, 50]⟩, ⟨#[50, 52]⟩]
theorem texts12_at (i : Nat) (h : i < 12) : ∃ t : ByteArray, t.size ≤ 10 ∧ ((texts12.map fun t => Value.string t).toArray)[i]? = some (.string t) := by
  match i, h with
  | 0, _ => exact ⟨_, by decide, rfl⟩
  | 1, _ => exact ⟨_, by decide, rfl⟩
  | 2, _ => exact ⟨_, by decide, rfl⟩
  | 3, _ => exact ⟨_, by decide, rfl⟩
  | 4, _ => exact ⟨_, by decide, rfl⟩
  | 5, _ => exact ⟨_, by decide, rfl⟩
  | 6, _ => exact ⟨_, by decide, rfl⟩
  | 7, _ => exact ⟨_, by decide, rfl⟩
  | 8, _ => exact ⟨_, by decide, rfl⟩
  | 9, _ => exact ⟨_, by decide, rfl⟩
  | 10, _ => exact ⟨_, by decide, rfl⟩
  | 11, _ => exact ⟨_, by decide, rfl⟩
set_option maxHeartbeats 4000000 in
theorem dParG_any (w : World) (a : Option Addr) (len cap : Nat) (hlen : len ≤ 1048576) (hd : CodeIn w a len) :
    Calls Tryz.prog 21 #[.slice a len cap] w fun e w' => ∃ t : ByteArray, e = .returned (.string t) ∧ t.size ≤ 1010 ∧ Below w.heap.size w w' := by
  have HN := Lib.hid (new_any w a len cap hlen hd)
  clear hd
  go_enter Tryz.func21, Tryz.ntmps21
  go_wp2_with (first
    | (go_at_call 23; refine (sFmtG w2 _ l _ _ rfl (by omega) I2.out).mono ?_; rintro e w3 ⟨rfl, hb⟩; have HC3 := Lib.hid (HC2.out.other (hb.block _ HC2.out.lt)); have HD3 := Lib.hid (HD2.out.grown (below_grown hb _)); have B3 := Lib.hid (B2.out.trans (hb.mono B2.out.size)); clear hb)
    | (go_at_call 80; refine (l2Any_any w1 _ a len cap hlen HC1.out HD1.out).mono ?_; rintro e w2 ⟨u, l, rfl, ho, hl, hcur, hg⟩; obtain ⟨au, cu, rfl⟩ := own_slice' rfl ho; have I2 := Lib.hid (own_ints' rfl ho); have HC2 := Lib.hid hcur; have HD2 := Lib.hid (HD1.out.grown hg); have B2 := Lib.hid (below_of B1.out hg); clear ho hcur hg)
    | (go_at_call 79; refine HN.out.mono ?_; rintro e w1 ⟨rfl, hcur, hda, hbel⟩; have HC1 := Lib.hid hcur; have HD1 := Lib.hid hda; have B1 := Lib.hid hbel; clear hcur hda hbel))
  have hts : (bs (fmtG l)).size ≤ 80 := by rw [bs_size]; exact fmtG_len l
  generalize fmtG l = tx at *
  refine (below_small w3 _ a len cap 4 hlen HC3.out HD3.out (by omega) (by omega)).mono ?_
  rintro e w4 ⟨y, rfl, hy0, hy1, hcur, hg⟩
  have HC4 := Lib.hid hcur
  have HD4 := Lib.hid (HD3.out.grown hg)
  have B4 := Lib.hid (below_of B3.out hg)
  clear hcur hg
  by_cases h0 : y = 0
  · have d0 : (y == 0) = true := by simp [h0]
    clear h0
    have F7 := Lib.hid (spoil_any w4 _ a len cap (bs tx) (by omega) hlen HC4.out HD4.out)
    go_wp2_with (go_at_call 82; refine F7.out.mono ?_; rintro e w5 ⟨t, rfl, ht, hcur, hg⟩; have B5 := Lib.hid (below_of B4.out hg); clear hcur hg)
    go_ret
    exact ⟨_, rfl, ht, B5.out⟩
  · have d0 : (y == 0) = false := by simpa using h0
    by_cases h1 : y = 1
    · have d1 : (y == 1) = true := by simp [h1]
      clear h0 h1
      have hCw : w.heap.size < w4.heap.size := HC4.out.lt
      have F7 := Lib.hid (pickS_any (w4.alloc (.cells #[.string { data := #[] }, .string { data := #[49] }, .string { data := #[48] }, .string { data := #[120] }, .string { data := #[50, 120] }, .string { data := #[120, 50] }, .string { data := #[49, 120, 50] }, .string { data := #[48, 50] }, .string { data := #[50, 53] }, .string { data := #[53, 120, 53] }, .string { data := #[50, 120, 50, 120, 50, 120, 50] }, .string { data := #[50, 52] }] 9)) w.heap.size a len cap w4.heap.size 12 12 10 hlen (HC4.out.other (heap_alloc_old w4 _ hCw)) (HD4.out.grown (World.grownBy_alloc w4 _ _)) (by omega) (by omega) (by omega) (fun i hi => by
        obtain ⟨t, ht, htt⟩ := texts12_at i hi
        exact ⟨t, ht, (World.cell?_alloc_at _ _ _ _ rfl).trans htt⟩))
      go_wp2_with (go_at_call 83; refine F7.out.mono ?_; rintro e w5 ⟨t, rfl, ht, hcur, hg⟩; have B5 := Lib.hid (below_of (B4.out.trans ((Joins.below_alloc1 w4 _).mono B4.out.size)) hg); clear hcur hg)
      go_ret
      exact ⟨_, rfl, by omega, B5.out⟩
    · have d1 : (y == 1) = false := by simpa using h1
      clear h0 h1
      go_wp2
      go_ret
      exact ⟨_, rfl, by omega, B4.out⟩
theorem at_any (w : World) (a : Option Addr) (len cap : Nat) (i : Int) (hi0 : 0 ≤ i) (hi1 : i ≤ 1000) (hlen : len ≤ 1048576) (hd : CodeIn w a len) :
    Calls Tryz.prog 14 #[.slice a len cap, .int .i64 i] w fun e w' => ∃ x : Int, e = .returned (.int .i64 x) ∧ 0 ≤ x ∧ x ≤ 255 ∧ w = w' := by
  obtain ⟨k, rfl⟩ : ∃ k : Nat, i = k := ⟨i.toNat, by omega⟩
  by_cases hk : k < len
  · have hk2 : (k : Int) < (len : Int) := by omega
    rcases hd with h | ⟨b, off, rfl, hlt, hc⟩
    · omega
    · obtain ⟨x, hx, hcell⟩ := hc k hk
      clear hc
      go_enter Tryz.func14, Tryz.ntmps14
      go_wp2
      go_ret
      exact ⟨_, rfl, by omega, by omega, rfl⟩
  · have hk2 : ¬ (k : Int) < (len : Int) := by omega
    clear hd
    go_enter Tryz.func14, Tryz.ntmps14
    go_wp2
    go_ret
    exact ⟨_, rfl, by omega, by omega, rfl⟩
end Go.Proofs.YticgoodmfjjggaaGreatDoor

namespace Go.Proofs.YticgoodmfjjggaaGreatDoor
open Go.RowKit
set_option maxRecDepth 1000000
theorem data_of {w w4 : World} {a : Option Addr} {len : Nat} (hd : CodeIn w a len) (hb : Below w.heap.size w w4) : DataAt w4 (w.heap.size + 1) a len := by
  rcases hd with h | ⟨b, off, ha, hlt, hc⟩
  · exact .inl h
  · exact .inr ⟨b, off, ha, by omega, fun i hi => by
      obtain ⟨x, hx, hcell⟩ := hc i hi
      exact ⟨x, hx, (hb.cell (p := ⟨b, off + i, none⟩) hlt).trans hcell⟩⟩
theorem MidG.grown2 {w w3 w4 : World} {a : Option Addr} {len cap : Nat} {au : Option Addr} {cu : Nat} {l : List Int} (m : MidG w w3 a len cap au cu l) (hd : CodeIn w a len) {row : Option Nat} (hg : w3.grownBy w4 row) (N : Nat) (hN : w.heap.size + 2 ≤ N) (hrow : ∀ k, row = some k → N ≤ k) (hown : ∀ k, (Value.slice au l.length cu).ownBlock = some k → k < N) : MidG w w4 a len cap au cu l :=
  have hlt := m.lt
  have hb := m.bel.grown hg (by omega) (fun k hk => by have := hrow k hk; omega)
  ⟨m.cur.other (hg.block _ (by omega) (fun e => by have := hrow _ e.symm; omega)), data_of hd hb, (hg.block _ (by omega) (fun e => by have := hrow _ e.symm; omega)).trans m.res, m.own.kept hg (by
    cases hv : (Value.slice au l.length cu).ownBlock with
    | none => exact .inl rfl
    | some k => exact .inr fun e => by have h1 := hrow k e.symm; have h2 := hown k hv; omega), m.few, hb, Nat.le_trans m.lt hg.size⟩
end Go.Proofs.YticgoodmfjjggaaGreatDoor

namespace Go.Proofs.YticgoodmfjjggaaGreatDoor
open Go.RowKit
set_option maxRecDepth 1000000
theorem plc_len4 {l : List Int} (h : l.length ≤ 4) (x : Int) : (plc l x).length ≤ 4 := by
  unfold plc
  split
  · simpa using h
  · simp
theorem lit4_at (i : Nat) (h : i < 4) : ∃ z : Int, -9223372036854775808 ≤ z ∧ z ≤ 9223372036854775807 ∧ (#[.int .i64 (-1), .int .i64 1, .int .i64 12, .int .i64 99] : Array Value)[i]? = some (.int .i64 z) := by
  match i, h with
  | 0, _ => exact ⟨-1, by decide, by decide, rfl⟩
  | 1, _ => exact ⟨1, by decide, by decide, rfl⟩
  | 2, _ => exact ⟨12, by decide, by decide, rfl⟩
  | 3, _ => exact ⟨99, by decide, by decide, rfl⟩
/-- An owned row that is not empty lies in a block of its own. -/
theorem own_block {w : World} {B n : Nat} {v : Value} {xs : List Value} (h : w.ownsRow B 3 1 v n xs) (hn : 0 < n) : ∃ g cp, v = .slice (some ⟨g, 0, none⟩) n cp ∧ B ≤ g ∧ g < w.heap.size := by
  rcases h.2 with ⟨_, h2⟩ | ⟨g, cap, cur, hv, hb, hg, _⟩
  · omega
  · exact ⟨g, cap, hv, hb, (Array.getElem?_eq_some_iff.1 hg).1⟩
set_option maxHeartbeats 4000000 in
theorem dElem_any (w : World) (a : Option Addr) (len cap : Nat) (hlen : len ≤ 1048576) (hd : CodeIn w a len) :
    Calls Tryz.prog 28 #[.slice a len cap] w fun e w' => ∃ (u : Value) (l : List Int) (v : Value) (p : List Int), e = .returned (.tuple #[.agg #[u], v]) ∧ w'.ownsRow w.heap.size 3 1 v p.length (p.map (Value.int .i64)) ∧ p.length ≤ 4 ∧ DGrp w u l w' := by
  have HCI := Lib.hid hd
  have HN := Lib.hid (new_at w a len cap hlen hd)
  clear hd
  go_enter Tryz.func28, Tryz.ntmps28
  go_upto_region 3 with (first
    | (go_at_call 80; refine (l2Any_any _ _ a len cap hlen HC1.out HD1.out).mono ?_; rintro e w2 ⟨u, l, rfl, ho, hl, hcur, hg⟩; obtain ⟨au, cu, rfl, m2⟩ := mid_of HD1.out HB1.out HC1.out ho hl hcur hg; have M2 := Lib.hid m2; clear ho hl hcur hg m2; have M3 := Lib.hid (M2.out.alloc #[.slice au l.length cu] 26); have g3 := newC w2 (.slice au l.length cu) 26 (n := w2.heap.size) rfl; have G2 := Lib.hid M2.out.lt; have U2 := Lib.hid (fun k hk => (M2.out.own.lt k hk).2))
    | (go_at_call 79; refine HN.out.mono ?_; rintro e w1 ⟨rfl, hcur, hda, hbel⟩; have HC1 := Lib.hid hcur; have HD1 := Lib.hid hda; have HB1 := Lib.hid hbel; clear hcur hda hbel))
  have F3 := Lib.hid (l2Element_any _ _ a len cap l au l.length cu rfl (by have := M3.out.few; omega) M3.out.drew.ints M3.out.apart hlen M3.out.drew.cur M3.out.drew.dat)
  have hL4 := M2.out.few
  go_region_held3 (fun W => W.cell? ⟨w2.heap.size, 0, none⟩ = some (.slice au l.length cu)) (first | exact g5 | exact g4 | exact g3)
    (first
    | (go_at_call 33; refine (sPlaces _ au l _ cu x rfl (by omega) M4.out.ints).mono ?_; rintro e w5 ⟨v, rfl, ho, hb⟩; have M5 := Lib.hid (M4.out.below hb); have O5 := Lib.hid ho; have g5 := keepD hb g4; clear ho hb)
    | (go_at_call 88; refine F3.out.mono ?_; rintro e w4 ⟨x, rfl, hx0, hx1, hcur, hg⟩; have M4 := Lib.hid (M3.out.drew.grown hcur hg); have g4 := hg.cell g3 (by have := G2.out; simp; omega); have H4 : Hid (w2.heap.size + 1 ≤ w4.heap.size) := Lib.hid (by have := hg.size; simpa using this); clear hcur hg))
  all_goals
    have hPL := plc_len4 hL4 x
    have o5 := O5.out
    clear O5 F3
    generalize plc l x = P at o5 hPL
    by_cases h0 : 0 < P.length
    · obtain ⟨g, cp, rfl, hge, hgl⟩ := own_block o5 h0
      have O5 := Lib.hid o5
      clear o5
      have h1 : (0 : Int) < (P.length : Int) := by omega
      have hGC : Hid (some g ≠ some (w.heap.size + 1)) := Lib.hid (by have := H4.out; have := G2.out; simp; omega)
      go_wp2_with fail
      refine (once_any _ _ a len cap 6 hlen M5.out.cur M5.out.dat (by decide) (by decide)).mono ?_
      rintro e w6 ⟨c, rfl, hcur, hg⟩
      have M6 := Lib.hid (M5.out.grown hcur hg)
      have O6 := Lib.hid (O5.out.kept hg (.inr hGC.out))
      have g6 := hg.cell g5 (by have := G2.out; simp; omega)
      clear hcur hg
      cases c
      · have c7 := M6.out.cells.1
        have f7 := M6.out.cells.2
        have c8 := World.cell?_setCell_same w6 ⟨w.heap.size, 0, none⟩ (.slice au l.length cu) c7
        have HF := Lib.hid M6.out.finish
        have OP := Lib.hid (ownsRow_lower (base' := w.heap.size) (ownsRow_setCell_below (a := ⟨w.heap.size, 0, none⟩) O6.out (by have := H4.out; have := G2.out; show w.heap.size < _; omega) (.slice au l.length cu)) (by have := H4.out; have := G2.out; omega))
        go_wp2
        refine bodyPost_ret (v := .tuple #[.agg #[.slice au l.length cu], .slice (some ⟨g, 0, none⟩) P.length cp]) (by simp [results, Tryz.results28, go_sem, c8]) rfl ?_
        first | exact ⟨_, l, .slice (some ⟨g, 0, none⟩) P.length cp, rfl, P, OP.out, by omega, HF.out.1, M6.out.few, HF.out.2⟩ | exact ⟨_, l, .slice (some ⟨g, 0, none⟩) P.length cp, P, rfl, OP.out, by omega, HF.out.1, M6.out.few, HF.out.2⟩
      · have hg6 : w.heap.size + 1 < w6.heap.size := M6.out.cur.lt
        have M7 := Lib.hid (M6.out.alloc #[.int .i64 (-1), .int .i64 1, .int .i64 12, .int .i64 99] 3)
        have O7 := Lib.hid (O6.out.alloc (.cells #[.int .i64 (-1), .int .i64 1, .int .i64 12, .int .i64 99] 3))
        have g7 := (World.cell?_alloc_past (.cells #[.int .i64 (-1), .int .i64 1, .int .i64 12, .int .i64 99] 3) w2.heap.size 0 (World.block_lt_of_cell? w6 _ g6)).trans g6
        have F8 := Lib.hid (pick_any (w6.alloc (.cells #[.int .i64 (-1), .int .i64 1, .int .i64 12, .int .i64 99] 3)) (w.heap.size + 1) a len cap w6.heap.size 4 4 hlen M7.out.cur M7.out.dat (by omega) (by omega) (by omega) (fun i hi => by
          obtain ⟨z, hz0, hz1, hz⟩ := lit4_at i hi
          exact ⟨z, hz0, hz1, (World.cell?_alloc_at _ _ _ _ rfl).trans hz⟩))
        go_wp2_with fail
        refine F8.out.mono ?_
        rintro e w8 ⟨z, rfl, hz0, hz1, hcur, hg⟩
        have M8 := Lib.hid (M7.out.grown hcur hg)
        have O8 := Lib.hid (O7.out.kept hg (.inr hGC.out))
        have g8 := hg.cell g7 (by have := G2.out; simp; omega)
        have hfr := O8.out.frozenAt 0
        have hcell := O8.out.cellAt 0 (by simpa using h0)
        have hS := grownG_set (World.grownBy.refl w8 (some g)) 0 (.int .i64 z)
        have M9 := Lib.hid (M8.out.grown2 HCI.out hS w4.heap.size (by have := H4.out; have := G2.out; omega) (fun k hk => by cases hk; exact hge) (fun k hk => by have := U2.out k hk; have := H4.out; omega))
        have g9 := hS.cell g8 (by have := H4.out; simp; omega)
        have e9 : (P.set 0 z).length = P.length := by simp
        have O9 : Hid ((w8.setCell ⟨g, 0, none⟩ (.int .i64 z)).ownsRow w4.heap.size 3 1 (.slice (some ⟨g, 0, none⟩) P.length cp) (P.set 0 z).length ((P.set 0 z).map (Value.int .i64))) := Lib.hid (by
          have h := (O8.out.stored 0 (.int .i64 z)).1
          rw [e9, List.map_set]
          exact h)
        clear hcur hg hS g7 g6
        have c7 := M9.out.cells.1
        have f7 := M9.out.cells.2
        have c8 := World.cell?_setCell_same (w8.setCell ⟨g, 0, none⟩ (.int .i64 z)) ⟨w.heap.size, 0, none⟩ (.slice au l.length cu) c7
        have HF := Lib.hid M9.out.finish
        have OP := Lib.hid (ownsRow_lower (base' := w.heap.size) (ownsRow_setCell_below (a := ⟨w.heap.size, 0, none⟩) O9.out (by have := H4.out; have := G2.out; show w.heap.size < _; omega) (.slice au l.length cu)) (by have := H4.out; have := G2.out; omega))
        go_wp2
        refine bodyPost_ret (v := .tuple #[.agg #[.slice au l.length cu], .slice (some ⟨g, 0, none⟩) P.length cp]) (by simp [results, Tryz.results28, go_sem, c8]) rfl ?_
        first | exact ⟨_, l, .slice (some ⟨g, 0, none⟩) P.length cp, rfl, P.set 0 z, OP.out, by (rw [e9]; omega), HF.out.1, M9.out.few, HF.out.2⟩ | exact ⟨_, l, .slice (some ⟨g, 0, none⟩) P.length cp, P.set 0 z, rfl, OP.out, by (rw [e9]; omega), HF.out.1, M9.out.few, HF.out.2⟩
    · have O5 := Lib.hid o5
      obtain ⟨ap, cp, rfl⟩ := own_slice' rfl o5
      clear o5
      have h1 : ¬ (0 : Int) < (P.length : Int) := by omega
      have h2 : (P.length : Int) ≤ 0 := by omega
      have c7 := M5.out.cells.1
      have f7 := M5.out.cells.2
      have c8 := World.cell?_setCell_same w5 ⟨w.heap.size, 0, none⟩ (.slice au l.length cu) c7
      have HF := Lib.hid M5.out.finish
      have OP := Lib.hid (ownsRow_lower (base' := w.heap.size) (ownsRow_setCell_below (a := ⟨w.heap.size, 0, none⟩) O5.out (by have := H4.out; have := G2.out; show w.heap.size < _; omega) (.slice au l.length cu)) (by have := H4.out; have := G2.out; omega))
      go_wp2
      refine bodyPost_ret (v := .tuple #[.agg #[.slice au l.length cu], .slice ap P.length cp]) (by simp [results, Tryz.results28, go_sem, c8]) rfl ?_
      first | exact ⟨_, l, .slice ap P.length cp, rfl, P, OP.out, by omega, HF.out.1, M5.out.few, HF.out.2⟩ | exact ⟨_, l, .slice ap P.length cp, P, rfl, OP.out, by omega, HF.out.1, M5.out.few, HF.out.2⟩
end Go.Proofs.YticgoodmfjjggaaGreatDoor

namespace Go.Proofs.YticgoodmfjjggaaGreatDoor
open Go.RowKit
set_option maxRecDepth 1000000
set_option maxHeartbeats 4000000 in
theorem l2Draw_some (w : World) (C : Nat) (a : Option Addr) (len cap : Nat) (most : Int) (hlen : len ≤ 1048576) (hc : CurAt w C a len cap) (hd : DataAt w C a len) :
    Calls Tryz.prog 120 #[.pointer (some ⟨C, 0, none⟩), .int .i64 most] w fun e w' => ∃ (u : Value) (l : List Int), e = .returned (.agg #[u]) ∧ w'.ownsRow w.heap.size 3 1 u l.length (l.map (Value.int .i64)) ∧ l.length ≤ 3 ∧ CurAt w' C a len cap ∧ w.grownBy w' (some C) ∧ u ≠ .slice none 0 0 := by
  have HC := Lib.hid hc
  have HD := Lib.hid hd
  have hCw : C < w.heap.size := hc.lt
  have HG0 := Lib.hid (grownG_trans (World.grownBy_alloc w (.cells #[.slice none 0 0] 26) (some C)) (push_grown (w.alloc (.cells #[.slice none 0 0] 26)) (drawObjs (w.heap.size + 1)) (some C)))
  have HG0n := Lib.hid (grownG_trans (World.grownBy_alloc w (.cells #[.slice none 0 0] 26) none) (push_grown (w.alloc (.cells #[.slice none 0 0] 26)) (drawObjs (w.heap.size + 1)) none))
  have HSZ := Lib.hid (push_size (w.alloc (.cells #[.slice none 0 0] 26)) (drawObjs (w.heap.size + 1)))
  have HR0 : Hid ((pushAll (w.alloc (.cells #[.slice none 0 0] 26)) (drawObjs (w.heap.size + 1))).heap[w.heap.size]? = some (.cells #[.slice none 0 0] 26 (0, 0))) := Lib.hid (((push_grown (w.alloc (.cells #[.slice none 0 0] 26)) (drawObjs (w.heap.size + 1)) none).block w.heap.size (by simp) (by simp)).trans (heap_alloc_new w _))
  have HAT : Hid (∀ j o, (drawObjs (w.heap.size + 1))[j]? = some o → (pushAll (w.alloc (.cells #[.slice none 0 0] 26)) (drawObjs (w.heap.size + 1))).heap[w.heap.size + 1 + j]? = some o) := Lib.hid (fun j o h => by have := push_at (w.alloc (.cells #[.slice none 0 0] 26)) (drawObjs (w.heap.size + 1)) j o h; simpa using this)
  clear hc hd
  obtain ⟨i0, hi0, hz0, hz1, hz2⟩ := info_parts intInfo
  go_enter Tryz.func120, Tryz.ntmps120
  go_upto_region 2 with (fail)
  change Code.wp Tryz.prog _ _ _ (pushAll (w.alloc (.cells #[.slice none 0 0] 26)) (drawObjs (w.heap.size + 1)))
  generalize pushAll (w.alloc (.cells #[.slice none 0 0] 26)) (drawObjs (w.heap.size + 1)) = W at *
  have HCW := Lib.hid (HC.out.other (HG0n.out.block C hCw (by simp)))
  have HDW := Lib.hid (HD.out.grown HG0.out)
  have HBS := Lib.hid (below_small W C a len cap 23 hlen HCW.out HDW.out (by decide) (by decide))
  have HO : Hid (W.heap[w.heap.size + 1 + 1 + 1 + 1 + 1 + 1 + 1 + 1 + 1 + 1 + 1 + 1 + 1 + 1 + 1 + 1 + 1 + 1 + 1 + 1 + 1 + 1 + 1 + 1]? = some (.cells (((List.range 23).map fun j => Value.slice (some ⟨w.heap.size + 1 + j, 0, none⟩) (drawOL.getD j []).length (drawOL.getD j []).length)).toArray 24 (0, 0))) := Lib.hid (HAT.out 23 _ (draw_outer _))
  go_upto_region 3 with (first
    | (go_at_call 81; refine HBS.out.mono ?_; rintro e w3 ⟨x, rfl, hx0, hx1, hcur, hg⟩; obtain ⟨j, rfl⟩ : ∃ j : Nat, x = j := ⟨x.toNat, by omega⟩; have hj : j < 23 := (by omega); have rc := hg.cell (draw_cell HO.out hj) (fun e => by simp at e; omega); have HI := Lib.hid (draw_ints (HAT.out j _ (draw_obj _ j hj))); have hs3 := draw_short j hj; have HCU := Lib.hid hcur; have HG3 := Lib.hid hg))
  have hjW : w.heap.size + 1 + j < W.heap.size := by have := HSZ.out; simp [drawObjs, drawOL] at this; omega
  clear HAT HBS HDW HCW HSZ
  have hlE : drawOL.getD j [] = drawOL[j]?.getD [] := by simp [List.getD_eq_getElem?_getD]
  rw [hlE] at HI hs3
  clear hlE HO
  generalize drawOL[j]?.getD [] = l at *
  have HI3 : Hid (Ints w3 (some ⟨w.heap.size + 1 + j, 0, none⟩) l) := Lib.hid (ints_grown HI.out HG3.out (by simp; omega))
  have hsz3 : w.heap.size < w3.heap.size := by have := HG3.out.size; omega
  have R3 : Hid (w3.heap[w.heap.size]? = some (.cells #[.slice none 0 0] 26 (0, 0))) := Lib.hid ((HG3.out.block _ (by omega) (by simp; omega)).trans HR0.out)
  have HW3 := Lib.hid (grownC_trans HG0.out HG3.out)
  clear hcur hg rc HI HG3 HG0 HG0n HR0 hjW
  go_wp2
  go_loop [7, 8] (fun n i => ∃ (k : Nat) (q : Int), k ≤ l.length ∧ i = .int .i64 k ∧ n = .int .i64 q) (fun _ i => l.length - (intOf i).toNat)
  case atStart => exact ⟨0, _, Nat.zero_le _, rfl, rfl⟩
  case round =>
    obtain ⟨k, q, hk, rfl, rfl⟩ := hrel
    by_cases hlt : k < l.length
    · have hcell := ints_lt HI3.out hlt
      go_wp2
      go_round
      case rel => exact ⟨k + 1, _, by omega, by go_num, rfl⟩
      case measure => simp [intOf]; omega
    · by_cases hq : q > most
      · obtain ⟨c1, f1⟩ := one_cell R3.out
        have f1' : (w3.alloc (.cells #[.int .i64 5] 3)).frozen? ⟨w.heap.size, 0, none⟩ = false := (frozen?_alloc_cells _ _ _ _).trans f1
        have c1' : (w3.alloc (.cells #[.int .i64 5] 3)).cell? ⟨w.heap.size, 0, none⟩ = some (.slice none 0 0) := (World.cell?_alloc_past _ _ _ hsz3).trans c1
        have hC3 : C < w3.heap.size := by omega
        have E := Lib.hid (group_end hCw HCU.out hC3 HW3.out hsz3 (World.grownBy_alloc w3 (.cells #[.int .i64 5] 3) none) (World.ownsRow_lit w3 #[.int .i64 5] 1 (Nat.le_refl _) (by decide) rfl))
        rw [World.setCell_alloc_past (.cells #[.int .i64 5] 3) w.heap.size 0 (.slice (some ⟨w3.heap.size, 0, none⟩) 1 1) hsz3] at E
        have c2 : ((w3.setCell ⟨w.heap.size, 0, none⟩ (.slice (some ⟨w3.heap.size, 0, none⟩) 1 1)).alloc (.cells #[.int .i64 5] 3)).cell? ⟨w.heap.size, 0, none⟩ = some (.slice (some ⟨w3.heap.size, 0, none⟩) 1 1) := (World.cell?_alloc_past _ _ _ (by simpa using hsz3)).trans (World.cell?_setCell_same _ _ _ c1)
        go_wp2
        refine bodyPost_ret (v := .agg #[.slice (some ⟨w3.heap.size, 0, none⟩) 1 1]) (by simp [results, Tryz.results120, go_sem, c2]) rfl ?_
        exact ⟨_, rfl, [5], E.out.1, by decide, E.out.2.1, E.out.2.2, by simp⟩
      · obtain ⟨c1, f1⟩ := one_cell R3.out
        have hC3 : C < w3.heap.size := by omega
        have HW4 := Lib.hid (World.grownBy_alloc w3 (.cells #[] 3) none)
        have HO4 := Lib.hid (World.ownsRow_lit (e := 3) (size := 1) w3 #[] 0 (Nat.le_refl _) (by decide) rfl)
        have HJ : Hid (w.heap.size + 1 + j < w3.heap.size ∨ l = []) := Lib.hid (by rcases HI3.out with h | ⟨b, off, ha, hb, _⟩; exact .inr h; injection ha with ha; injection ha with e1 _ _; subst e1; exact .inl hb)
        go_wp2_with (at_builtin; refine wpList_append_own _ rfl _ _ 24 rfl w3.heap.size 3 i0 (.int .i64 0) 1 8 Tryz.underlying24 hi0 hz0 hz1 hz2 rfl (by decide) _ _ _ rfl HO4.out ⟨w.heap.size + 1 + j, 0, none⟩ l.length l.length (l.map (Value.int .i64)) rfl (by simp) ?c1 ?c2 ?c3 ?c4 ?c5 ?_)
        case c1 =>
          intro k z hz
          have hk := (List.getElem?_eq_some_iff.1 hz).1
          have hcell := ints_lt HI3.out hk
          have hv : l.getD k 0 = z := by simp [List.getD, hz]
          rw [hv] at hcell
          have hb : w.heap.size + 1 + j < w3.heap.size := by
            rcases HJ.out with h | h
            · exact h
            · subst h; simp at hk
          exact (World.cell?_alloc_past _ _ _ hb).trans hcell
        case c2 => intro z _; rfl
        case c3 => unfold maxLen; omega
        case c4 => omega
        intro v' w' hown hgrow hnn
        have HNE := Lib.hid (show v' ≠ .slice none 0 0 from hnn)
        clear hnn
        have hgr : w3.grownBy w' none := ⟨hgrow.os.trans HW4.out.os, hgrow.tape.trans HW4.out.tape, hgrow.output.trans HW4.out.output, Nat.le_trans HW4.out.size hgrow.size, fun b hb hn => (hgrow.block b (Nat.lt_of_lt_of_le hb HW4.out.size) (by intro e; simp [Value.ownBlock] at e; omega)).trans (HW4.out.block b hb hn)⟩
        obtain ⟨cg, fg⟩ := one_cell ((hgr.block _ hsz3 (by simp)).trans R3.out)
        obtain ⟨ao, n', cap', rfl⟩ : ∃ ao n' cap', v' = .slice ao n' cap' := by
          rcases hown.2 with ⟨h, _⟩ | ⟨g, cap, cur, h, _⟩
          · exact ⟨_, _, _, h⟩
          · exact ⟨_, _, _, h⟩
        have E := Lib.hid (group_end hCw HCU.out hC3 HW3.out hsz3 hgr hown)
        have c2 := World.cell?_setCell_same w' ⟨w.heap.size, 0, none⟩ (.slice ao n' cap') cg
        clear hown hgrow hgr
        go_wp2
        refine bodyPost_ret (v := .agg #[.slice ao n' cap']) (by simp [results, Tryz.results120, go_sem, c2]) rfl ?_
        exact ⟨_, l, rfl, E.out.1, by omega, E.out.2.1, E.out.2.2, HNE.out⟩
set_option maxHeartbeats 4000000 in
theorem l2Any_some (w : World) (C : Nat) (a : Option Addr) (len cap : Nat) (hlen : len ≤ 1048576) (hc : CurAt w C a len cap) (hd : DataAt w C a len) :
    Calls Tryz.prog 80 #[.pointer (some ⟨C, 0, none⟩)] w fun e w' => ∃ (u : Value) (l : List Int), e = .returned (.agg #[u]) ∧ w'.ownsRow w.heap.size 3 1 u l.length (l.map (Value.int .i64)) ∧ l.length ≤ 4 ∧ CurAt w' C a len cap ∧ w.grownBy w' (some C) ∧ u ≠ .slice none 0 0 := by
  have HC := Lib.hid hc
  have HD := Lib.hid hd
  have hCw : C < w.heap.size := hc.lt
  have HG0 := Lib.hid (World.grownBy_alloc w (.cells #[.slice none 0 0] 26) (some C))
  have HCA := Lib.hid (HC.out.other ((World.grownBy_alloc w (.cells #[.slice none 0 0] 26) none).block C hCw (by simp)))
  have HDA := Lib.hid (HD.out.grown HG0.out)
  have HDR := Lib.hid (l2Draw_some (w.alloc (.cells #[.slice none 0 0] 26)) C a len cap 24 hlen HCA.out HDA.out)
  have R0 : Hid ((w.alloc (.cells #[.slice none 0 0] 26)).heap[w.heap.size]? = some (.cells #[.slice none 0 0] 26 (0, 0))) := Lib.hid (heap_alloc_new w _)
  clear hc hd
  go_enter Tryz.func80, Tryz.ntmps80
  go_wp2_with (go_at_call 120; refine HDR.out.mono ?_; rintro e w1 ⟨u, l, rfl, ho1, hl1, hcur1, hg1, hn1⟩; have HNE := Lib.hid hn1; clear hn1; obtain ⟨ao, n', cap', rfl⟩ := own_form ho1; have hC1 : C < w1.heap.size := (by have := hg1.size; simp at this; omega))
  refine (below_small _ C a len cap 16 hlen (hcur1.other ((World.grownBy_alloc w1 _ none).block C hC1 (by simp))) (HD.out.grown (grownC_trans (grownC_trans HG0.out hg1) (World.grownBy_alloc w1 _ _))) (by decide) (by decide)).mono ?_
  rintro e w3 ⟨x, rfl, hx0, hx1, hcur, hg⟩
  obtain ⟨ho3, hG3, hR3, c3, hsz3⟩ := any_mid hCw HG0.out R0.out ho1 hg1 hg
  obtain ⟨c1, f1⟩ := one_cell hR3
  have hC3 : C < w3.heap.size := by omega
  have HCU := Lib.hid hcur
  have HW3 := Lib.hid hG3
  have HO3 := Lib.hid ho3
  have R3 := Lib.hid hR3
  have HD3 := Lib.hid (HD.out.grown hG3)
  clear hcur hg hg1 hcur1 ho1 ho3 hG3 hR3 HDR HCA HDA HG0 R0
  by_cases h0 : x = 0
  · subst h0
    go_wp2_with (fail)
    refine (pick_any _ C a len cap w3.heap.size 5 5 hlen ?h1 ?h2 (by omega) (by omega) ?h3 ?h4).mono ?_
    case h1 => exact HCU.out.other (heap_alloc_old w3 _ hC3)
    case h2 => exact HD3.out.grown (World.grownBy_alloc w3 _ _)
    case h3 => omega
    case h4 =>
      intro i hi
      have : ∃ z : Int, -9223372036854775808 ≤ z ∧ z ≤ 9223372036854775807 ∧ (#[.int .i64 0, .int .i64 1, .int .i64 (-1), .int .i64 25, .int .i64 9223372036854775807] : Array Value)[i]? = some (.int .i64 z) := by
        match i, hi with
        | 0, _ => exact ⟨0, by decide, by decide, rfl⟩
        | 1, _ => exact ⟨1, by decide, by decide, rfl⟩
        | 2, _ => exact ⟨-1, by decide, by decide, rfl⟩
        | 3, _ => exact ⟨25, by decide, by decide, rfl⟩
        | 4, _ => exact ⟨9223372036854775807, by decide, by decide, rfl⟩
      obtain ⟨z, hz0, hz1, hz⟩ := this
      exact ⟨z, hz0, hz1, (World.cell?_alloc_at _ _ _ _ rfl).trans hz⟩
    rintro e w4 ⟨z, rfl, hz0, hz1, hcur4, hg4⟩
    have hs4 : w3.heap.size + 1 ≤ w4.heap.size := by simpa using hg4.size
    have hsz4 : w.heap.size < w4.heap.size := by omega
    have HW4 := grownC_trans (grownC_trans HW3.out (World.grownBy_alloc w3 _ _)) hg4
    obtain ⟨c4, f4⟩ := one_cell ((hg4.block _ (by simp; omega) (by simp; omega)).trans ((heap_alloc_old w3 _ hsz3).trans R3.out))
    have E := Lib.hid (group_end hCw hcur4 (by omega) HW4 hsz4 (World.grownBy_alloc w4 (.cells #[.int .i64 z] 3) none) (World.ownsRow_lit w4 #[.int .i64 z] 1 (Nat.le_refl _) (by decide) rfl))
    have c4' : (w4.alloc (.cells #[.int .i64 z] 3)).cell? ⟨w.heap.size, 0, none⟩ = some (.slice none 0 0) := (World.cell?_alloc_past _ _ _ hsz4).trans c4
    have f4' : (w4.alloc (.cells #[.int .i64 z] 3)).frozen? ⟨w.heap.size, 0, none⟩ = false := (frozen?_alloc_cells _ _ _ _).trans f4
    rw [World.setCell_alloc_past (.cells #[.int .i64 z] 3) w.heap.size 0 (.slice (some ⟨w4.heap.size, 0, none⟩) 1 1) hsz4] at E
    have c2 : ((w4.setCell ⟨w.heap.size, 0, none⟩ (.slice (some ⟨w4.heap.size, 0, none⟩) 1 1)).alloc (.cells #[.int .i64 z] 3)).cell? ⟨w.heap.size, 0, none⟩ = some (.slice (some ⟨w4.heap.size, 0, none⟩) 1 1) := (World.cell?_alloc_past _ _ _ (by simpa using hsz4)).trans (World.cell?_setCell_same _ _ _ c4)
    clear HW4 hg4 hcur4 c3 c1 f1
    go_wp2
    refine bodyPost_ret (v := .agg #[.slice (some ⟨w4.heap.size, 0, none⟩) 1 1]) (by simp [results, Tryz.results80, go_sem, c2]) rfl ?_
    exact ⟨_, [z], rfl, E.out.1, by simp, E.out.2.1, E.out.2.2, by simp⟩
  · have e0 : (x == 0) = false := by simpa using h0
    by_cases h1 : x = 1
    · subst h1
      have E := Lib.hid (group_end hCw HCU.out hC3 HW3.out hsz3 (World.grownBy_alloc w3 (.cells #[.int .i64 2, .int .i64 2, .int .i64 2, .int .i64 2] 3) none) (World.ownsRow_lit w3 #[.int .i64 2, .int .i64 2, .int .i64 2, .int .i64 2] 4 (Nat.le_refl _) (by decide) rfl))
      have c1' : (w3.alloc (.cells #[.int .i64 2, .int .i64 2, .int .i64 2, .int .i64 2] 3)).cell? ⟨w.heap.size, 0, none⟩ = some (.slice none 0 0) := (World.cell?_alloc_past _ _ _ hsz3).trans c1
      have f1' : (w3.alloc (.cells #[.int .i64 2, .int .i64 2, .int .i64 2, .int .i64 2] 3)).frozen? ⟨w.heap.size, 0, none⟩ = false := (frozen?_alloc_cells _ _ _ _).trans f1
      rw [World.setCell_alloc_past (.cells #[.int .i64 2, .int .i64 2, .int .i64 2, .int .i64 2] 3) w.heap.size 0 (.slice (some ⟨w3.heap.size, 0, none⟩) 4 4) hsz3] at E
      have c2 : ((w3.setCell ⟨w.heap.size, 0, none⟩ (.slice (some ⟨w3.heap.size, 0, none⟩) 4 4)).alloc (.cells #[.int .i64 2, .int .i64 2, .int .i64 2, .int .i64 2] 3)).cell? ⟨w.heap.size, 0, none⟩ = some (.slice (some ⟨w3.heap.size, 0, none⟩) 4 4) := (World.cell?_alloc_past _ _ _ (by simpa using hsz3)).trans (World.cell?_setCell_same _ _ _ c1)
      go_wp2
      refine bodyPost_ret (v := .agg #[.slice (some ⟨w3.heap.size, 0, none⟩) 4 4]) (by simp [results, Tryz.results80, go_sem, c2]) rfl ?_
      exact ⟨_, [2, 2, 2, 2], rfl, E.out.1, by decide, E.out.2.1, E.out.2.2, by simp⟩
    · have e1 : (x == 1) = false := by simpa using h1
      by_cases h2 : x = 2
      · subst h2
        have E := Lib.hid (group_end hCw HCU.out hC3 HW3.out hsz3 (World.grownBy_alloc w3 (.cells #[.int .i64 5, .int .i64 5] 3) none) (World.ownsRow_lit w3 #[.int .i64 5, .int .i64 5] 2 (Nat.le_refl _) (by decide) rfl))
        have c1' : (w3.alloc (.cells #[.int .i64 5, .int .i64 5] 3)).cell? ⟨w.heap.size, 0, none⟩ = some (.slice none 0 0) := (World.cell?_alloc_past _ _ _ hsz3).trans c1
        have f1' : (w3.alloc (.cells #[.int .i64 5, .int .i64 5] 3)).frozen? ⟨w.heap.size, 0, none⟩ = false := (frozen?_alloc_cells _ _ _ _).trans f1
        rw [World.setCell_alloc_past (.cells #[.int .i64 5, .int .i64 5] 3) w.heap.size 0 (.slice (some ⟨w3.heap.size, 0, none⟩) 2 2) hsz3] at E
        have c2 : ((w3.setCell ⟨w.heap.size, 0, none⟩ (.slice (some ⟨w3.heap.size, 0, none⟩) 2 2)).alloc (.cells #[.int .i64 5, .int .i64 5] 3)).cell? ⟨w.heap.size, 0, none⟩ = some (.slice (some ⟨w3.heap.size, 0, none⟩) 2 2) := (World.cell?_alloc_past _ _ _ (by simpa using hsz3)).trans (World.cell?_setCell_same _ _ _ c1)
        go_wp2
        refine bodyPost_ret (v := .agg #[.slice (some ⟨w3.heap.size, 0, none⟩) 2 2]) (by simp [results, Tryz.results80, go_sem, c2]) rfl ?_
        exact ⟨_, [5, 5], rfl, E.out.1, by decide, E.out.2.1, E.out.2.2, by simp⟩
      · have e2 : (x == 2) = false := by simpa using h2
        have E := Lib.hid (group_end2 hCw HCU.out hC3 HW3.out (Nat.lt_succ_self _) ⟨rfl, rfl, rfl, Nat.le_refl _, fun _ _ _ => rfl⟩ HO3.out)
        have c2 := World.cell?_setCell_same w3 ⟨w.heap.size, 0, none⟩ (.slice ao n' cap') c1
        go_wp2
        refine bodyPost_ret (v := .agg #[.slice ao n' cap']) (by simp [results, Tryz.results80, go_sem, c2]) rfl ?_
        exact ⟨_, l, rfl, E.out.1, by omega, E.out.2.1, E.out.2.2, HNE.out⟩
end Go.Proofs.YticgoodmfjjggaaGreatDoor

namespace Go.Proofs.YticgoodmfjjggaaGreatDoor
open Go.RowKit
set_option maxRecDepth 1000000
/-- Two results' variables in blocks w.heap.size and the next one, the cursor behind them, the drawn group's row above. -/
structure Mid2 (w w3 : World) (a : Option Addr) (len cap : Nat) (au : Option Addr) (cu : Nat) (l : List Int) : Prop where
  cur : CurAt w3 (w.heap.size + 2) a len cap
  dat : DataAt w3 (w.heap.size + 2) a len
  r1 : w3.heap[w.heap.size]? = some (.cells #[.slice none 0 0] 26 (0, 0))
  r2 : w3.heap[w.heap.size + 1]? = some (.cells #[.slice none 0 0] 26 (0, 0))
  own : w3.ownsRow (w.heap.size + 3) 3 1 (.slice au l.length cu) l.length (l.map (Value.int .i64))
  few : l.length ≤ 4
  bel : Below w.heap.size w w3
  lt : w.heap.size + 3 ≤ w3.heap.size
theorem Mid2.grown {w w3 w4 : World} {a : Option Addr} {len cap : Nat} {au : Option Addr} {cu : Nat} {l : List Int} (m : Mid2 w w3 a len cap au cu l) (hc : CurAt w4 (w.heap.size + 2) a len cap) (hg : w3.grownBy w4 (some (w.heap.size + 2))) : Mid2 w w4 a len cap au cu l :=
  have hlt := m.lt
  ⟨hc, m.dat.grown hg, (hg.block _ (by omega) (by simp)).trans m.r1, (hg.block _ (by omega) (by simp)).trans m.r2, m.own.kept hg (.inr fun e => by have := (m.own.lt _ e).1; omega), m.few, m.bel.grown hg (by omega) (fun k hk => by cases hk; omega), Nat.le_trans m.lt hg.size⟩
theorem Mid2.below {w w3 w4 : World} {a : Option Addr} {len cap : Nat} {au : Option Addr} {cu : Nat} {l : List Int} (m : Mid2 w w3 a len cap au cu l) (hb : Below w3.heap.size w3 w4) : Mid2 w w4 a len cap au cu l :=
  m.grown (m.cur.other (hb.block _ (by have := m.lt; omega))) (below_grown hb _)
theorem Mid2.drew {w w3 : World} {a : Option Addr} {len cap : Nat} {au : Option Addr} {cu : Nat} {l : List Int} (m : Mid2 w w3 a len cap au cu l) : Mid2 w w3.drew a len cap au cu l :=
  m.grown m.cur ⟨rfl, rfl, rfl, Nat.le_refl _, fun _ _ _ => rfl⟩
theorem Mid2.alloc {w w3 : World} {a : Option Addr} {len cap : Nat} {au : Option Addr} {cu : Nat} {l : List Int} (m : Mid2 w w3 a len cap au cu l) (c : Array Value) (t : TypeId) : Mid2 w (w3.alloc (.cells c t)) a len cap au cu l :=
  m.below (Joins.below_alloc1 _ _)
theorem Mid2.ints {w w3 : World} {a : Option Addr} {len cap : Nat} {au : Option Addr} {cu : Nat} {l : List Int} (m : Mid2 w w3 a len cap au cu l) : Ints w3 au l := own_ints' rfl m.own
/-- Both results stored. -/
theorem fin2 {w w3 : World} {u v : Value} {l p : List Int} (hb : Below w.heap.size w w3) (hu : w3.ownsRow (w.heap.size + 3) 3 1 u l.length (l.map (Value.int .i64))) (hv : w3.ownsRow (w.heap.size + 3) 3 1 v p.length (p.map (Value.int .i64))) :
    ((w3.setCell ⟨w.heap.size, 0, none⟩ u).setCell ⟨w.heap.size + 1, 0, none⟩ v).ownsRow w.heap.size 3 1 v p.length (p.map (Value.int .i64)) ∧ DGrp w u l ((w3.setCell ⟨w.heap.size, 0, none⟩ u).setCell ⟨w.heap.size + 1, 0, none⟩ v) ∨ ¬ l.length ≤ 4 := by
  by_cases hl : l.length ≤ 4
  · refine .inl ⟨ownsRow_lower (ownsRow_setCell_below (a := ⟨w.heap.size + 1, 0, none⟩) (ownsRow_setCell_below (a := ⟨w.heap.size, 0, none⟩) hv (by show w.heap.size < _; omega) u) (by show w.heap.size + 1 < _; omega) v) (by omega),
      ownsRow_lower (ownsRow_setCell_below (a := ⟨w.heap.size + 1, 0, none⟩) (ownsRow_setCell_below (a := ⟨w.heap.size, 0, none⟩) hu (by show w.heap.size < _; omega) u) (by show w.heap.size + 1 < _; omega) v) (by omega), hl, below_newset (below_newset hb (Nat.le_refl _) _) (by omega) _⟩
  · exact .inr hl
/-- The cells of two results, before and behind the stores. -/
theorem cells2 {w w3 : World} {u v : Value} (r1 : w3.heap[w.heap.size]? = some (.cells #[.slice none 0 0] 26 (0, 0))) (r2 : w3.heap[w.heap.size + 1]? = some (.cells #[.slice none 0 0] 26 (0, 0))) :
    w3.cell? ⟨w.heap.size, 0, none⟩ = some (.slice none 0 0) ∧ w3.frozen? ⟨w.heap.size, 0, none⟩ = false ∧ (w3.setCell ⟨w.heap.size, 0, none⟩ u).cell? ⟨w.heap.size + 1, 0, none⟩ = some (.slice none 0 0) ∧ w3.frozen? ⟨w.heap.size + 1, 0, none⟩ = false ∧
    ((w3.setCell ⟨w.heap.size, 0, none⟩ u).setCell ⟨w.heap.size + 1, 0, none⟩ v).cell? ⟨w.heap.size, 0, none⟩ = some u ∧ ((w3.setCell ⟨w.heap.size, 0, none⟩ u).setCell ⟨w.heap.size + 1, 0, none⟩ v).cell? ⟨w.heap.size + 1, 0, none⟩ = some v := by
  obtain ⟨c1, f1⟩ := one_cell r1
  obtain ⟨c2, f2⟩ := one_cell r2
  have d2 : (w3.setCell ⟨w.heap.size, 0, none⟩ u).cell? ⟨w.heap.size + 1, 0, none⟩ = some (.slice none 0 0) := (World.cell?_setCell_far w3 ⟨w.heap.size, 0, none⟩ ⟨w.heap.size + 1, 0, none⟩ u (by show w.heap.size ≠ w.heap.size + 1; omega)).trans c2
  exact ⟨c1, f1, d2, f2, (World.cell?_setCell_far _ ⟨w.heap.size + 1, 0, none⟩ ⟨w.heap.size, 0, none⟩ v (by show w.heap.size + 1 ≠ w.heap.size; omega)).trans (World.cell?_setCell_same _ _ _ c1), World.cell?_setCell_same _ _ _ d2⟩
theorem new2_at (w : World) (a : Option Addr) (len cap : Nat) (hlen : len ≤ 1048576) (hd : CodeIn w a len) :
    Calls Tryz.prog 79 #[.slice a len cap] ((w.alloc nilG).alloc nilG) fun e w1 => e = .returned (.pointer (some ⟨w.heap.size + 2, 0, none⟩)) ∧ CurAt w1 (w.heap.size + 2) a len cap ∧ DataAt w1 (w.heap.size + 2) a len ∧ Below (w.heap.size + 2) ((w.alloc nilG).alloc nilG) w1 := by
  have h := new_at (w.alloc nilG) a len cap hlen (hd.below (Joins.below_alloc1 w nilG))
  have e : (w.alloc nilG).heap.size + 1 = w.heap.size + 2 := by simp
  rw [e] at h
  exact h
theorem mid2_of {w w1 w2 : World} {a : Option Addr} {len cap : Nat} {u : Value} {l : List Int} (hd : DataAt w1 (w.heap.size + 2) a len) (hb : Below (w.heap.size + 2) ((w.alloc nilG).alloc nilG) w1) (hc1 : CurAt w1 (w.heap.size + 2) a len cap)
    (ho : w2.ownsRow w1.heap.size 3 1 u l.length (l.map (Value.int .i64))) (hl : l.length ≤ 4) (hc : CurAt w2 (w.heap.size + 2) a len cap) (hg : w1.grownBy w2 (some (w.heap.size + 2))) :
    ∃ au cu, u = .slice au l.length cu ∧ Mid2 w w2 a len cap au cu l := by
  obtain ⟨au, cu, rfl⟩ := own_slice' rfl ho
  have h1 := hc1.lt
  have h2 := hg.size
  have hb0 : Below w.heap.size w w1 := (Joins.below_alloc2 w nilG nilG).trans (hb.mono (by omega))
  refine ⟨au, cu, rfl, hc, hd.grown hg, ?_, ?_, ownsRow_lower ho (by omega), hl, hb0.grown hg (by omega) (fun k hk => by cases hk; omega), by omega⟩
  · rw [hg.block _ (by omega) (by simp), hb.block _ (by omega), heap_alloc_old (w.alloc nilG) nilG (by simp)]
    exact heap_alloc_new w nilG
  · rw [hg.block _ (by omega) (by simp), hb.block _ (by omega)]
    have := heap_alloc_new (w.alloc nilG) nilG
    simpa using this
/-- What stands when the group's row has been copied. -/
theorem app_end {w w4 w5 : World} {a : Option Addr} {len cap g cu : Nat} {l : List Int} {v5 : Value} (m : Mid2 w w4 a len cap (some ⟨g, 0, none⟩) cu l) (hown : w5.ownsRow w4.heap.size 3 1 v5 (0 + l.length) ([] ++ l.map (Value.int .i64)))
    (hgrow : ((w4.alloc (.cells #[] 3)).drew).grownBy w5 (some w4.heap.size)) :
    ∃ av cv, v5 = .slice av l.length cv ∧ Mid2 w w5 a len cap (some ⟨g, 0, none⟩) cu l ∧ w5.ownsRow (w.heap.size + 3) 3 1 v5 l.length (l.map (Value.int .i64)) ∧ Below w4.heap.size w4 w5 := by
  rw [Nat.zero_add, List.nil_append] at hown
  obtain ⟨av, cv, rfl⟩ := own_slice' rfl hown
  have hb : Below w4.heap.size w4 w5 := by
    refine ⟨hgrow.os, hgrow.tape, hgrow.output, Nat.le_trans (by simp) hgrow.size, fun k hk => ?_⟩
    rw [hgrow.block k (by simp; omega) (by simp; omega)]
    exact heap_alloc_old w4 _ hk
  exact ⟨av, cv, rfl, m.below hb, ownsRow_lower hown (by have := m.lt; omega), hb⟩
set_option maxHeartbeats 4000000 in
theorem dEqG_any (w : World) (a : Option Addr) (len cap : Nat) (hlen : len ≤ 1048576) (hd : CodeIn w a len) :
    Calls Tryz.prog 31 #[.slice a len cap] w fun e w' => ∃ (u : Value) (l : List Int) (v : Value) (p : List Int), e = .returned (.tuple #[.agg #[u], .agg #[v]]) ∧ w'.ownsRow w.heap.size 3 1 v p.length (p.map (Value.int .i64)) ∧ p.length ≤ 4 ∧ DGrp w u l w' := by
  obtain ⟨i0, hi0, hz0, hz1, hz2⟩ := info_parts intInfo
  have HN := Lib.hid (new2_at w a len cap hlen hd)
  clear hd
  go_enter Tryz.func31, Tryz.ntmps31
  go_upto_region 3 with (first
    | (go_at_call 80; refine (l2Any_some _ _ a len cap hlen HC1.out HD1.out).mono ?_; rintro e w2 ⟨u, l, rfl, ho, hl, hcur, hg, hne⟩; obtain ⟨au, cu, rfl, m2⟩ := mid2_of HD1.out HB1.out HC1.out ho hl hcur hg; have M2 := Lib.hid m2; have NE := Lib.hid hne; clear ho hl hcur hg m2 hne; have M3 := Lib.hid (M2.out.alloc #[.slice au l.length cu] 26); have g3 := newC w2 (.slice au l.length cu) 26 (n := w2.heap.size) rfl; have G2 := Lib.hid M2.out.lt)
    | (go_at_call 79; refine HN.out.mono ?_; rintro e w1 ⟨rfl, hcur, hda, hbel⟩; have HC1 := Lib.hid hcur; have HD1 := Lib.hid hda; have HB1 := Lib.hid hbel; clear hcur hda hbel))
  go_wp2_with fail
  refine (once_any _ _ a len cap 2 hlen M3.out.cur M3.out.dat (by decide) (by decide)).mono ?_
  rintro e w4 ⟨c, rfl, hcur, hg⟩
  have M4 := Lib.hid (M3.out.grown hcur hg)
  have g4 := hg.cell g3 (by have := G2.out; simp; omega)
  have hs4 : w2.heap.size < w4.heap.size := by have := hg.size; simp at this; omega
  clear hcur hg
  cases c
  · have F5 := Lib.hid (l2Any_any w4.drew _ a len cap hlen M4.out.drew.cur M4.out.drew.dat)
    go_wp2_with fail
    go_region_with (go_at_call 80; refine F5.out.mono ?_; rintro e w5 ⟨v, p, rfl, hov, hp4, hcur, hg⟩; have M5 := Lib.hid (M4.out.drew.grown hcur hg); have g5 := hg.cell g4 (by have := G2.out; simp; omega); have OV := Lib.hid (ownsRow_lower (base' := w.heap.size + 3) hov (by have := M4.out.lt; show _ ≤ w4.heap.size; omega)); obtain ⟨av, cv, rfl⟩ := own_slice' rfl hov; clear hcur hg hov; obtain ⟨k1, k2, k3, k4, k5, k6⟩ := cells2 (u := .slice au l.length cu) (v := .slice av p.length cv) M5.out.r1 M5.out.r2)
    all_goals
      have HF := Lib.hid ((fin2 M5.out.bel M5.out.own OV.out).resolve_right (fun h => h M5.out.few))
      go_wp2
      refine bodyPost_ret (v := .tuple #[.agg #[.slice au l.length cu], .agg #[.slice av p.length cv]]) (by simp [results, Tryz.results31, go_sem, k5, k6]) rfl ?_
      first | exact ⟨_, l, _, rfl, p, HF.out.1, hp4, HF.out.2⟩ | exact ⟨_, l, _, p, rfl, HF.out.1, hp4, HF.out.2⟩
  · obtain ⟨g, rfl, hgl⟩ : ∃ g, au = some ⟨g, 0, none⟩ ∧ g < w2.heap.size := by
      have ho := M2.out.own
      rcases ho.2 with ⟨h, _⟩ | ⟨g, cap', cur, hv, _, hgc, _⟩
      · exact absurd h NE.out
      · injection hv with e1 e2 e3
        exact ⟨g, e1, (Array.getElem?_eq_some_iff.1 hgc).1⟩
    have hn4 : ∀ (k : Nat) (z : Value), (l.map (Value.int .i64))[k]? = some z → w4.cell? ⟨g, k, none⟩ = some z := fun k z hz => by
      rcases M4.out.ints with h | ⟨b', off, ha, hb, hc⟩
      · rw [h] at hz; simp at hz
      · injection ha with ha; injection ha with e1 e2 e3
        subst e1; subst e2
        have hk : k < l.length := by simpa using (List.getElem?_eq_some_iff.1 hz).1
        have hv : Value.int .i64 (l.getD k 0) = z := by
          have : (l.map (Value.int .i64))[k]? = some (.int .i64 (l.getD k 0)) := by simp [List.getD, hk]
          rw [this] at hz; exact Option.some.inj hz
        rw [← hv]; simpa using hc k hk
    have HN4 := Lib.hid hn4
    clear hn4
    have hL4 := M4.out.few
    have HO4 := Lib.hid (World.ownsRow_lit (e := 3) (size := 1) w4 #[] 0 (Nat.le_refl _) (by decide) rfl)
    have HC1 : Hid (∀ (j : Nat) (u : Value), (l.map (Value.int .i64))[j]? = some u → ((w4.alloc (.cells #[] 3)).drew).cell? ((⟨g, 0, none⟩ : Addr).add j) = some u) := Lib.hid (fun j z hz => by
      have h := (World.cell?_alloc_past (.cells #[] 3) g j (w := w4) (by omega)).trans (HN4.out j z hz)
      have e : (⟨g, 0, none⟩ : Addr).add j = ⟨g, j, none⟩ := by cases j <;> simp [Addr.add]
      rw [e]; exact h)
    have HC2 : Hid (∀ u ∈ l.map (Value.int .i64), u.oneCell' = true) := Lib.hid (fun u hu => by rw [List.mem_map] at hu; obtain ⟨x, _, rfl⟩ := hu; rfl)
    have HC3 : Hid (0 + l.length ≤ maxLen) := Lib.hid (by unfold maxLen; omega)
    have g5 := (World.cell?_alloc_past (.cells #[] 3) w2.heap.size 0 (w := w4) hs4).trans g4
    go_wp2_with fail
    go_region_law (first
      | (refine step_append_own rfl (.tmp 13) (.tmp 15) 24 rfl w4.heap.size 3 i0 (.int .i64 0) 1 8 Tryz.underlying24 hi0 hz0 hz1 hz2 rfl (by decide) (.slice (some ⟨w4.heap.size, 0, none⟩) 0 0) 0 [] (by simp [Act.eval]) HO4.out.drew ⟨g, 0, none⟩ l.length cu (l.map (Value.int .i64)) (by simp [Act.eval]) (by simp) HC1.out HC2.out HC3.out (by omega) (by simp) ?_; intro v5 w5 hown hgrow; obtain ⟨av, cv, rfl, m5, ov, hb5⟩ := app_end M4.out hown hgrow; have M5 := Lib.hid m5; have OV := Lib.hid ov; have g6 := keepD hb5 g4; obtain ⟨k1, k2, k3, k4, k5, k6⟩ := cells2 (u := .slice (some ⟨g, 0, none⟩) l.length cu) (v := .slice av l.length cv) m5.r1 m5.r2; clear m5 ov hown hgrow hb5))
    all_goals
      have HF := Lib.hid ((fin2 M5.out.bel M5.out.own OV.out).resolve_right (fun h => h M5.out.few))
      go_wp2
      refine bodyPost_ret (v := .tuple #[.agg #[.slice (some ⟨g, 0, none⟩) l.length cu], .agg #[.slice av l.length cv]]) (by simp [results, Tryz.results31, go_sem, k5, k6]) rfl ?_
      first | exact ⟨_, l, _, rfl, l, HF.out.1, hL4, HF.out.2⟩ | exact ⟨_, l, _, l, rfl, HF.out.1, hL4, HF.out.2⟩
end Go.Proofs.YticgoodmfjjggaaGreatDoor
