/- Merged: D8 DGrp5 DEl4. -/
import Derived.Test.YthlpjiibjlaebaaGreatDoorMGAU
import Derived.Test.YthlpjiibjlaebaaGreatDoorMGAS
import Derived.Test.YthlpjiibjlaebaaGreatDoorMGAD
import Derived.Deep.RegionHeld3
import Derived.Deep.DeepCutAuto
namespace Go.Proofs.YthlpjiibjlaebaaGreatDoor
open Go.RowKit
set_option maxRecDepth 1000000
set_option maxHeartbeats 4000000 in
theorem l7Both_any (w : World) (a : Option Addr) (len cap : Nat) (hlen : len ≤ 1048576) (hd : CodeIn w a len) :
    Calls Tryz.prog 55 #[.slice a len cap] w fun e w' => ∃ (u : Value) (l : List Int) (x y : Int), e = .returned (.tuple #[.agg #[u], .int .i64 x, .int .i64 y]) ∧ -9223372036854775808 ≤ x ∧ x ≤ 9223372036854775807 ∧ -9223372036854775808 ≤ y ∧ y ≤ 9223372036854775807 ∧ DGrp w u l w' := by
  have HN := Lib.hid (new_at w a len cap hlen hd)
  clear hd
  go_enter Tryz.func55, Tryz.ntmps55
  go_wp2_with (first
    | (go_at_call 78; refine (l6Set_any _ _ a len cap hlen HC1.out HD1.out).mono ?_; rintro e w2 ⟨u, l, x, rfl, hx0, hx1, ho, hl, hcur, hg⟩; obtain ⟨au, cu, rfl, m2⟩ := mid_of HD1.out HB1.out HC1.out ho hl hcur hg; have M2 := Lib.hid m2; clear ho hl hcur hg m2; have M4 := Lib.hid (M2.out.alloc #[.slice au l.length cu] 26); have g4 := newC w2 (.slice au l.length cu) 26 (n := w2.heap.size) rfl; have G2 := Lib.hid M2.out.lt)
    | (go_at_call 65; refine HN.out.mono ?_; rintro e w1 ⟨rfl, hcur, hda, hbel⟩; have HC1 := Lib.hid hcur; have HD1 := Lib.hid hda; have HB1 := Lib.hid hbel; clear hcur hda hbel))
  have F3 := Lib.hid (l2Element_any _ _ a len cap l au l.length cu rfl (by have := M4.out.few; omega) M4.out.drew.ints M4.out.drew.apart hlen M4.out.drew.cur M4.out.drew.dat)
  go_region_with (go_at_call 67; refine F3.out.mono ?_; rintro e w5 ⟨y, rfl, hy0, hy1, hcur, hg⟩; have M5 := Lib.hid (M4.out.drew.grown hcur hg); have g5 := hg.cell g4 (by have := G2.out; simp; omega); have c5 := M5.out.cells.1; have f5 := M5.out.cells.2; clear hcur hg)
  all_goals
    have c6 := World.cell?_setCell_same w5 ⟨w.heap.size, 0, none⟩ (.slice au l.length cu) c5
    go_wp2
    refine bodyPost_ret (v := .tuple #[.agg #[.slice au l.length cu], .int .i64 x, .int .i64 y]) (by simp [results, Tryz.results55, go_sem, c6]) rfl ?_
    exact ⟨_, l, x, y, rfl, hx0, hx1, hy0, hy1, M5.out.finish.1, M5.out.few, M5.out.finish.2⟩
theorem both7_at (w : World) (a : Option Addr) (len cap : Nat) (hlen : len ≤ 1048576) (hd : CodeIn w a len) :
    Calls Tryz.prog 55 #[.slice a len cap] (w.alloc nilG) fun e w1 => ∃ (u : Value) (l : List Int) (x y : Int), e = .returned (.tuple #[.agg #[u], .int .i64 x, .int .i64 y]) ∧ -9223372036854775808 ≤ x ∧ x ≤ 9223372036854775807 ∧ -9223372036854775808 ≤ y ∧ y ≤ 9223372036854775807 ∧ w1.ownsRow (w.heap.size + 1) 3 1 u l.length (l.map (Value.int .i64)) ∧ l.length ≤ 4 ∧ Below (w.heap.size + 1) (w.alloc nilG) w1 := by
  have h := l7Both_any (w.alloc nilG) a len cap hlen (hd.below (Joins.below_alloc1 w nilG))
  have e : (w.alloc nilG).heap.size = w.heap.size + 1 := by simp
  unfold DGrp at h
  rw [e] at h
  exact h
set_option maxHeartbeats 4000000 in
theorem dCC_any (w : World) (a : Option Addr) (len cap : Nat) (hlen : len ≤ 1048576) (hd : CodeIn w a len) :
    Calls Tryz.prog 21 #[.slice a len cap] w fun e w' => ∃ (u : Value) (l : List Int) (x y : Int), e = .returned (.tuple #[.agg #[u], .int .i64 x, .int .i64 y]) ∧ -9223372036854775808 ≤ x ∧ x ≤ 9223372036854775807 ∧ -9223372036854775808 ≤ y ∧ y ≤ 9223372036854775807 ∧ DGrp w u l w' := by
  have HN := Lib.hid (both7_at w a len cap hlen hd)
  have R0 := Lib.hid (heap_alloc_new w nilG)
  clear hd
  go_enter Tryz.func21, Tryz.ntmps21
  go_wp2_with (go_at_call 55; refine HN.out.mono ?_; rintro e w1 ⟨u, l, x, y, rfl, hx0, hx1, hy0, hy1, ho, hl, hb⟩; obtain ⟨au, cu, rfl⟩ := own_slice' rfl ho; have HO := Lib.hid ho; have HB := Lib.hid hb; have HL := Lib.hid hl; have g1 := newC w1 (.slice au l.length cu) 26 (n := w1.heap.size) rfl; have hs := (show w.heap.size + 1 ≤ w1.heap.size from by have := hb.size; simpa using this); obtain ⟨c1, f1⟩ := one_cell ((hb.block _ (by omega)).trans R0.out); have c2 : (w1.alloc (.cells #[.slice au l.length cu] 26)).cell? ⟨w.heap.size, 0, none⟩ = some (.slice none 0 0) := (World.cell?_alloc_past _ _ _ (by omega)).trans c1; have f2 := (frozen?_alloc_cells w1 #[.slice au l.length cu] 26 ⟨w.heap.size, 0, none⟩).trans f1; clear ho hl hb)
  have c3 := World.cell?_setCell_same (w1.alloc (.cells #[.slice au l.length cu] 26)) ⟨w.heap.size, 0, none⟩ (.slice au l.length cu) c2
  have HE := Lib.hid (hand_on (w := w) (w1 := w1.alloc (.cells #[.slice au l.length cu] 26)) (((Joins.below_alloc1 w nilG).trans (HB.out.mono (by omega))).trans ((Joins.below_alloc1 w1 _).mono (by omega))) (HO.out.alloc _))
  go_wp2
  refine bodyPost_ret (v := .tuple #[.agg #[.slice au l.length cu], .int .i64 x, .int .i64 y]) (by simp [results, Tryz.results21, go_sem, c3]) rfl ?_
  exact ⟨_, l, x, y, rfl, hx0, hx1, hy0, hy1, HE.out.1, HL.out, HE.out.2⟩
set_option maxHeartbeats 4000000 in
theorem dIZ_any (w : World) (a : Option Addr) (len cap : Nat) (hlen : len ≤ 1048576) (hd : CodeIn w a len) :
    Calls Tryz.prog 26 #[.slice a len cap] w fun e w' => ∃ (u : Value) (l : List Int) (x y : Int), e = .returned (.tuple #[.agg #[u], .int .i64 x, .int .i64 y]) ∧ -9223372036854775808 ≤ x ∧ x ≤ 9223372036854775807 ∧ -9223372036854775808 ≤ y ∧ y ≤ 9223372036854775807 ∧ DGrp w u l w' := by
  have HN := Lib.hid (both7_at w a len cap hlen hd)
  have R0 := Lib.hid (heap_alloc_new w nilG)
  clear hd
  go_enter Tryz.func26, Tryz.ntmps26
  go_wp2_with (go_at_call 55; refine HN.out.mono ?_; rintro e w1 ⟨u, l, x, y, rfl, hx0, hx1, hy0, hy1, ho, hl, hb⟩; obtain ⟨au, cu, rfl⟩ := own_slice' rfl ho; have HO := Lib.hid ho; have HB := Lib.hid hb; have HL := Lib.hid hl; have g1 := newC w1 (.slice au l.length cu) 26 (n := w1.heap.size) rfl; have hs := (show w.heap.size + 1 ≤ w1.heap.size from by have := hb.size; simpa using this); obtain ⟨c1, f1⟩ := one_cell ((hb.block _ (by omega)).trans R0.out); have c2 : (w1.alloc (.cells #[.slice au l.length cu] 26)).cell? ⟨w.heap.size, 0, none⟩ = some (.slice none 0 0) := (World.cell?_alloc_past _ _ _ (by omega)).trans c1; have f2 := (frozen?_alloc_cells w1 #[.slice au l.length cu] 26 ⟨w.heap.size, 0, none⟩).trans f1; clear ho hl hb)
  have c3 := World.cell?_setCell_same (w1.alloc (.cells #[.slice au l.length cu] 26)) ⟨w.heap.size, 0, none⟩ (.slice au l.length cu) c2
  have HE := Lib.hid (hand_on (w := w) (w1 := w1.alloc (.cells #[.slice au l.length cu] 26)) (((Joins.below_alloc1 w nilG).trans (HB.out.mono (by omega))).trans ((Joins.below_alloc1 w1 _).mono (by omega))) (HO.out.alloc _))
  go_wp2
  refine bodyPost_ret (v := .tuple #[.agg #[.slice au l.length cu], .int .i64 x, .int .i64 y]) (by simp [results, Tryz.results26, go_sem, c3]) rfl ?_
  exact ⟨_, l, x, y, rfl, hx0, hx1, hy0, hy1, HE.out.1, HL.out, HE.out.2⟩
set_option maxHeartbeats 4000000 in
theorem dCV_any (w : World) (a : Option Addr) (len cap : Nat) (hlen : len ≤ 1048576) (hd : CodeIn w a len) :
    Calls Tryz.prog 5 #[.slice a len cap] w fun e w' => ∃ (u : Value) (l : List Int) (x y : Int), e = .returned (.tuple #[.agg #[u], .int .i64 x, .int .i64 y]) ∧ -9223372036854775808 ≤ x ∧ x ≤ 9223372036854775807 ∧ -9223372036854775808 ≤ y ∧ y ≤ 9223372036854775807 ∧ DGrp w u l w' := by
  have HN := Lib.hid (twoE_at w a len cap hlen hd)
  have R0 := Lib.hid (heap_alloc_new w nilG)
  clear hd
  go_enter Tryz.func5, Tryz.ntmps5
  go_wp2_with (go_at_call 37; refine HN.out.mono ?_; rintro e w1 ⟨u, l, x, y, rfl, hx0, hx1, hy0, hy1, ho, hl, hb⟩; obtain ⟨au, cu, rfl⟩ := own_slice' rfl ho; have HO := Lib.hid ho; have HB := Lib.hid hb; have HL := Lib.hid hl; have g1 := newC w1 (.slice au l.length cu) 26 (n := w1.heap.size) rfl; have hs := (show w.heap.size + 1 ≤ w1.heap.size from by have := hb.size; simpa using this); obtain ⟨c1, f1⟩ := one_cell ((hb.block _ (by omega)).trans R0.out); have c2 : (w1.alloc (.cells #[.slice au l.length cu] 26)).cell? ⟨w.heap.size, 0, none⟩ = some (.slice none 0 0) := (World.cell?_alloc_past _ _ _ (by omega)).trans c1; have f2 := (frozen?_alloc_cells w1 #[.slice au l.length cu] 26 ⟨w.heap.size, 0, none⟩).trans f1; clear ho hl hb)
  have c3 := World.cell?_setCell_same (w1.alloc (.cells #[.slice au l.length cu] 26)) ⟨w.heap.size, 0, none⟩ (.slice au l.length cu) c2
  have HE := Lib.hid (hand_on (w := w) (w1 := w1.alloc (.cells #[.slice au l.length cu] 26)) (((Joins.below_alloc1 w nilG).trans (HB.out.mono (by omega))).trans ((Joins.below_alloc1 w1 _).mono (by omega))) (HO.out.alloc _))
  go_wp2
  refine bodyPost_ret (v := .tuple #[.agg #[.slice au l.length cu], .int .i64 x, .int .i64 y]) (by simp [results, Tryz.results5, go_sem, c3]) rfl ?_
  exact ⟨_, l, x, y, rfl, hx0, hx1, hy0, hy1, HE.out.1, HL.out, HE.out.2⟩
set_option maxHeartbeats 4000000 in
theorem dKer_any (w : World) (a : Option Addr) (len cap : Nat) (hlen : len ≤ 1048576) (hd : CodeIn w a len) :
    Calls Tryz.prog 23 #[.slice a len cap] w (DrawnGI w) := by
  have HN := Lib.hid (oneE_at w a len cap hlen hd)
  have R0 := Lib.hid (heap_alloc_new w nilG)
  clear hd
  go_enter Tryz.func23, Tryz.ntmps23
  go_wp2_with (go_at_call 57; refine HN.out.mono ?_; rintro e w1 ⟨u, l, x, rfl, hx0, hx1, ho, hl, hb⟩; obtain ⟨au, cu, rfl⟩ := own_slice' rfl ho; have HO := Lib.hid ho; have HB := Lib.hid hb; have HL := Lib.hid hl; have g1 := newC w1 (.slice au l.length cu) 26 (n := w1.heap.size) rfl; have hs := (show w.heap.size + 1 ≤ w1.heap.size from by have := hb.size; simpa using this); obtain ⟨c1, f1⟩ := one_cell ((hb.block _ (by omega)).trans R0.out); have c2 : (w1.alloc (.cells #[.slice au l.length cu] 26)).cell? ⟨w.heap.size, 0, none⟩ = some (.slice none 0 0) := (World.cell?_alloc_past _ _ _ (by omega)).trans c1; have f2 := (frozen?_alloc_cells w1 #[.slice au l.length cu] 26 ⟨w.heap.size, 0, none⟩).trans f1; clear ho hl hb)
  have c3 := World.cell?_setCell_same (w1.alloc (.cells #[.slice au l.length cu] 26)) ⟨w.heap.size, 0, none⟩ (.slice au l.length cu) c2
  have HE := Lib.hid (hand_on (w := w) (w1 := w1.alloc (.cells #[.slice au l.length cu] 26)) (((Joins.below_alloc1 w nilG).trans (HB.out.mono (by omega))).trans ((Joins.below_alloc1 w1 _).mono (by omega))) (HO.out.alloc _))
  go_wp2
  refine bodyPost_ret (v := .tuple #[.agg #[.slice au l.length cu], .int .i64 x]) (by simp [results, Tryz.results23, go_sem, c3]) rfl ?_
  exact ⟨_, l, x, rfl, hx0, hx1, HE.out.1, HL.out, HE.out.2⟩
set_option maxHeartbeats 4000000 in
theorem dAnn_any (w : World) (a : Option Addr) (len cap : Nat) (hlen : len ≤ 1048576) (hd : CodeIn w a len) :
    Calls Tryz.prog 12 #[.slice a len cap] w (DrawnGI w) := by
  have HN := Lib.hid (both5_at w a len cap hlen hd)
  have R0 := Lib.hid (heap_alloc_new w nilG)
  clear hd
  go_enter Tryz.func12, Tryz.ntmps12
  go_wp2_with (go_at_call 45; refine HN.out.mono ?_; rintro e w1 ⟨u, l, x, rfl, hx0, hx1, ho, hl, hb⟩; obtain ⟨au, cu, rfl⟩ := own_slice' rfl ho; have HO := Lib.hid ho; have HB := Lib.hid hb; have HL := Lib.hid hl; have g1 := newC w1 (.slice au l.length cu) 26 (n := w1.heap.size) rfl; have hs := (show w.heap.size + 1 ≤ w1.heap.size from by have := hb.size; simpa using this); obtain ⟨c1, f1⟩ := one_cell ((hb.block _ (by omega)).trans R0.out); have c2 : (w1.alloc (.cells #[.slice au l.length cu] 26)).cell? ⟨w.heap.size, 0, none⟩ = some (.slice none 0 0) := (World.cell?_alloc_past _ _ _ (by omega)).trans c1; have f2 := (frozen?_alloc_cells w1 #[.slice au l.length cu] 26 ⟨w.heap.size, 0, none⟩).trans f1; clear ho hl hb)
  have c3 := World.cell?_setCell_same (w1.alloc (.cells #[.slice au l.length cu] 26)) ⟨w.heap.size, 0, none⟩ (.slice au l.length cu) c2
  have HE := Lib.hid (hand_on (w := w) (w1 := w1.alloc (.cells #[.slice au l.length cu] 26)) (((Joins.below_alloc1 w nilG).trans (HB.out.mono (by omega))).trans ((Joins.below_alloc1 w1 _).mono (by omega))) (HO.out.alloc _))
  go_wp2
  refine bodyPost_ret (v := .tuple #[.agg #[.slice au l.length cu], .int .i64 x]) (by simp [results, Tryz.results12, go_sem, c3]) rfl ?_
  exact ⟨_, l, x, rfl, hx0, hx1, HE.out.1, HL.out, HE.out.2⟩
end Go.Proofs.YthlpjiibjlaebaaGreatDoor

namespace Go.Proofs.YthlpjiibjlaebaaGreatDoor
open Go.RowKit
set_option maxRecDepth 1000000
theorem data_of {w w4 : World} {a : Option Addr} {len : Nat} (hd : CodeIn w a len) (hb : Below w.heap.size w w4) : DataAt w4 (w.heap.size + 1) a len := by
  rcases hd with h | ⟨b, off, ha, hlt, hc⟩
  · exact .inl h
  · exact .inr ⟨b, off, ha, by omega, fun i hi => by
      obtain ⟨x, hx, hcell⟩ := hc i hi
      exact ⟨x, hx, (hb.cell (p := ⟨b, off + i, none⟩) hlt).trans hcell⟩⟩
theorem MidG.grown2 {w w3 w4 : World} {a : Option Addr} {len cap : Nat} {au : Option Addr} {cu : Nat} {l : List Int} (m : MidG w w3 a len cap au cu l) (hd : CodeIn w a len) {row : Option Nat} (hg : w3.grownBy w4 row) (N : Nat) (hN : w.heap.size + 2 ≤ N) (hrow : ∀ k, row = some k → N ≤ k) (hown : ∀ k, (Value.slice au l.length cu).ownBlock = some k → k < N) : MidG w w4 a len cap au cu l :=
  have hlt := m.lt
  have hb := m.bel.grown hg (by omega) (fun k hk => by have := hrow k hk; omega)
  ⟨m.cur.other (hg.block _ (by omega) (fun e => by have := hrow _ e.symm; omega)), data_of hd hb, (hg.block _ (by omega) (fun e => by have := hrow _ e.symm; omega)).trans m.res, m.own.kept hg (by
    cases hv : (Value.slice au l.length cu).ownBlock with
    | none => exact .inl rfl
    | some k => exact .inr fun e => by have h1 := hrow k e.symm; have h2 := hown k hv; omega), m.few, hb, Nat.le_trans m.lt hg.size⟩
end Go.Proofs.YthlpjiibjlaebaaGreatDoor

namespace Go.Proofs.YthlpjiibjlaebaaGreatDoor
open Go.RowKit
set_option maxRecDepth 1000000
theorem plc_len4 {l : List Int} (h : l.length ≤ 4) (x : Int) : (plc l x).length ≤ 4 := by
  unfold plc
  split
  · simpa using h
  · simp
theorem lit4_at (i : Nat) (h : i < 4) : ∃ z : Int, -9223372036854775808 ≤ z ∧ z ≤ 9223372036854775807 ∧ (#[.int .i64 (-1), .int .i64 1, .int .i64 12, .int .i64 99] : Array Value)[i]? = some (.int .i64 z) := by
  match i, h with
  | 0, _ => exact ⟨-1, by decide, by decide, rfl⟩
  | 1, _ => exact ⟨1, by decide, by decide, rfl⟩
  | 2, _ => exact ⟨12, by decide, by decide, rfl⟩
  | 3, _ => exact ⟨99, by decide, by decide, rfl⟩
/-- An owned row that is not empty lies in a block of its own. -/
theorem own_block {w : World} {B n : Nat} {v : Value} {xs : List Value} (h : w.ownsRow B 3 1 v n xs) (hn : 0 < n) : ∃ g cp, v = .slice (some ⟨g, 0, none⟩) n cp ∧ B ≤ g ∧ g < w.heap.size := by
  rcases h.2 with ⟨_, h2⟩ | ⟨g, cap, cur, hv, hb, hg, _⟩
  · omega
  · exact ⟨g, cap, hv, hb, (Array.getElem?_eq_some_iff.1 hg).1⟩
end Go.Proofs.YthlpjiibjlaebaaGreatDoor
