/- The drawing functions of chapter 5. -/
import Derived.Test.YtehdneppleifdaaGreatDoorD5
import Derived.Test.YtehdneppleifdaaGreatDoorMGAU
import Derived.Test.YtehdneppleifdaaGreatDoorDilSpec
namespace Go.Proofs.YtehdneppleifdaaGreatDoor
open Go.RowKit
set_option maxRecDepth 1000000
theorem shE_bnd (l : List Int) (s x : Int) : -9223372036854775808 ≤ shE l s x ∧ shE l s x ≤ 9223372036854775807 := by
  unfold shE
  split
  · next h =>
    split
    · have hg := (isS_true h).1
      have h1 : orF (fun y : Nat => addN l (y : Int) x) (bitsN s.toNat) < 16777216 := orF_lt (fun y : Nat => addN l (y : Int) x) (bitsN s.toNat) 24 (fun y _ => by have := addN_bnd hg (y : Int) x; show (addN l (y : Int) x).toNat < 24; omega)
      omega
    · omega
  · omega
set_option maxHeartbeats 4000000 in
theorem l5Both_any (w : World) (a : Option Addr) (len cap : Nat) (hlen : len ≤ 1048576) (hd : CodeIn w a len) :
    Calls Tryz.prog 44 #[.slice a len cap] w (DrawnGI w) := by
  have HN := Lib.hid (new_at w a len cap hlen hd)
  clear hd
  go_enter Tryz.func44, Tryz.ntmps44
  go_wp2_with (first
    | (go_at_call 50; refine (l5Group_any _ _ a len cap hlen HC1.out HD1.out).mono ?_; rintro e w2 ⟨u, l, x, rfl, hx0, hx1, ho, hl, hcur, hg⟩; obtain ⟨au, cu, rfl, m2⟩ := mid_of HD1.out HB1.out HC1.out ho hl hcur hg; have M2 := Lib.hid m2; clear ho hl hcur hg m2; have M3 := Lib.hid (M2.out.alloc #[.slice au l.length cu] 26); have g3 := newC w2 (.slice au l.length cu) 26 (n := w2.heap.size) rfl; have c3 := M3.out.cells.1; have f3 := M3.out.cells.2)
    | (go_at_call 35; refine HN.out.mono ?_; rintro e w1 ⟨rfl, hcur, hda, hbel⟩; have HC1 := Lib.hid hcur; have HD1 := Lib.hid hda; have HB1 := Lib.hid hbel; clear hcur hda hbel))
  have c4 := World.cell?_setCell_same (w2.alloc (.cells #[.slice au l.length cu] 26)) ⟨w.heap.size, 0, none⟩ (.slice au l.length cu) c3
  refine bodyPost_ret (v := .tuple #[.agg #[.slice au l.length cu], .int .i64 x]) (by simp [results, Tryz.results44, go_sem, c4]) rfl ?_
  exact ⟨_, l, x, rfl, hx0, hx1, M3.out.finish.1, M3.out.few, M3.out.finish.2⟩
theorem both5_at (w : World) (a : Option Addr) (len cap : Nat) (hlen : len ≤ 1048576) (hd : CodeIn w a len) :
    Calls Tryz.prog 44 #[.slice a len cap] (w.alloc nilG) fun e w1 => ∃ (u : Value) (l : List Int) (x : Int), e = .returned (.tuple #[.agg #[u], .int .i64 x]) ∧ -9223372036854775808 ≤ x ∧ x ≤ 9223372036854775807 ∧ w1.ownsRow (w.heap.size + 1) 3 1 u l.length (l.map (Value.int .i64)) ∧ l.length ≤ 4 ∧ Below (w.heap.size + 1) (w.alloc nilG) w1 := by
  have h := l5Both_any (w.alloc nilG) a len cap hlen (hd.below (Joins.below_alloc1 w nilG))
  have e : (w.alloc nilG).heap.size = w.heap.size + 1 := by simp
  unfold DrawnGI DGrp at h
  rw [e] at h
  exact h
set_option maxHeartbeats 4000000 in
theorem dCosO_any (w : World) (a : Option Addr) (len cap : Nat) (hlen : len ≤ 1048576) (hd : CodeIn w a len) :
    Calls Tryz.prog 15 #[.slice a len cap] w (DrawnGI w) := by
  have HN := Lib.hid (both5_at w a len cap hlen hd)
  have R0 := Lib.hid (heap_alloc_new w nilG)
  clear hd
  go_enter Tryz.func15, Tryz.ntmps15
  go_wp2_with (go_at_call 44; refine HN.out.mono ?_; rintro e w1 ⟨u, l, x, rfl, hx0, hx1, ho, hl, hb⟩; obtain ⟨au, cu, rfl⟩ := own_slice' rfl ho; have HO := Lib.hid ho; have HB := Lib.hid hb; have HL := Lib.hid hl; have g1 := newC w1 (.slice au l.length cu) 26 (n := w1.heap.size) rfl; have hs := (show w.heap.size + 1 ≤ w1.heap.size from by have := hb.size; simpa using this); obtain ⟨c1, f1⟩ := one_cell ((hb.block _ (by omega)).trans R0.out); have c2 : (w1.alloc (.cells #[.slice au l.length cu] 26)).cell? ⟨w.heap.size, 0, none⟩ = some (.slice none 0 0) := (World.cell?_alloc_past _ _ _ (by omega)).trans c1; have f2 := (frozen?_alloc_cells w1 #[.slice au l.length cu] 26 ⟨w.heap.size, 0, none⟩).trans f1; clear ho hl hb)
  have c3 := World.cell?_setCell_same (w1.alloc (.cells #[.slice au l.length cu] 26)) ⟨w.heap.size, 0, none⟩ (.slice au l.length cu) c2
  have HE := Lib.hid (hand_on (w := w) (w1 := w1.alloc (.cells #[.slice au l.length cu] 26)) (((Joins.below_alloc1 w nilG).trans (HB.out.mono (by omega))).trans ((Joins.below_alloc1 w1 _).mono (by omega))) (HO.out.alloc _))
  go_wp2
  refine bodyPost_ret (v := .tuple #[.agg #[.slice au l.length cu], .int .i64 x]) (by simp [results, Tryz.results15, go_sem, c3]) rfl ?_
  exact ⟨_, l, x, rfl, hx0, hx1, HE.out.1, HL.out, HE.out.2⟩
set_option maxHeartbeats 4000000 in
theorem dGen_any (w : World) (a : Option Addr) (len cap : Nat) (hlen : len ≤ 1048576) (hd : CodeIn w a len) :
    Calls Tryz.prog 5 #[.slice a len cap] w (DrawnGI w) := by
  have HN := Lib.hid (one_at w a len cap hlen hd)
  have R0 := Lib.hid (heap_alloc_new w nilG)
  clear hd
  go_enter Tryz.func5, Tryz.ntmps5
  go_wp2_with (go_at_call 28; refine HN.out.mono ?_; rintro e w1 ⟨u, l, x, rfl, hx0, hx1, ho, hl, hb⟩; obtain ⟨au, cu, rfl⟩ := own_slice' rfl ho; have HO := Lib.hid ho; have HB := Lib.hid hb; have HL := Lib.hid hl; have g1 := newC w1 (.slice au l.length cu) 26 (n := w1.heap.size) rfl; have hs := (show w.heap.size + 1 ≤ w1.heap.size from by have := hb.size; simpa using this); obtain ⟨c1, f1⟩ := one_cell ((hb.block _ (by omega)).trans R0.out); have c2 : (w1.alloc (.cells #[.slice au l.length cu] 26)).cell? ⟨w.heap.size, 0, none⟩ = some (.slice none 0 0) := (World.cell?_alloc_past _ _ _ (by omega)).trans c1; have f2 := (frozen?_alloc_cells w1 #[.slice au l.length cu] 26 ⟨w.heap.size, 0, none⟩).trans f1; clear ho hl hb)
  have c3 := World.cell?_setCell_same (w1.alloc (.cells #[.slice au l.length cu] 26)) ⟨w.heap.size, 0, none⟩ (.slice au l.length cu) c2
  have HE := Lib.hid (hand_on (w := w) (w1 := w1.alloc (.cells #[.slice au l.length cu] 26)) (((Joins.below_alloc1 w nilG).trans (HB.out.mono (by omega))).trans ((Joins.below_alloc1 w1 _).mono (by omega))) (HO.out.alloc _))
  go_wp2
  refine bodyPost_ret (v := .tuple #[.agg #[.slice au l.length cu], .int .i64 x]) (by simp [results, Tryz.results5, go_sem, c3]) rfl ?_
  exact ⟨_, l, x, rfl, hx0, hx1, HE.out.1, HL.out, HE.out.2⟩
set_option maxHeartbeats 4000000 in
theorem dHul_any (w : World) (a : Option Addr) (len cap : Nat) (hlen : len ≤ 1048576) (hd : CodeIn w a len) :
    Calls Tryz.prog 22 #[.slice a len cap] w (DrawnGI w) := by
  have HN := Lib.hid (one_at w a len cap hlen hd)
  have R0 := Lib.hid (heap_alloc_new w nilG)
  clear hd
  go_enter Tryz.func22, Tryz.ntmps22
  go_wp2_with (go_at_call 28; refine HN.out.mono ?_; rintro e w1 ⟨u, l, x, rfl, hx0, hx1, ho, hl, hb⟩; obtain ⟨au, cu, rfl⟩ := own_slice' rfl ho; have HO := Lib.hid ho; have HB := Lib.hid hb; have HL := Lib.hid hl; have g1 := newC w1 (.slice au l.length cu) 26 (n := w1.heap.size) rfl; have hs := (show w.heap.size + 1 ≤ w1.heap.size from by have := hb.size; simpa using this); obtain ⟨c1, f1⟩ := one_cell ((hb.block _ (by omega)).trans R0.out); have c2 : (w1.alloc (.cells #[.slice au l.length cu] 26)).cell? ⟨w.heap.size, 0, none⟩ = some (.slice none 0 0) := (World.cell?_alloc_past _ _ _ (by omega)).trans c1; have f2 := (frozen?_alloc_cells w1 #[.slice au l.length cu] 26 ⟨w.heap.size, 0, none⟩).trans f1; clear ho hl hb)
  have c3 := World.cell?_setCell_same (w1.alloc (.cells #[.slice au l.length cu] 26)) ⟨w.heap.size, 0, none⟩ (.slice au l.length cu) c2
  have HE := Lib.hid (hand_on (w := w) (w1 := w1.alloc (.cells #[.slice au l.length cu] 26)) (((Joins.below_alloc1 w nilG).trans (HB.out.mono (by omega))).trans ((Joins.below_alloc1 w1 _).mono (by omega))) (HO.out.alloc _))
  go_wp2
  refine bodyPost_ret (v := .tuple #[.agg #[.slice au l.length cu], .int .i64 x]) (by simp [results, Tryz.results22, go_sem, c3]) rfl ?_
  exact ⟨_, l, x, rfl, hx0, hx1, HE.out.1, HL.out, HE.out.2⟩
/-- What a function that draws a group leaves. -/
def DrawnG (w : World) (e : Ending) (w' : World) : Prop := ∃ (u : Value) (l : List Int), e = .returned (.agg #[u]) ∧ DGrp w u l w'
set_option maxHeartbeats 4000000 in
theorem dSgs_any (w : World) (a : Option Addr) (len cap : Nat) (hlen : len ≤ 1048576) (hd : CodeIn w a len) :
    Calls Tryz.prog 9 #[.slice a len cap] w (DrawnG w) := by
  have HN := Lib.hid (new_at w a len cap hlen hd)
  clear hd
  go_enter Tryz.func9, Tryz.ntmps9
  go_wp2_with (first
    | (go_at_call 34; refine (l2Any_any _ _ a len cap hlen HC1.out HD1.out).mono ?_; rintro e w2 ⟨u, l, rfl, ho, hl, hcur, hg⟩; obtain ⟨au, cu, rfl, m2⟩ := mid_of HD1.out HB1.out HC1.out ho hl hcur hg; have M2 := Lib.hid m2; clear ho hl hcur hg m2; have c3 := M2.out.cells.1; have f3 := M2.out.cells.2)
    | (go_at_call 35; refine HN.out.mono ?_; rintro e w1 ⟨rfl, hcur, hda, hbel⟩; have HC1 := Lib.hid hcur; have HD1 := Lib.hid hda; have HB1 := Lib.hid hbel; clear hcur hda hbel))
  have c4 := World.cell?_setCell_same w2 ⟨w.heap.size, 0, none⟩ (.slice au l.length cu) c3
  refine bodyPost_ret (v := .agg #[.slice au l.length cu]) (by simp [results, Tryz.results9, go_sem, c4]) rfl ?_
  exact ⟨_, l, rfl, M2.out.finish.1, M2.out.few, M2.out.finish.2⟩
set_option maxHeartbeats 4000000 in
theorem dCno_any (w : World) (a : Option Addr) (len cap : Nat) (hlen : len ≤ 1048576) (hd : CodeIn w a len) :
    Calls Tryz.prog 20 #[.slice a len cap] w fun e w' => ∃ (u : Value) (l : List Int) (x y : Int), e = .returned (.tuple #[.agg #[u], .int .i64 x, .int .i64 y]) ∧ -9223372036854775808 ≤ x ∧ x ≤ 9223372036854775807 ∧ -9223372036854775808 ≤ y ∧ y ≤ 9223372036854775807 ∧ DGrp w u l w' := by
  have HN := Lib.hid (new_at w a len cap hlen hd)
  clear hd
  go_enter Tryz.func20, Tryz.ntmps20
  go_wp2_with (first
    | (go_at_call 50; refine (l5Group_any _ _ a len cap hlen HC1.out HD1.out).mono ?_; rintro e w2 ⟨u, l, x, rfl, hx0, hx1, ho, hl, hcur, hg⟩; obtain ⟨au, cu, rfl, m2⟩ := mid_of HD1.out HB1.out HC1.out ho hl hcur hg; have M2 := Lib.hid m2; clear ho hl hcur hg m2; have M4 := Lib.hid (M2.out.alloc #[.slice au l.length cu] 26); have g4 := newC w2 (.slice au l.length cu) 26 (n := w2.heap.size) rfl; have G2 := Lib.hid M2.out.lt)
    | (go_at_call 35; refine HN.out.mono ?_; rintro e w1 ⟨rfl, hcur, hda, hbel⟩; have HC1 := Lib.hid hcur; have HD1 := Lib.hid hda; have HB1 := Lib.hid hbel; clear hcur hda hbel))
  have F3 := Lib.hid (l2Element_any _ _ a len cap l au l.length cu rfl (by have := M4.out.few; omega) M4.out.drew.ints M4.out.apart hlen M4.out.drew.cur M4.out.drew.dat)
  go_region_with (go_at_call 51; refine F3.out.mono ?_; rintro e w5 ⟨y, rfl, hy0, hy1, hcur, hg⟩; have M5 := Lib.hid (M4.out.drew.grown hcur hg); have g5 := hg.cell g4 (by have := G2.out; simp; omega); have c5 := M5.out.cells.1; have f5 := M5.out.cells.2; clear hcur hg)
  all_goals
    have c6 := World.cell?_setCell_same w5 ⟨w.heap.size, 0, none⟩ (.slice au l.length cu) c5
    go_wp2
    refine bodyPost_ret (v := .tuple #[.agg #[.slice au l.length cu], .int .i64 x, .int .i64 y]) (by simp [results, Tryz.results20, go_sem, c6]) rfl ?_
    exact ⟨_, l, x, y, rfl, hx0, hx1, hy0, hy1, M5.out.finish.1, M5.out.few, M5.out.finish.2⟩
set_option maxHeartbeats 4000000 in
theorem dIco_any (w : World) (a : Option Addr) (len cap : Nat) (hlen : len ≤ 1048576) (hd : CodeIn w a len) :
    Calls Tryz.prog 21 #[.slice a len cap] w (DrawnGI w) := by
  have HN := Lib.hid (new_at w a len cap hlen hd)
  clear hd
  go_enter Tryz.func21, Tryz.ntmps21
  go_wp2_with (first
    | (go_at_call 50; refine (l5Group_any _ _ a len cap hlen HC1.out HD1.out).mono ?_; rintro e w2 ⟨u, l, x, rfl, hx0, hx1, ho, hl, hcur, hg⟩; obtain ⟨au, cu, rfl, m2⟩ := mid_of HD1.out HB1.out HC1.out ho hl hcur hg; have M2 := Lib.hid m2; clear ho hl hcur hg m2; have M4 := Lib.hid (M2.out.alloc #[.slice au l.length cu] 26); have g4 := newC w2 (.slice au l.length cu) 26 (n := w2.heap.size) rfl; have G2 := Lib.hid M2.out.lt)
    | (go_at_call 35; refine HN.out.mono ?_; rintro e w1 ⟨rfl, hcur, hda, hbel⟩; have HC1 := Lib.hid hcur; have HD1 := Lib.hid hda; have HB1 := Lib.hid hbel; clear hcur hda hbel))
  have F3 := Lib.hid (l2Element_any _ _ a len cap l au l.length cu rfl (by have := M4.out.few; omega) M4.out.drew.ints M4.out.apart hlen M4.out.drew.cur M4.out.drew.dat)
  go_region_with (first
    | (go_at_call 52; refine (sShift w5 au l l.length cu x y rfl (by have := M5.out.few; omega) M5.out.ints).mono ?_; rintro e w6 ⟨rfl, hb⟩; have hbd := shE_bnd l x y; obtain ⟨z, hz⟩ : ∃ z, shE l x y = z := ⟨_, rfl⟩; rw [hz] at hbd ⊢; clear hz; have M6 := Lib.hid (M5.out.below hb); have g6 := keepC hb (World.block_lt_of_cell? w5 _ g5) g5; have c6 := M6.out.cells.1; have f6 := M6.out.cells.2; clear hb)
    | (go_at_call 51; refine F3.out.mono ?_; rintro e w5 ⟨y, rfl, hy0, hy1, hcur, hg⟩; have M5 := Lib.hid (M4.out.drew.grown hcur hg); have g5 := hg.cell g4 (by have := G2.out; simp; omega); clear hcur hg))
  all_goals
    have c7 := World.cell?_setCell_same w6 ⟨w.heap.size, 0, none⟩ (.slice au l.length cu) c6
    go_wp2
    refine bodyPost_ret (v := .tuple #[.agg #[.slice au l.length cu], .int .i64 z]) (by simp [results, Tryz.results21, go_sem, c7]) rfl ?_
    exact ⟨_, l, z, rfl, hbd.1, hbd.2, M6.out.finish.1, M6.out.few, M6.out.finish.2⟩
end Go.Proofs.YtehdneppleifdaaGreatDoor
