/- Merged: D6 D7 DEl. -/
import Derived.Test.YthlpjiibjlaebaaGreatDoorMGAT
import Derived.Test.YthlpjiibjlaebaaGreatDoorMGAS
import Derived.Test.YthlpjiibjlaebaaGreatDoorMGAL
namespace Go.Proofs.YthlpjiibjlaebaaGreatDoor
open Go.RowKit
set_option maxRecDepth 1000000
set_option maxHeartbeats 4000000 in
theorem l6Set_any (w : World) (C : Nat) (a : Option Addr) (len cap : Nat) (hlen : len ≤ 1048576) (hc : CurAt w C a len cap) (hd : DataAt w C a len) :
    Calls Tryz.prog 78 #[.pointer (some ⟨C, 0, none⟩)] w (DrawnC w C a len cap) := by
  have HC := Lib.hid hc
  have HD := Lib.hid hd
  have hCw : C < w.heap.size := hc.lt
  have HG0 := Lib.hid (World.grownBy_alloc w nilG (some C))
  have HCA := Lib.hid (HC.out.other (heap_alloc_old w nilG hCw))
  have HDA := Lib.hid (HD.out.grown HG0.out)
  have HDR := Lib.hid (l5Group_any (w.alloc nilG) C a len cap hlen HCA.out HDA.out)
  clear hc hd
  go_enter Tryz.func78, Tryz.ntmps78
  go_upto_region 3 with (first
    | (go_at_call 81; refine (l3Set_any _ C a len cap l au l.length cu rfl (by have := M3.out.few; omega) M3.out.ints hlen M3.out.cur M3.out.dat).mono ?_; rintro e w4 ⟨y, rfl, hy0, hy1, hcur, hg⟩; have M4 := Lib.hid (M3.out.grown hcur hg); have g4 := hg.cell g3 (by have := G2.out; simp; omega); clear hcur hg)
    | (go_at_call 71; refine HDR.out.mono ?_; rintro e w2 ⟨u, l, x, rfl, hx0, hx1, ho, hl, hcur, hg⟩; obtain ⟨au, cu, rfl, m2⟩ := midC_of hCw HD.out ho hl hcur hg; have M2 := Lib.hid m2; clear ho hl hcur hg m2; have M3 := Lib.hid (M2.out.alloc #[.slice au l.length cu] 26); have g3 := newC w2 (.slice au l.length cu) 26 (n := w2.heap.size) rfl; have G2 := Lib.hid M2.out.lt))
  cases hs : isS l y with
  | false =>
    go_wp2_with (go_at_call 48; refine (sIsSet _ au l l.length cu y rfl (by have := M4.out.few; omega) M4.out.ints).mono ?_; rw [hs]; rintro e w5 ⟨rfl, hb⟩; have M5 := Lib.hid (M4.out.below hb); have g5 := keepC hb (World.block_lt_of_cell? w4 _ g4) g4; have c5 := M5.out.cells.1; have f5 := M5.out.cells.2; clear hb)
    have cz := World.cell?_setCell_same w5 ⟨w.heap.size, 0, none⟩ (.slice au l.length cu) c5
    try go_wp2
    refine bodyPost_ret (v := .tuple #[.agg #[.slice au l.length cu], .int .i64 y]) (by simp [results, Tryz.results78, go_sem, cz]) rfl ?_
    exact ⟨_, l, _, rfl, hy0, hy1, M5.out.finish.1, M5.out.few, M5.out.finish.2⟩
  | true =>
    cases hh : sgB l x with
    | false =>
      go_wp2_with (first
        | (go_at_call 16; refine (sIsSub _ au l l.length cu x rfl (by have := M5.out.few; omega) M5.out.ints).mono ?_; rw [hh]; rintro e w6 ⟨rfl, hb⟩; have M6 := Lib.hid (M5.out.below hb); have g6 := keepC hb (World.block_lt_of_cell? w5 _ g5) g5; have c6 := M6.out.cells.1; have f6 := M6.out.cells.2; clear hb)
        | (go_at_call 48; refine (sIsSet _ au l l.length cu y rfl (by have := M4.out.few; omega) M4.out.ints).mono ?_; rw [hs]; rintro e w5 ⟨rfl, hb⟩; have M5 := Lib.hid (M4.out.below hb); have g5 := keepC hb (World.block_lt_of_cell? w4 _ g4) g4; have c5 := M5.out.cells.1; have f5 := M5.out.cells.2; clear hb))
      have cz := World.cell?_setCell_same w6 ⟨w.heap.size, 0, none⟩ (.slice au l.length cu) c6
      try go_wp2
      refine bodyPost_ret (v := .tuple #[.agg #[.slice au l.length cu], .int .i64 y]) (by simp [results, Tryz.results78, go_sem, cz]) rfl ?_
      exact ⟨_, l, _, rfl, hy0, hy1, M6.out.finish.1, M6.out.few, M6.out.finish.2⟩
    | true =>
      go_wp2_with (first
        | (go_at_call 16; refine (sIsSub _ au l l.length cu x rfl (by have := M5.out.few; omega) M5.out.ints).mono ?_; rw [hh]; rintro e w6 ⟨rfl, hb⟩; have M6 := Lib.hid (M5.out.below hb); have g6 := keepC hb (World.block_lt_of_cell? w5 _ g5) g5; have c6 := M6.out.cells.1; have f6 := M6.out.cells.2; clear hb)
        | (go_at_call 48; refine (sIsSet _ au l l.length cu y rfl (by have := M4.out.few; omega) M4.out.ints).mono ?_; rw [hs]; rintro e w5 ⟨rfl, hb⟩; have M5 := Lib.hid (M4.out.below hb); have g5 := keepC hb (World.block_lt_of_cell? w4 _ g4) g4; have c5 := M5.out.cells.1; have f5 := M5.out.cells.2; clear hb))
      refine (once_any _ C a len cap 2 hlen M6.out.cur M6.out.dat (by decide) (by decide)).mono ?_
      rintro e w7 ⟨b, rfl, hcur, hg⟩
      have M7 := Lib.hid (M6.out.grown hcur hg)
      have g7 := hg.cell g6 (by have := G2.out; simp; omega)
      have c7 := M7.out.cells.1
      have f7 := M7.out.cells.2
      clear hcur hg
      cases b with
      | false =>
        have cz := World.cell?_setCell_same w7 ⟨w.heap.size, 0, none⟩ (.slice au l.length cu) c7
        try go_wp2
        refine bodyPost_ret (v := .tuple #[.agg #[.slice au l.length cu], .int .i64 y]) (by simp [results, Tryz.results78, go_sem, cz]) rfl ?_
        exact ⟨_, l, _, rfl, hy0, hy1, M7.out.finish.1, M7.out.few, M7.out.finish.2⟩
      | true =>
        obtain ⟨hgg, yn, rfl, _, hy24⟩ := isS_true hs
        obtain ⟨_, xn, rfl, _, hx24⟩ := isS_true (show isS l x = true by unfold sgB at hh; exact (Bool.and_eq_true_iff.1 hh).1)
        have hv : sumN l yn xn < 16777216 := sumN24 hgg yn xn
        have F := Lib.hid (sSumL _ au l l.length cu yn xn hy24 hx24 rfl hgg M7.out.drew.ints)
        obtain ⟨V, hV⟩ : ∃ V, sumN l yn xn = V := ⟨_, rfl⟩
        rw [hV] at hv F
        go_wp2
        go_region_with (go_at_call 76; refine F.out.mono ?_; rintro e w8 ⟨rfl, hb⟩; have M8 := Lib.hid (M7.out.drew.below hb); have g8 := keepC hb (World.block_lt_of_cell? _ _ g7) g7; have c8 := M8.out.cells.1; have f8 := M8.out.cells.2; clear hb)
        all_goals
          have cz := World.cell?_setCell_same w8 ⟨w.heap.size, 0, none⟩ (.slice au l.length cu) c8
          try go_wp2
          refine bodyPost_ret (v := .tuple #[.agg #[.slice au l.length cu], .int .i64 (V : Nat)]) (by simp [results, Tryz.results78, go_sem, cz]) rfl ?_
          exact ⟨_, l, _, rfl, by omega, by omega, M8.out.finish.1, M8.out.few, M8.out.finish.2⟩
end Go.Proofs.YthlpjiibjlaebaaGreatDoor

namespace Go.Proofs.YthlpjiibjlaebaaGreatDoor
open Go.RowKit
set_option maxRecDepth 1000000
theorem shE_bnd (l : List Int) (s x : Int) : -9223372036854775808 ≤ shE l s x ∧ shE l s x ≤ 9223372036854775807 := by
  unfold shE
  split
  · next h =>
    split
    · have hg := (isS_true h).1
      have h1 : orF (fun y : Nat => addN l (y : Int) x) (bitsN s.toNat) < 16777216 := orF_lt (fun y : Nat => addN l (y : Int) x) (bitsN s.toNat) 24 (fun y _ => by have := addN_bnd hg (y : Int) x; show (addN l (y : Int) x).toNat < 24; omega)
      omega
    · omega
  · omega
set_option maxHeartbeats 4000000 in
theorem l5Both_any (w : World) (a : Option Addr) (len cap : Nat) (hlen : len ≤ 1048576) (hd : CodeIn w a len) :
    Calls Tryz.prog 45 #[.slice a len cap] w (DrawnGI w) := by
  have HN := Lib.hid (new_at w a len cap hlen hd)
  clear hd
  go_enter Tryz.func45, Tryz.ntmps45
  go_wp2_with (first
    | (go_at_call 71; refine (l5Group_any _ _ a len cap hlen HC1.out HD1.out).mono ?_; rintro e w2 ⟨u, l, x, rfl, hx0, hx1, ho, hl, hcur, hg⟩; obtain ⟨au, cu, rfl, m2⟩ := mid_of HD1.out HB1.out HC1.out ho hl hcur hg; have M2 := Lib.hid m2; clear ho hl hcur hg m2; have M3 := Lib.hid (M2.out.alloc #[.slice au l.length cu] 26); have g3 := newC w2 (.slice au l.length cu) 26 (n := w2.heap.size) rfl; have c3 := M3.out.cells.1; have f3 := M3.out.cells.2)
    | (go_at_call 65; refine HN.out.mono ?_; rintro e w1 ⟨rfl, hcur, hda, hbel⟩; have HC1 := Lib.hid hcur; have HD1 := Lib.hid hda; have HB1 := Lib.hid hbel; clear hcur hda hbel))
  have c4 := World.cell?_setCell_same (w2.alloc (.cells #[.slice au l.length cu] 26)) ⟨w.heap.size, 0, none⟩ (.slice au l.length cu) c3
  refine bodyPost_ret (v := .tuple #[.agg #[.slice au l.length cu], .int .i64 x]) (by simp [results, Tryz.results45, go_sem, c4]) rfl ?_
  exact ⟨_, l, x, rfl, hx0, hx1, M3.out.finish.1, M3.out.few, M3.out.finish.2⟩
theorem both5_at (w : World) (a : Option Addr) (len cap : Nat) (hlen : len ≤ 1048576) (hd : CodeIn w a len) :
    Calls Tryz.prog 45 #[.slice a len cap] (w.alloc nilG) fun e w1 => ∃ (u : Value) (l : List Int) (x : Int), e = .returned (.tuple #[.agg #[u], .int .i64 x]) ∧ -9223372036854775808 ≤ x ∧ x ≤ 9223372036854775807 ∧ w1.ownsRow (w.heap.size + 1) 3 1 u l.length (l.map (Value.int .i64)) ∧ l.length ≤ 4 ∧ Below (w.heap.size + 1) (w.alloc nilG) w1 := by
  have h := l5Both_any (w.alloc nilG) a len cap hlen (hd.below (Joins.below_alloc1 w nilG))
  have e : (w.alloc nilG).heap.size = w.heap.size + 1 := by simp
  unfold DrawnGI DGrp at h
  rw [e] at h
  exact h
/-- What a function that draws a group leaves. -/
def DrawnG (w : World) (e : Ending) (w' : World) : Prop := ∃ (u : Value) (l : List Int), e = .returned (.agg #[u]) ∧ DGrp w u l w'
end Go.Proofs.YthlpjiibjlaebaaGreatDoor

namespace Go.Proofs.YthlpjiibjlaebaaGreatDoor
open Go.RowKit
set_option maxRecDepth 1000000
set_option maxHeartbeats 4000000 in
theorem l2One_any (w : World) (a : Option Addr) (len cap : Nat) (hlen : len ≤ 1048576) (hd : CodeIn w a len) :
    Calls Tryz.prog 57 #[.slice a len cap] w (DrawnGI w) := by
  have HN := Lib.hid (new_at w a len cap hlen hd)
  clear hd
  go_enter Tryz.func57, Tryz.ntmps57
  go_wp2_with (first
    | (go_at_call 66; refine (l2Any_any _ _ a len cap hlen HC1.out HD1.out).mono ?_; rintro e w2 ⟨u, l, rfl, ho, hl, hcur, hg⟩; obtain ⟨au, cu, rfl, m2⟩ := mid_of HD1.out HB1.out HC1.out ho hl hcur hg; have M2 := Lib.hid m2; clear ho hl hcur hg m2; have M3 := Lib.hid (M2.out.alloc #[.slice au l.length cu] 26); have g3 := newC w2 (.slice au l.length cu) 26 (n := w2.heap.size) rfl; have G2 := Lib.hid M2.out.lt)
    | (go_at_call 65; refine HN.out.mono ?_; rintro e w1 ⟨rfl, hcur, hda, hbel⟩; have HC1 := Lib.hid hcur; have HD1 := Lib.hid hda; have HB1 := Lib.hid hbel; clear hcur hda hbel))
  have F3 := Lib.hid (l2Element_any _ _ a len cap l au l.length cu rfl (by have := M3.out.few; omega) M3.out.drew.ints M3.out.apart hlen M3.out.drew.cur M3.out.drew.dat)
  go_region_with (go_at_call 67; refine F3.out.mono ?_; rintro e w4 ⟨x, rfl, hx0, hx1, hcur, hg⟩; have M4 := Lib.hid (M3.out.drew.grown hcur hg); have g4 := hg.cell g3 (by have := G2.out; simp; omega); have c4 := M4.out.cells.1; have f4 := M4.out.cells.2; clear hcur hg)
  all_goals
    have c5 := World.cell?_setCell_same w4 ⟨w.heap.size, 0, none⟩ (.slice au l.length cu) c4
    go_wp2
    refine bodyPost_ret (v := .tuple #[.agg #[.slice au l.length cu], .int .i64 x]) (by simp [results, Tryz.results57, go_sem, c5]) rfl ?_
    exact ⟨_, l, x, rfl, hx0, hx1, M4.out.finish.1, M4.out.few, M4.out.finish.2⟩
set_option maxHeartbeats 4000000 in
theorem l2Two_any (w : World) (a : Option Addr) (len cap : Nat) (hlen : len ≤ 1048576) (hd : CodeIn w a len) :
    Calls Tryz.prog 37 #[.slice a len cap] w fun e w' => ∃ (u : Value) (l : List Int) (x y : Int), e = .returned (.tuple #[.agg #[u], .int .i64 x, .int .i64 y]) ∧ -9223372036854775808 ≤ x ∧ x ≤ 9223372036854775807 ∧ -9223372036854775808 ≤ y ∧ y ≤ 9223372036854775807 ∧ DGrp w u l w' := by
  have HN := Lib.hid (new_at w a len cap hlen hd)
  clear hd
  go_enter Tryz.func37, Tryz.ntmps37
  go_wp2_with (first
    | (go_at_call 67; refine (l2Element_any _ _ a len cap l au l.length cu rfl (by have := M3.out.few; omega) M3.out.ints M3.out.apart hlen M3.out.cur M3.out.dat).mono ?_; rintro e w4 ⟨x, rfl, hx0, hx1, hcur, hg⟩; have M4 := Lib.hid (M3.out.grown hcur hg); have g4 := hg.cell g3 (by have := G2.out; simp; omega); clear hcur hg)
    | (go_at_call 66; refine (l2Any_any _ _ a len cap hlen HC1.out HD1.out).mono ?_; rintro e w2 ⟨u, l, rfl, ho, hl, hcur, hg⟩; obtain ⟨au, cu, rfl, m2⟩ := mid_of HD1.out HB1.out HC1.out ho hl hcur hg; have M2 := Lib.hid m2; clear ho hl hcur hg m2; have M3 := Lib.hid (M2.out.alloc #[.slice au l.length cu] 26); have g3 := newC w2 (.slice au l.length cu) 26 (n := w2.heap.size) rfl; have G2 := Lib.hid M2.out.lt)
    | (go_at_call 65; refine HN.out.mono ?_; rintro e w1 ⟨rfl, hcur, hda, hbel⟩; have HC1 := Lib.hid hcur; have HD1 := Lib.hid hda; have HB1 := Lib.hid hbel; clear hcur hda hbel))
  have F3 := Lib.hid (l2Element_any _ _ a len cap l au l.length cu rfl (by have := M4.out.few; omega) M4.out.drew.ints M4.out.apart hlen M4.out.drew.cur M4.out.drew.dat)
  go_region_with (go_at_call 67; refine F3.out.mono ?_; rintro e w5 ⟨y, rfl, hy0, hy1, hcur, hg⟩; have M5 := Lib.hid (M4.out.drew.grown hcur hg); have g5 := hg.cell g4 (by have := G2.out; simp; omega); have c5 := M5.out.cells.1; have f5 := M5.out.cells.2; clear hcur hg)
  all_goals
    have c6 := World.cell?_setCell_same w5 ⟨w.heap.size, 0, none⟩ (.slice au l.length cu) c5
    go_wp2
    refine bodyPost_ret (v := .tuple #[.agg #[.slice au l.length cu], .int .i64 x, .int .i64 y]) (by simp [results, Tryz.results37, go_sem, c6]) rfl ?_
    exact ⟨_, l, x, y, rfl, hx0, hx1, hy0, hy1, M5.out.finish.1, M5.out.few, M5.out.finish.2⟩
theorem oneE_at (w : World) (a : Option Addr) (len cap : Nat) (hlen : len ≤ 1048576) (hd : CodeIn w a len) :
    Calls Tryz.prog 57 #[.slice a len cap] (w.alloc nilG) fun e w1 => ∃ (u : Value) (l : List Int) (x : Int), e = .returned (.tuple #[.agg #[u], .int .i64 x]) ∧ -9223372036854775808 ≤ x ∧ x ≤ 9223372036854775807 ∧ w1.ownsRow (w.heap.size + 1) 3 1 u l.length (l.map (Value.int .i64)) ∧ l.length ≤ 4 ∧ Below (w.heap.size + 1) (w.alloc nilG) w1 := by
  have h := l2One_any (w.alloc nilG) a len cap hlen (hd.below (Joins.below_alloc1 w nilG))
  have e : (w.alloc nilG).heap.size = w.heap.size + 1 := by simp
  unfold DrawnGI DGrp at h
  rw [e] at h
  exact h
theorem twoE_at (w : World) (a : Option Addr) (len cap : Nat) (hlen : len ≤ 1048576) (hd : CodeIn w a len) :
    Calls Tryz.prog 37 #[.slice a len cap] (w.alloc nilG) fun e w1 => ∃ (u : Value) (l : List Int) (x y : Int), e = .returned (.tuple #[.agg #[u], .int .i64 x, .int .i64 y]) ∧ -9223372036854775808 ≤ x ∧ x ≤ 9223372036854775807 ∧ -9223372036854775808 ≤ y ∧ y ≤ 9223372036854775807 ∧ w1.ownsRow (w.heap.size + 1) 3 1 u l.length (l.map (Value.int .i64)) ∧ l.length ≤ 4 ∧ Below (w.heap.size + 1) (w.alloc nilG) w1 := by
  have h := l2Two_any (w.alloc nilG) a len cap hlen (hd.below (Joins.below_alloc1 w nilG))
  have e : (w.alloc nilG).heap.size = w.heap.size + 1 := by simp
  unfold DGrp at h
  rw [e] at h
  exact h
end Go.Proofs.YthlpjiibjlaebaaGreatDoor
