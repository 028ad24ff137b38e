/- Merged: DGrp DGrp2 DGrp4. -/
import Derived.Test.YtaaflipfdemepaaGreatDoorSETA
import Derived.Deep.RegionHeld3
import Derived.Deep.LoopGhost
import Derived.Deep.Draws
import Derived.Deep.QuietTactic
import Derived.Shelf.RegionOpenPlain
namespace Go.Proofs.YtaaflipfdemepaaGreatDoor
open Go.RowKit
set_option maxRecDepth 1000000
/-- A drawn group, in the results. -/
def DGrp (w : World) (u : Value) (l : List Int) (w' : World) : Prop := w'.ownsRow w.heap.size 3 1 u l.length (l.map (Value.int .i64)) ∧ l.length ≤ 4 ∧ Below w.heap.size w w'
def DrawnGI (w : World) (e : Ending) (w' : World) : Prop := ∃ (u : Value) (l : List Int) (x : Int), e = .returned (.tuple #[.agg #[u], .int .i64 x]) ∧ -9223372036854775808 ≤ x ∧ x ≤ 9223372036854775807 ∧ DGrp w u l w'
set_option maxHeartbeats 4000000 in
theorem dFull_any (w : World) (a : Option Addr) (len cap : Nat) (hlen : len ≤ 1048576) (hd : CodeIn w a len) :
    Calls Tryz.prog 59 #[.slice a len cap] w fun e w' => ∃ (u : Value) (l : List Int), e = .returned (.agg #[u]) ∧ DGrp w u l w' := by
  have HN := Lib.hid (new_at w a len cap hlen hd)
  clear hd
  go_enter Tryz.func59, Tryz.ntmps59
  go_wp2_with (first
    | (go_at_call 79; refine (l2Any_any _ _ a len cap hlen HC1.out HD1.out).mono ?_; rintro e w2 ⟨u, l, rfl, ho, hl, hcur, hg⟩; obtain ⟨au, cu, rfl, m2⟩ := mid_of HD1.out HB1.out HC1.out ho hl hcur hg; have M2 := Lib.hid m2; clear ho hl hcur hg m2; have c2 := M2.out.cells.1; have f2 := M2.out.cells.2)
    | (go_at_call 78; refine HN.out.mono ?_; rintro e w1 ⟨rfl, hcur, hda, hbel⟩; have HC1 := Lib.hid hcur; have HD1 := Lib.hid hda; have HB1 := Lib.hid hbel; clear hcur hda hbel))
  have c3 := World.cell?_setCell_same w2 ⟨w.heap.size, 0, none⟩ (.slice au l.length cu) c2
  go_wp2
  refine bodyPost_ret (v := .agg #[.slice au l.length cu]) (by simp [results, Tryz.results59, go_sem, c3]) rfl ?_
  exact ⟨_, l, rfl, M2.out.finish.1, M2.out.few, M2.out.finish.2⟩
set_option maxHeartbeats 4000000 in
theorem l3One_any (w : World) (a : Option Addr) (len cap : Nat) (hlen : len ≤ 1048576) (hd : CodeIn w a len) :
    Calls Tryz.prog 92 #[.slice a len cap] w (DrawnGI w) := by
  have HN := Lib.hid (new_at w a len cap hlen hd)
  clear hd
  go_enter Tryz.func92, Tryz.ntmps92
  go_wp2_with (first
    | (go_at_call 79; refine (l2Any_any _ _ a len cap hlen HC1.out HD1.out).mono ?_; rintro e w2 ⟨u, l, rfl, ho, hl, hcur, hg⟩; obtain ⟨au, cu, rfl, m2⟩ := mid_of HD1.out HB1.out HC1.out ho hl hcur hg; have M2 := Lib.hid m2; clear ho hl hcur hg m2; have M3 := Lib.hid (M2.out.alloc #[.slice au l.length cu] 26); have g3 := newC w2 (.slice au l.length cu) 26 (n := w2.heap.size) rfl; have G2 := Lib.hid M2.out.lt)
    | (go_at_call 78; refine HN.out.mono ?_; rintro e w1 ⟨rfl, hcur, hda, hbel⟩; have HC1 := Lib.hid hcur; have HD1 := Lib.hid hda; have HB1 := Lib.hid hbel; clear hcur hda hbel))
  have F3 := Lib.hid (l3Set_any _ _ a len cap l au l.length cu rfl (by have := M3.out.few; omega) M3.out.drew.ints hlen M3.out.drew.cur M3.out.drew.dat)
  go_region_with (go_at_call 102; refine F3.out.mono ?_; rintro e w4 ⟨x, rfl, hx0, hx1, hcur, hg⟩; have M4 := Lib.hid (M3.out.drew.grown hcur hg); have g4 := hg.cell g3 (by have := G2.out; simp; omega); have c4 := M4.out.cells.1; have f4 := M4.out.cells.2; clear hcur hg)
  all_goals
    have c5 := World.cell?_setCell_same w4 ⟨w.heap.size, 0, none⟩ (.slice au l.length cu) c4
    go_wp2
    refine bodyPost_ret (v := .tuple #[.agg #[.slice au l.length cu], .int .i64 x]) (by simp [results, Tryz.results92, go_sem, c5]) rfl ?_
    exact ⟨_, l, x, rfl, hx0, hx1, M4.out.finish.1, M4.out.few, M4.out.finish.2⟩
end Go.Proofs.YtaaflipfdemepaaGreatDoor

namespace Go.Proofs.YtaaflipfdemepaaGreatDoor
open Go.RowKit
set_option maxRecDepth 1000000
/-- A result's variable, the drawn group in another one. -/
theorem hand_on {w w1 : World} {u : Value} {l : List Int} (hb : Below w.heap.size w w1) (h : w1.ownsRow (w.heap.size + 1) 3 1 u l.length (l.map (Value.int .i64))) :
    (w1.setCell ⟨w.heap.size, 0, none⟩ u).ownsRow w.heap.size 3 1 u l.length (l.map (Value.int .i64)) ∧ Below w.heap.size w (w1.setCell ⟨w.heap.size, 0, none⟩ u) :=
  ⟨ownsRow_lower (ownsRow_setCell_below (a := ⟨w.heap.size, 0, none⟩) h (by show w.heap.size < _; omega) _) (by omega), below_newset hb (Nat.le_refl _) _⟩
theorem one_at (w : World) (a : Option Addr) (len cap : Nat) (hlen : len ≤ 1048576) (hd : CodeIn w a len) :
    Calls Tryz.prog 92 #[.slice a len cap] (w.alloc nilG) fun e w1 => ∃ (u : Value) (l : List Int) (x : Int), e = .returned (.tuple #[.agg #[u], .int .i64 x]) ∧ -9223372036854775808 ≤ x ∧ x ≤ 9223372036854775807 ∧ w1.ownsRow (w.heap.size + 1) 3 1 u l.length (l.map (Value.int .i64)) ∧ l.length ≤ 4 ∧ Below (w.heap.size + 1) (w.alloc nilG) w1 := by
  have h := l3One_any (w.alloc nilG) a len cap hlen (hd.below (Joins.below_alloc1 w nilG))
  have e : (w.alloc nilG).heap.size = w.heap.size + 1 := by simp
  unfold DrawnGI DGrp at h
  rw [e] at h
  exact h
set_option maxHeartbeats 4000000 in
theorem dFmtS_any (w : World) (a : Option Addr) (len cap : Nat) (hlen : len ≤ 1048576) (hd : CodeIn w a len) :
    Calls Tryz.prog 38 #[.slice a len cap] w (DrawnGI w) := by
  have HN := Lib.hid (one_at w a len cap hlen hd)
  have R0 := Lib.hid (heap_alloc_new w nilG)
  clear hd
  go_enter Tryz.func38, Tryz.ntmps38
  go_wp2_with (go_at_call 92; refine HN.out.mono ?_; rintro e w1 ⟨u, l, x, rfl, hx0, hx1, ho, hl, hb⟩; go_loud (obtain ⟨au, cu, rfl⟩ := own_slice' rfl ho; have HO := Lib.hid ho; have HB := Lib.hid hb; have HL := Lib.hid hl; have g1 := newC w1 (.slice au l.length cu) 26 (n := w1.heap.size) rfl; have hs := (show w.heap.size + 1 ≤ w1.heap.size from by have := hb.size; simpa using this); obtain ⟨c1, f1⟩ := one_cell ((hb.block _ (by omega)).trans R0.out); have c2 : (w1.alloc (.cells #[.slice au l.length cu] 26)).cell? ⟨w.heap.size, 0, none⟩ = some (.slice none 0 0) := (World.cell?_alloc_past _ _ _ (by omega)).trans c1; have f2 := (frozen?_alloc_cells w1 #[.slice au l.length cu] 26 ⟨w.heap.size, 0, none⟩).trans f1; clear ho hl hb))
  have c3 := World.cell?_setCell_same (w1.alloc (.cells #[.slice au l.length cu] 26)) ⟨w.heap.size, 0, none⟩ (.slice au l.length cu) c2
  have HE := Lib.hid (hand_on (w := w) (w1 := w1.alloc (.cells #[.slice au l.length cu] 26)) (((Joins.below_alloc1 w nilG).trans (HB.out.mono (by omega))).trans ((Joins.below_alloc1 w1 _).mono (by omega))) (HO.out.alloc _))
  go_wp2
  refine bodyPost_ret (v := .tuple #[.agg #[.slice au l.length cu], .int .i64 x]) (by simp [results, Tryz.results38, go_sem, c3]) rfl ?_
  exact ⟨_, l, x, rfl, hx0, hx1, HE.out.1, HL.out, HE.out.2⟩
end Go.Proofs.YtaaflipfdemepaaGreatDoor

namespace Go.Proofs.YtaaflipfdemepaaGreatDoor
open Go.RowKit
set_option maxRecDepth 1000000
theorem big_no (w : World) (a : Option Addr) (len cap : Nat) (h : len ≤ 1048576) :
    Calls Tryz.prog 5 #[.slice a len cap] w fun e w' => e = .returned (.bool false) ∧ w = w' := by
  have h1 : ¬ (1048576 : Int) < (len : Int) := by omega
  go_enter Tryz.func5, Tryz.ntmps5
  go_wp2
  go_ret
  exact ⟨by first | rfl | (simp; done) | (simp; omega), rfl⟩
theorem big_yes (w : World) (a : Option Addr) (len cap : Nat) (h : 1048576 < len) :
    Calls Tryz.prog 5 #[.slice a len cap] w fun e w' => e = .returned (.bool true) ∧ w = w' := by
  have h1 : (1048576 : Int) < (len : Int) := by omega
  go_enter Tryz.func5, Tryz.ntmps5
  go_wp2
  go_ret
  exact ⟨by first | rfl | (simp; done) | (simp; omega), rfl⟩
set_option maxHeartbeats 4000000 in
/-- Two readings of one list are the same. -/
theorem sameInts_same (w : World) (a b : Option Addr) (p : List Int) (n ca cb : Nat) (hn : n = p.length) (hm : n ≤ 1048576) (hi : Ints w a p) (hj : Ints w b p) :
    Calls Tryz.prog 32 #[.slice a n ca, .slice b n cb] w fun e w' => e = .returned (.bool true) ∧ Below w.heap.size w w' := by
  have HI := Lib.hid hi
  have HJ := Lib.hid hj
  have HN := Lib.hid hn
  clear hi hj hn
  have mixed : Tryz.prog.follows .mixedOrders = true := by rfl
  go_enter Tryz.func32, Tryz.ntmps32
  go_wp2
  go_loopw [5] (fun i wr => ∃ k : Nat, i = .int .i64 k ∧ k ≤ n ∧ Below w.heap.size w wr) (fun i _ => n - (intOf i).toNat)
  case atStart => exact ⟨0, rfl, by omega, Below.refl _ _⟩
  case round =>
    obtain ⟨k, rfl, h1, hbel⟩ := hrel
    by_cases hk : k < n
    · have hkl : k < p.length := by have := HN.out; omega
      have HBL := Lib.hid hbel
      have r1 : ∃ ba oa, a = some ⟨ba, oa, none⟩ ∧ ∀ q, (wr.drewN q).cell? ⟨ba, oa + k, none⟩ = some (.int .i64 (p.getD k 0)) := by
        rcases HI.out with h0 | ⟨ba, oa, ha, hbl, hc⟩
        · rw [h0] at hkl; simp at hkl
        · exact ⟨ba, oa, ha, fun q => by simpa using keepC hbel hbl (hc k hkl)⟩
      have r2 : ∃ bb ob, b = some ⟨bb, ob, none⟩ ∧ ∀ q, (wr.drewN q).cell? ⟨bb, ob + k, none⟩ = some (.int .i64 (p.getD k 0)) := by
        rcases HJ.out with h0 | ⟨ba, oa, ha, hbl, hc⟩
        · rw [h0] at hkl; simp at hkl
        · exact ⟨ba, oa, ha, fun q => by simpa using keepC hbel hbl (hc k hkl)⟩
      obtain ⟨ba, oa, rfl, la⟩ := r1
      obtain ⟨bb, ob, rfl, lb⟩ := r2
      obtain ⟨x, hx⟩ : ∃ x, p.getD k 0 = x := ⟨_, rfl⟩
      rw [hx] at la lb
      have ea : ((k : Int)).toNat = k := by omega
      have pa : (0 : Int) ≤ (k : Int) := by omega
      have pb : (k : Int) < (n : Int) := by omega
      clear hx hbel hkl
      go_wp2_with fail
      go_quiet_o (fail)
      clear la lb ea
      go_wp2
      go_roundw
      case rel => exact ⟨k + 1, by go_num, by omega, ⟨HBL.out.os, HBL.out.tape, HBL.out.output, HBL.out.size, HBL.out.block⟩⟩
      case measure => simp [intOf]; omega
    · obtain rfl : k = n := by omega
      have HBL := Lib.hid hbel
      clear hbel
      go_wp2
      go_ret
      exact ⟨rfl, HBL.out⟩
set_option maxHeartbeats 4000000 in
theorem dDil_any (w : World) (a : Option Addr) (len cap : Nat) (hlen : len ≤ 1048576) (hd : CodeIn w a len) :
    Calls Tryz.prog 58 #[.slice a len cap] w fun e w' => ∃ (u : Value) (l : List Int) (x y : Int), e = .returned (.tuple #[.agg #[u], .int .i64 x, .int .i64 y]) ∧ -9223372036854775808 ≤ x ∧ x ≤ 9223372036854775807 ∧ -9223372036854775808 ≤ y ∧ y ≤ 9223372036854775807 ∧ DGrp w u l w' := by
  have HN := Lib.hid (one_at w a len cap hlen hd)
  have R0 := Lib.hid (heap_alloc_new w nilG)
  clear hd
  have hq7 : (len : Int) % 7 = 0 ∨ (len : Int) % 7 = 1 ∨ (len : Int) % 7 = 2 ∨ (len : Int) % 7 = 3 ∨ (len : Int) % 7 = 4 ∨ (len : Int) % 7 = 5 ∨ (len : Int) % 7 = 6 := by omega
  go_enter Tryz.func58, Tryz.ntmps58
  go_wp2_with (go_at_call 92; refine HN.out.mono ?_; rintro e w1 ⟨u, l, x, rfl, hx0, hx1, ho, hl, hb⟩; obtain ⟨au, cu, rfl⟩ := own_slice' rfl ho; have HO := Lib.hid ho; have HB := Lib.hid hb; have HL := Lib.hid hl; have g1 := newC w1 (.slice au l.length cu) 26 (n := w1.heap.size) rfl; have hs := (show w.heap.size + 1 ≤ w1.heap.size from by have := hb.size; simpa using this); obtain ⟨c1, f1⟩ := one_cell ((hb.block _ (by omega)).trans R0.out); have c2 : (w1.alloc (.cells #[.slice au l.length cu] 26)).cell? ⟨w.heap.size, 0, none⟩ = some (.slice none 0 0) := (World.cell?_alloc_past _ _ _ (by omega)).trans c1; have f2 := (frozen?_alloc_cells w1 #[.slice au l.length cu] 26 ⟨w.heap.size, 0, none⟩).trans f1; clear ho hl hb)
  obtain ⟨W, hW⟩ : ∃ W, W = w1.alloc (.cells #[.slice au l.length cu] 26) := ⟨_, rfl⟩
  have HWO : Hid (W.ownsRow (w.heap.size + 1) 3 1 (.slice au l.length cu) l.length (l.map (Value.int .i64)) ∧ Below w.heap.size w W) := Lib.hid (by rw [hW]; exact ⟨HO.out.alloc _, ((Joins.below_alloc1 w nilG).trans (HB.out.mono (by omega))).trans ((Joins.below_alloc1 w1 _).mono (by omega))⟩)
  have hws : w1.heap.size < W.heap.size := by rw [hW]; simp
  rw [← hW] at c2 f2 g1 ⊢
  clear hW
  have hww : w.heap.size ≤ W.drew.heap.size := by show w.heap.size ≤ W.heap.size; omega
  have hw1 : w.heap.size < W.heap.size := by omega
  have k2 : (W.drew.alloc (.cells #[.int .i64 0, .int .i64 1, .int .i64 2, .int .i64 (-1), .int .i64 3, .int .i64 (-101), .int .i64 5] 3)).cell? ⟨w1.heap.size, 0, none⟩ = some (.slice au l.length cu) := (World.cell?_alloc_past _ _ _ hws).trans g1
  have k3 : (W.drew.alloc (.cells #[.int .i64 0, .int .i64 1, .int .i64 2, .int .i64 (-1), .int .i64 3, .int .i64 (-101), .int .i64 5] 3)).cell? ⟨w.heap.size, 0, none⟩ = some (.slice none 0 0) := (World.cell?_alloc_past _ _ _ hw1).trans c2
  have k4 : (W.drew.alloc (.cells #[.int .i64 0, .int .i64 1, .int .i64 2, .int .i64 (-1), .int .i64 3, .int .i64 (-101), .int .i64 5] 3)).frozen? ⟨w.heap.size, 0, none⟩ = false := (frozen?_alloc_cells _ _ _ _).trans f2
  have k5 : ((W.setCell ⟨w.heap.size, 0, none⟩ (.slice au l.length cu)).alloc (.cells #[.int .i64 0, .int .i64 1, .int .i64 2, .int .i64 (-1), .int .i64 3, .int .i64 (-101), .int .i64 5] 3)).cell? ⟨w.heap.size, 0, none⟩ = some (.slice au l.length cu) := (World.cell?_alloc_past _ _ _ (by simpa using hw1)).trans (World.cell?_setCell_same _ _ _ c2)
  have HE : Hid (World.ownsRow (((W.setCell ⟨w.heap.size, 0, none⟩ (.slice au l.length cu)).alloc (.cells #[.int .i64 0, .int .i64 1, .int .i64 2, .int .i64 (-1), .int .i64 3, .int .i64 (-101), .int .i64 5] 3)).drew) w.heap.size 3 1 (.slice au l.length cu) l.length (l.map (Value.int .i64)) ∧ Below w.heap.size w (((W.setCell ⟨w.heap.size, 0, none⟩ (.slice au l.length cu)).alloc (.cells #[.int .i64 0, .int .i64 1, .int .i64 2, .int .i64 (-1), .int .i64 3, .int .i64 (-101), .int .i64 5] 3)).drew)) := Lib.hid (by
    have h := hand_on (w := w) (w1 := W) HWO.out.2 HWO.out.1
    exact ⟨(h.1.alloc _).drew, (h.2.trans ((Joins.below_alloc1 _ _).mono (by simp; omega))).drew⟩)
  have htm : (len : Int).tmod 7 = (len : Int) % 7 := Int.tmod_eq_emod_of_nonneg (by omega)
  rcases hq7 with e7 | e7 | e7 | e7 | e7 | e7 | e7
  · have t7 := htm.trans e7
    clear htm
    go_region_with (fail)
    all_goals
      go_wp2
      refine bodyPost_ret (v := .tuple #[.agg #[.slice au l.length cu], .int .i64 x, .int .i64 (0)]) (by simp [results, Tryz.results58, go_sem, k5]) rfl ?_
      exact ⟨_, l, x, 0, rfl, hx0, hx1, by decide, by decide, HE.out.1, HL.out, HE.out.2⟩
  · have t7 := htm.trans e7
    clear htm
    go_region_with (fail)
    all_goals
      go_wp2
      refine bodyPost_ret (v := .tuple #[.agg #[.slice au l.length cu], .int .i64 x, .int .i64 (1)]) (by simp [results, Tryz.results58, go_sem, k5]) rfl ?_
      exact ⟨_, l, x, 1, rfl, hx0, hx1, by decide, by decide, HE.out.1, HL.out, HE.out.2⟩
  · have t7 := htm.trans e7
    clear htm
    go_region_with (fail)
    all_goals
      go_wp2
      refine bodyPost_ret (v := .tuple #[.agg #[.slice au l.length cu], .int .i64 x, .int .i64 (2)]) (by simp [results, Tryz.results58, go_sem, k5]) rfl ?_
      exact ⟨_, l, x, 2, rfl, hx0, hx1, by decide, by decide, HE.out.1, HL.out, HE.out.2⟩
  · have t7 := htm.trans e7
    clear htm
    go_region_with (fail)
    all_goals
      go_wp2
      refine bodyPost_ret (v := .tuple #[.agg #[.slice au l.length cu], .int .i64 x, .int .i64 (-1)]) (by simp [results, Tryz.results58, go_sem, k5]) rfl ?_
      exact ⟨_, l, x, -1, rfl, hx0, hx1, by decide, by decide, HE.out.1, HL.out, HE.out.2⟩
  · have t7 := htm.trans e7
    clear htm
    go_region_with (fail)
    all_goals
      go_wp2
      refine bodyPost_ret (v := .tuple #[.agg #[.slice au l.length cu], .int .i64 x, .int .i64 (3)]) (by simp [results, Tryz.results58, go_sem, k5]) rfl ?_
      exact ⟨_, l, x, 3, rfl, hx0, hx1, by decide, by decide, HE.out.1, HL.out, HE.out.2⟩
  · have t7 := htm.trans e7
    clear htm
    go_region_with (fail)
    all_goals
      go_wp2
      refine bodyPost_ret (v := .tuple #[.agg #[.slice au l.length cu], .int .i64 x, .int .i64 (-101)]) (by simp [results, Tryz.results58, go_sem, k5]) rfl ?_
      exact ⟨_, l, x, -101, rfl, hx0, hx1, by decide, by decide, HE.out.1, HL.out, HE.out.2⟩
  · have t7 := htm.trans e7
    clear htm
    go_region_with (fail)
    all_goals
      go_wp2
      refine bodyPost_ret (v := .tuple #[.agg #[.slice au l.length cu], .int .i64 x, .int .i64 (5)]) (by simp [results, Tryz.results58, go_sem, k5]) rfl ?_
      exact ⟨_, l, x, 5, rfl, hx0, hx1, by decide, by decide, HE.out.1, HL.out, HE.out.2⟩
end Go.Proofs.YtaaflipfdemepaaGreatDoor
