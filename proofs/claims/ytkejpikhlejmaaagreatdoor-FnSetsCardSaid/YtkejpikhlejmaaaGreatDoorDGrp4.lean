/- The drawing of a group with a set and a number; the law's small helpers. -/
import Derived.Test.YtkejpikhlejmaaaGreatDoorDGRA
import Derived.Deep.LoopGhost
import Derived.Deep.Draws
import Derived.Deep.QuietTactic
import Derived.Shelf.RegionOpenPlain
namespace Go.Proofs.YtkejpikhlejmaaaGreatDoor
open Go.RowKit
set_option maxRecDepth 1000000
theorem big_no (w : World) (a : Option Addr) (len cap : Nat) (h : len ≤ 1048576) :
    Calls Tryz.prog 4 #[.slice a len cap] w fun e w' => e = .returned (.bool false) ∧ w = w' := by
  have h1 : ¬ (1048576 : Int) < (len : Int) := by omega
  go_enter Tryz.func4, Tryz.ntmps4
  go_wp2
  go_ret
  exact ⟨by first | rfl | (simp; done) | (simp; omega), rfl⟩
theorem big_yes (w : World) (a : Option Addr) (len cap : Nat) (h : 1048576 < len) :
    Calls Tryz.prog 4 #[.slice a len cap] w fun e w' => e = .returned (.bool true) ∧ w = w' := by
  have h1 : (1048576 : Int) < (len : Int) := by omega
  go_enter Tryz.func4, Tryz.ntmps4
  go_wp2
  go_ret
  exact ⟨by first | rfl | (simp; done) | (simp; omega), rfl⟩
set_option maxHeartbeats 4000000 in
/-- Two readings of one list are the same. -/
theorem sameInts_same (w : World) (a b : Option Addr) (p : List Int) (n ca cb : Nat) (hn : n = p.length) (hm : n ≤ 1048576) (hi : Ints w a p) (hj : Ints w b p) :
    Calls Tryz.prog 13 #[.slice a n ca, .slice b n cb] w fun e w' => e = .returned (.bool true) ∧ Below w.heap.size w w' := by
  have HI := Lib.hid hi
  have HJ := Lib.hid hj
  have HN := Lib.hid hn
  clear hi hj hn
  have mixed : Tryz.prog.follows .mixedOrders = true := by rfl
  go_enter Tryz.func13, Tryz.ntmps13
  go_wp2
  go_loopw [5] (fun i wr => ∃ k : Nat, i = .int .i64 k ∧ k ≤ n ∧ Below w.heap.size w wr) (fun i _ => n - (intOf i).toNat)
  case atStart => exact ⟨0, rfl, by omega, Below.refl _ _⟩
  case round =>
    obtain ⟨k, rfl, h1, hbel⟩ := hrel
    by_cases hk : k < n
    · have hkl : k < p.length := by have := HN.out; omega
      have HBL := Lib.hid hbel
      have r1 : ∃ ba oa, a = some ⟨ba, oa, none⟩ ∧ ∀ q, (wr.drewN q).cell? ⟨ba, oa + k, none⟩ = some (.int .i64 (p.getD k 0)) := by
        rcases HI.out with h0 | ⟨ba, oa, ha, hbl, hc⟩
        · rw [h0] at hkl; simp at hkl
        · exact ⟨ba, oa, ha, fun q => by simpa using keepC hbel hbl (hc k hkl)⟩
      have r2 : ∃ bb ob, b = some ⟨bb, ob, none⟩ ∧ ∀ q, (wr.drewN q).cell? ⟨bb, ob + k, none⟩ = some (.int .i64 (p.getD k 0)) := by
        rcases HJ.out with h0 | ⟨ba, oa, ha, hbl, hc⟩
        · rw [h0] at hkl; simp at hkl
        · exact ⟨ba, oa, ha, fun q => by simpa using keepC hbel hbl (hc k hkl)⟩
      obtain ⟨ba, oa, rfl, la⟩ := r1
      obtain ⟨bb, ob, rfl, lb⟩ := r2
      obtain ⟨x, hx⟩ : ∃ x, p.getD k 0 = x := ⟨_, rfl⟩
      rw [hx] at la lb
      have ea : ((k : Int)).toNat = k := by omega
      have pa : (0 : Int) ≤ (k : Int) := by omega
      have pb : (k : Int) < (n : Int) := by omega
      clear hx hbel hkl
      go_wp2_with fail
      go_quiet_o (fail)
      clear la lb ea
      go_wp2
      go_roundw
      case rel => exact ⟨k + 1, by go_num, by omega, ⟨HBL.out.os, HBL.out.tape, HBL.out.output, HBL.out.size, HBL.out.block⟩⟩
      case measure => simp [intOf]; omega
    · obtain rfl : k = n := by omega
      have HBL := Lib.hid hbel
      clear hbel
      go_wp2
      go_ret
      exact ⟨rfl, HBL.out⟩
set_option maxHeartbeats 4000000 in
theorem dDil_any (w : World) (a : Option Addr) (len cap : Nat) (hlen : len ≤ 1048576) (hd : CodeIn w a len) :
    Calls Tryz.prog 27 #[.slice a len cap] w fun e w' => ∃ (u : Value) (l : List Int) (x y : Int), e = .returned (.tuple #[.agg #[u], .int .i64 x, .int .i64 y]) ∧ -9223372036854775808 ≤ x ∧ x ≤ 9223372036854775807 ∧ -9223372036854775808 ≤ y ∧ y ≤ 9223372036854775807 ∧ DGrp w u l w' := by
  have HN := Lib.hid (one_at w a len cap hlen hd)
  have R0 := Lib.hid (heap_alloc_new w nilG)
  clear hd
  have hq7 : (len : Int) % 7 = 0 ∨ (len : Int) % 7 = 1 ∨ (len : Int) % 7 = 2 ∨ (len : Int) % 7 = 3 ∨ (len : Int) % 7 = 4 ∨ (len : Int) % 7 = 5 ∨ (len : Int) % 7 = 6 := by omega
  go_enter Tryz.func27, Tryz.ntmps27
  go_wp2_with (go_at_call 33; refine HN.out.mono ?_; rintro e w1 ⟨u, l, x, rfl, hx0, hx1, ho, hl, hb⟩; obtain ⟨au, cu, rfl⟩ := own_slice' rfl ho; have HO := Lib.hid ho; have HB := Lib.hid hb; have HL := Lib.hid hl; have g1 := newC w1 (.slice au l.length cu) 26 (n := w1.heap.size) rfl; have hs := (show w.heap.size + 1 ≤ w1.heap.size from by have := hb.size; simpa using this); obtain ⟨c1, f1⟩ := one_cell ((hb.block _ (by omega)).trans R0.out); have c2 : (w1.alloc (.cells #[.slice au l.length cu] 26)).cell? ⟨w.heap.size, 0, none⟩ = some (.slice none 0 0) := (World.cell?_alloc_past _ _ _ (by omega)).trans c1; have f2 := (frozen?_alloc_cells w1 #[.slice au l.length cu] 26 ⟨w.heap.size, 0, none⟩).trans f1; clear ho hl hb)
  obtain ⟨W, hW⟩ : ∃ W, W = w1.alloc (.cells #[.slice au l.length cu] 26) := ⟨_, rfl⟩
  have HWO : Hid (W.ownsRow (w.heap.size + 1) 3 1 (.slice au l.length cu) l.length (l.map (Value.int .i64)) ∧ Below w.heap.size w W) := Lib.hid (by rw [hW]; exact ⟨HO.out.alloc _, ((Joins.below_alloc1 w nilG).trans (HB.out.mono (by omega))).trans ((Joins.below_alloc1 w1 _).mono (by omega))⟩)
  have hws : w1.heap.size < W.heap.size := by rw [hW]; simp
  rw [← hW] at c2 f2 g1 ⊢
  clear hW
  have hww : w.heap.size ≤ W.drew.heap.size := by show w.heap.size ≤ W.heap.size; omega
  have hw1 : w.heap.size < W.heap.size := by omega
  have k2 : (W.drew.alloc (.cells #[.int .i64 0, .int .i64 1, .int .i64 2, .int .i64 (-1), .int .i64 3, .int .i64 (-101), .int .i64 5] 3)).cell? ⟨w1.heap.size, 0, none⟩ = some (.slice au l.length cu) := (World.cell?_alloc_past _ _ _ hws).trans g1
  have k3 : (W.drew.alloc (.cells #[.int .i64 0, .int .i64 1, .int .i64 2, .int .i64 (-1), .int .i64 3, .int .i64 (-101), .int .i64 5] 3)).cell? ⟨w.heap.size, 0, none⟩ = some (.slice none 0 0) := (World.cell?_alloc_past _ _ _ hw1).trans c2
  have k4 : (W.drew.alloc (.cells #[.int .i64 0, .int .i64 1, .int .i64 2, .int .i64 (-1), .int .i64 3, .int .i64 (-101), .int .i64 5] 3)).frozen? ⟨w.heap.size, 0, none⟩ = false := (frozen?_alloc_cells _ _ _ _).trans f2
  have k5 : ((W.setCell ⟨w.heap.size, 0, none⟩ (.slice au l.length cu)).alloc (.cells #[.int .i64 0, .int .i64 1, .int .i64 2, .int .i64 (-1), .int .i64 3, .int .i64 (-101), .int .i64 5] 3)).cell? ⟨w.heap.size, 0, none⟩ = some (.slice au l.length cu) := (World.cell?_alloc_past _ _ _ (by simpa using hw1)).trans (World.cell?_setCell_same _ _ _ c2)
  have HE : Hid (World.ownsRow (((W.setCell ⟨w.heap.size, 0, none⟩ (.slice au l.length cu)).alloc (.cells #[.int .i64 0, .int .i64 1, .int .i64 2, .int .i64 (-1), .int .i64 3, .int .i64 (-101), .int .i64 5] 3)).drew) w.heap.size 3 1 (.slice au l.length cu) l.length (l.map (Value.int .i64)) ∧ Below w.heap.size w (((W.setCell ⟨w.heap.size, 0, none⟩ (.slice au l.length cu)).alloc (.cells #[.int .i64 0, .int .i64 1, .int .i64 2, .int .i64 (-1), .int .i64 3, .int .i64 (-101), .int .i64 5] 3)).drew)) := Lib.hid (by
    have h := hand_on (w := w) (w1 := W) HWO.out.2 HWO.out.1
    exact ⟨(h.1.alloc _).drew, (h.2.trans ((Joins.below_alloc1 _ _).mono (by simp; omega))).drew⟩)
  have htm : (len : Int).tmod 7 = (len : Int) % 7 := Int.tmod_eq_emod_of_nonneg (by omega)
  rcases hq7 with e7 | e7 | e7 | e7 | e7 | e7 | e7
  · have t7 := htm.trans e7
    clear htm
    go_region_with (fail)
    all_goals
      go_wp2
      refine bodyPost_ret (v := .tuple #[.agg #[.slice au l.length cu], .int .i64 x, .int .i64 (0)]) (by simp [results, Tryz.results27, go_sem, k5]) rfl ?_
      exact ⟨_, l, x, 0, rfl, hx0, hx1, by decide, by decide, HE.out.1, HL.out, HE.out.2⟩
  · have t7 := htm.trans e7
    clear htm
    go_region_with (fail)
    all_goals
      go_wp2
      refine bodyPost_ret (v := .tuple #[.agg #[.slice au l.length cu], .int .i64 x, .int .i64 (1)]) (by simp [results, Tryz.results27, go_sem, k5]) rfl ?_
      exact ⟨_, l, x, 1, rfl, hx0, hx1, by decide, by decide, HE.out.1, HL.out, HE.out.2⟩
  · have t7 := htm.trans e7
    clear htm
    go_region_with (fail)
    all_goals
      go_wp2
      refine bodyPost_ret (v := .tuple #[.agg #[.slice au l.length cu], .int .i64 x, .int .i64 (2)]) (by simp [results, Tryz.results27, go_sem, k5]) rfl ?_
      exact ⟨_, l, x, 2, rfl, hx0, hx1, by decide, by decide, HE.out.1, HL.out, HE.out.2⟩
  · have t7 := htm.trans e7
    clear htm
    go_region_with (fail)
    all_goals
      go_wp2
      refine bodyPost_ret (v := .tuple #[.agg #[.slice au l.length cu], .int .i64 x, .int .i64 (-1)]) (by simp [results, Tryz.results27, go_sem, k5]) rfl ?_
      exact ⟨_, l, x, -1, rfl, hx0, hx1, by decide, by decide, HE.out.1, HL.out, HE.out.2⟩
  · have t7 := htm.trans e7
    clear htm
    go_region_with (fail)
    all_goals
      go_wp2
      refine bodyPost_ret (v := .tuple #[.agg #[.slice au l.length cu], .int .i64 x, .int .i64 (3)]) (by simp [results, Tryz.results27, go_sem, k5]) rfl ?_
      exact ⟨_, l, x, 3, rfl, hx0, hx1, by decide, by decide, HE.out.1, HL.out, HE.out.2⟩
  · have t7 := htm.trans e7
    clear htm
    go_region_with (fail)
    all_goals
      go_wp2
      refine bodyPost_ret (v := .tuple #[.agg #[.slice au l.length cu], .int .i64 x, .int .i64 (-101)]) (by simp [results, Tryz.results27, go_sem, k5]) rfl ?_
      exact ⟨_, l, x, -101, rfl, hx0, hx1, by decide, by decide, HE.out.1, HL.out, HE.out.2⟩
  · have t7 := htm.trans e7
    clear htm
    go_region_with (fail)
    all_goals
      go_wp2
      refine bodyPost_ret (v := .tuple #[.agg #[.slice au l.length cu], .int .i64 x, .int .i64 (5)]) (by simp [results, Tryz.results27, go_sem, k5]) rfl ?_
      exact ⟨_, l, x, 5, rfl, hx0, hx1, by decide, by decide, HE.out.1, HL.out, HE.out.2⟩
end Go.Proofs.YtkejpikhlejmaaaGreatDoor
