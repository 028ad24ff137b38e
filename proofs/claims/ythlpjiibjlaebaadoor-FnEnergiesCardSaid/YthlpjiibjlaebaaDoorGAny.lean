/- The drawing of any group, and of elements. -/
import Derived.Test.YthlpjiibjlaebaaDoorGDraw
namespace Go.Proofs.YthlpjiibjlaebaaDoor
open Go.RowKit
set_option maxRecDepth 1000000
theorem own_form {w : World} {base : Nat} {e : TypeId} {size : Nat} {v : Value} {n : Nat} {xs : List Value} (h : w.ownsRow base e size v n xs) : ∃ ao n' cap', v = .slice ao n' cap' := by
  rcases h.2 with ⟨h, _⟩ | ⟨g, cap, cur, h, _⟩
  · exact ⟨_, _, _, h⟩
  · exact ⟨_, _, _, h⟩
theorem group_end2 {w w3 wa : World} {C B : Nat} {a : Option Addr} {len cap n : Nat} {v : Value} {xs : List Value} (hC : C < w.heap.size) (hc : CurAt w3 C a len cap) (hC3 : C < w3.heap.size) (h3 : w.grownBy w3 (some C)) (hB : w.heap.size < B)
    (ha : w3.grownBy wa none) (ho : wa.ownsRow B 3 1 v n xs) :
    (wa.setCell ⟨w.heap.size, 0, none⟩ v).ownsRow w.heap.size 3 1 v n xs ∧ CurAt (wa.setCell ⟨w.heap.size, 0, none⟩ v) C a len cap ∧ w.grownBy (wa.setCell ⟨w.heap.size, 0, none⟩ v) (some C) := by
  refine ⟨ownsRow_lower (ownsRow_setCell_below (a := ⟨w.heap.size, 0, none⟩) ho hB v) (Nat.le_of_lt hB), hc.other ?_, grown_newset (grownC_trans h3 ⟨ha.os, ha.tape, ha.output, ha.size, fun k hk _ => ha.block k hk (by simp)⟩) (Nat.le_refl _) v⟩
  rw [heap_setCell_other _ _ _ _ (fun e => by simp at e; omega)]
  exact ha.block C hC3 (by simp)
/-- What stands after the group is drawn and the cursor asked once more. -/
theorem any_mid {w w1 w3 : World} {C n : Nat} {u : Value} {xs : List Value} (hC : C < w.heap.size) (h0 : w.grownBy (w.alloc (.cells #[.slice none 0 0] 26)) (some C)) (R0 : (w.alloc (.cells #[.slice none 0 0] 26)).heap[w.heap.size]? = some (.cells #[.slice none 0 0] 26 (0, 0)))
    (ho : w1.ownsRow (w.alloc (.cells #[.slice none 0 0] 26)).heap.size 3 1 u n xs) (hg : (w.alloc (.cells #[.slice none 0 0] 26)).grownBy w1 (some C)) (hg3 : (w1.alloc (.cells #[u] 26)).grownBy w3 (some C)) :
    w3.ownsRow (w.heap.size + 1) 3 1 u n xs ∧ w.grownBy w3 (some C) ∧ w3.heap[w.heap.size]? = some (.cells #[.slice none 0 0] 26 (0, 0)) ∧ w3.cell? ⟨w1.heap.size, 0, none⟩ = some u ∧ w.heap.size < w3.heap.size := by
  have ho' : w1.ownsRow (w.heap.size + 1) 3 1 u n xs := by simpa using ho
  have hs1 : w.heap.size + 1 ≤ w1.heap.size := by simpa using hg.size
  have hs3 : w1.heap.size + 1 ≤ w3.heap.size := by simpa using hg3.size
  refine ⟨(ho'.alloc _).kept hg3 (.inr fun e => ?_), grownC_trans (grownC_trans (grownC_trans h0 hg) (World.grownBy_alloc w1 _ _)) hg3, ?_, hg3.cell (newC w1 u _ rfl) (by simp; omega), by omega⟩
  · have := (ho'.lt C e).1; omega
  · exact (hg3.block _ (by simp; omega) (by simp; omega)).trans (((World.grownBy_alloc w1 (.cells #[u] 26) none).block _ (by omega) (by simp)).trans ((hg.block _ (by simp) (by simp; omega)).trans R0))
set_option maxHeartbeats 4000000 in
theorem l2Any_any (w : World) (C : Nat) (a : Option Addr) (len cap : Nat) (hlen : len ≤ 1048576) (hc : CurAt w C a len cap) (hd : DataAt w C a len) :
    Calls Tryd.prog 75 #[.pointer (some ⟨C, 0, none⟩)] w fun e w' => ∃ (u : Value) (l : List Int), e = .returned (.agg #[u]) ∧ w'.ownsRow w.heap.size 3 1 u l.length (l.map (Value.int .i64)) ∧ l.length ≤ 4 ∧ CurAt w' C a len cap ∧ w.grownBy w' (some C) := by
  have HC := Lib.hid hc
  have HD := Lib.hid hd
  have hCw : C < w.heap.size := hc.lt
  have HG0 := Lib.hid (World.grownBy_alloc w (.cells #[.slice none 0 0] 26) (some C))
  have HCA := Lib.hid (HC.out.other ((World.grownBy_alloc w (.cells #[.slice none 0 0] 26) none).block C hCw (by simp)))
  have HDA := Lib.hid (HD.out.grown HG0.out)
  have HDR := Lib.hid (l2Draw_any (w.alloc (.cells #[.slice none 0 0] 26)) C a len cap 24 hlen HCA.out HDA.out)
  have R0 : Hid ((w.alloc (.cells #[.slice none 0 0] 26)).heap[w.heap.size]? = some (.cells #[.slice none 0 0] 26 (0, 0))) := Lib.hid (heap_alloc_new w _)
  clear hc hd
  go_enter Tryd.func75, Tryd.ntmps75
  go_wp2_with (go_at_call 90; refine HDR.out.mono ?_; rintro e w1 ⟨u, l, rfl, ho1, hl1, hcur1, hg1⟩; obtain ⟨ao, n', cap', rfl⟩ := own_form ho1; have hC1 : C < w1.heap.size := (by have := hg1.size; simp at this; omega))
  refine (below_small _ C a len cap 16 hlen (hcur1.other ((World.grownBy_alloc w1 _ none).block C hC1 (by simp))) (HD.out.grown (grownC_trans (grownC_trans HG0.out hg1) (World.grownBy_alloc w1 _ _))) (by decide) (by decide)).mono ?_
  rintro e w3 ⟨x, rfl, hx0, hx1, hcur, hg⟩
  obtain ⟨ho3, hG3, hR3, c3, hsz3⟩ := any_mid hCw HG0.out R0.out ho1 hg1 hg
  obtain ⟨c1, f1⟩ := one_cell hR3
  have hC3 : C < w3.heap.size := by omega
  have HCU := Lib.hid hcur
  have HW3 := Lib.hid hG3
  have HO3 := Lib.hid ho3
  have R3 := Lib.hid hR3
  have HD3 := Lib.hid (HD.out.grown hG3)
  clear hcur hg hg1 hcur1 ho1 ho3 hG3 hR3 HDR HCA HDA HG0 R0
  by_cases h0 : x = 0
  · subst h0
    go_wp2_with (fail)
    refine (pick_any _ C a len cap w3.heap.size 5 5 hlen ?h1 ?h2 (by omega) (by omega) ?h3 ?h4).mono ?_
    case h1 => exact HCU.out.other (heap_alloc_old w3 _ hC3)
    case h2 => exact HD3.out.grown (World.grownBy_alloc w3 _ _)
    case h3 => omega
    case h4 =>
      intro i hi
      have : ∃ z : Int, -9223372036854775808 ≤ z ∧ z ≤ 9223372036854775807 ∧ (#[.int .i64 0, .int .i64 1, .int .i64 (-1), .int .i64 25, .int .i64 9223372036854775807] : Array Value)[i]? = some (.int .i64 z) := by
        match i, hi with
        | 0, _ => exact ⟨0, by decide, by decide, rfl⟩
        | 1, _ => exact ⟨1, by decide, by decide, rfl⟩
        | 2, _ => exact ⟨-1, by decide, by decide, rfl⟩
        | 3, _ => exact ⟨25, by decide, by decide, rfl⟩
        | 4, _ => exact ⟨9223372036854775807, by decide, by decide, rfl⟩
      obtain ⟨z, hz0, hz1, hz⟩ := this
      exact ⟨z, hz0, hz1, (World.cell?_alloc_at _ _ _ _ rfl).trans hz⟩
    rintro e w4 ⟨z, rfl, hz0, hz1, hcur4, hg4⟩
    have hs4 : w3.heap.size + 1 ≤ w4.heap.size := by simpa using hg4.size
    have hsz4 : w.heap.size < w4.heap.size := by omega
    have HW4 := grownC_trans (grownC_trans HW3.out (World.grownBy_alloc w3 _ _)) hg4
    obtain ⟨c4, f4⟩ := one_cell ((hg4.block _ (by simp; omega) (by simp; omega)).trans ((heap_alloc_old w3 _ hsz3).trans R3.out))
    have E := Lib.hid (group_end hCw hcur4 (by omega) HW4 hsz4 (World.grownBy_alloc w4 (.cells #[.int .i64 z] 3) none) (World.ownsRow_lit w4 #[.int .i64 z] 1 (Nat.le_refl _) (by decide) rfl))
    have c4' : (w4.alloc (.cells #[.int .i64 z] 3)).cell? ⟨w.heap.size, 0, none⟩ = some (.slice none 0 0) := (World.cell?_alloc_past _ _ _ hsz4).trans c4
    have f4' : (w4.alloc (.cells #[.int .i64 z] 3)).frozen? ⟨w.heap.size, 0, none⟩ = false := (frozen?_alloc_cells _ _ _ _).trans f4
    rw [World.setCell_alloc_past (.cells #[.int .i64 z] 3) w.heap.size 0 (.slice (some ⟨w4.heap.size, 0, none⟩) 1 1) hsz4] at E
    have c2 : ((w4.setCell ⟨w.heap.size, 0, none⟩ (.slice (some ⟨w4.heap.size, 0, none⟩) 1 1)).alloc (.cells #[.int .i64 z] 3)).cell? ⟨w.heap.size, 0, none⟩ = some (.slice (some ⟨w4.heap.size, 0, none⟩) 1 1) := (World.cell?_alloc_past _ _ _ (by simpa using hsz4)).trans (World.cell?_setCell_same _ _ _ c4)
    clear HW4 hg4 hcur4 c3 c1 f1
    go_wp2
    refine bodyPost_ret (v := .agg #[.slice (some ⟨w4.heap.size, 0, none⟩) 1 1]) (by simp [results, Tryd.results75, go_sem, c2]) rfl ?_
    exact ⟨_, [z], rfl, E.out.1, by simp, E.out.2.1, E.out.2.2⟩
  · have e0 : (x == 0) = false := by simpa using h0
    by_cases h1 : x = 1
    · subst h1
      have E := Lib.hid (group_end hCw HCU.out hC3 HW3.out hsz3 (World.grownBy_alloc w3 (.cells #[.int .i64 2, .int .i64 2, .int .i64 2, .int .i64 2] 3) none) (World.ownsRow_lit w3 #[.int .i64 2, .int .i64 2, .int .i64 2, .int .i64 2] 4 (Nat.le_refl _) (by decide) rfl))
      have c1' : (w3.alloc (.cells #[.int .i64 2, .int .i64 2, .int .i64 2, .int .i64 2] 3)).cell? ⟨w.heap.size, 0, none⟩ = some (.slice none 0 0) := (World.cell?_alloc_past _ _ _ hsz3).trans c1
      have f1' : (w3.alloc (.cells #[.int .i64 2, .int .i64 2, .int .i64 2, .int .i64 2] 3)).frozen? ⟨w.heap.size, 0, none⟩ = false := (frozen?_alloc_cells _ _ _ _).trans f1
      rw [World.setCell_alloc_past (.cells #[.int .i64 2, .int .i64 2, .int .i64 2, .int .i64 2] 3) w.heap.size 0 (.slice (some ⟨w3.heap.size, 0, none⟩) 4 4) hsz3] at E
      have c2 : ((w3.setCell ⟨w.heap.size, 0, none⟩ (.slice (some ⟨w3.heap.size, 0, none⟩) 4 4)).alloc (.cells #[.int .i64 2, .int .i64 2, .int .i64 2, .int .i64 2] 3)).cell? ⟨w.heap.size, 0, none⟩ = some (.slice (some ⟨w3.heap.size, 0, none⟩) 4 4) := (World.cell?_alloc_past _ _ _ (by simpa using hsz3)).trans (World.cell?_setCell_same _ _ _ c1)
      go_wp2
      refine bodyPost_ret (v := .agg #[.slice (some ⟨w3.heap.size, 0, none⟩) 4 4]) (by simp [results, Tryd.results75, go_sem, c2]) rfl ?_
      exact ⟨_, [2, 2, 2, 2], rfl, E.out.1, by decide, E.out.2.1, E.out.2.2⟩
    · have e1 : (x == 1) = false := by simpa using h1
      by_cases h2 : x = 2
      · subst h2
        have E := Lib.hid (group_end hCw HCU.out hC3 HW3.out hsz3 (World.grownBy_alloc w3 (.cells #[.int .i64 5, .int .i64 5] 3) none) (World.ownsRow_lit w3 #[.int .i64 5, .int .i64 5] 2 (Nat.le_refl _) (by decide) rfl))
        have c1' : (w3.alloc (.cells #[.int .i64 5, .int .i64 5] 3)).cell? ⟨w.heap.size, 0, none⟩ = some (.slice none 0 0) := (World.cell?_alloc_past _ _ _ hsz3).trans c1
        have f1' : (w3.alloc (.cells #[.int .i64 5, .int .i64 5] 3)).frozen? ⟨w.heap.size, 0, none⟩ = false := (frozen?_alloc_cells _ _ _ _).trans f1
        rw [World.setCell_alloc_past (.cells #[.int .i64 5, .int .i64 5] 3) w.heap.size 0 (.slice (some ⟨w3.heap.size, 0, none⟩) 2 2) hsz3] at E
        have c2 : ((w3.setCell ⟨w.heap.size, 0, none⟩ (.slice (some ⟨w3.heap.size, 0, none⟩) 2 2)).alloc (.cells #[.int .i64 5, .int .i64 5] 3)).cell? ⟨w.heap.size, 0, none⟩ = some (.slice (some ⟨w3.heap.size, 0, none⟩) 2 2) := (World.cell?_alloc_past _ _ _ (by simpa using hsz3)).trans (World.cell?_setCell_same _ _ _ c1)
        go_wp2
        refine bodyPost_ret (v := .agg #[.slice (some ⟨w3.heap.size, 0, none⟩) 2 2]) (by simp [results, Tryd.results75, go_sem, c2]) rfl ?_
        exact ⟨_, [5, 5], rfl, E.out.1, by decide, E.out.2.1, E.out.2.2⟩
      · have e2 : (x == 2) = false := by simpa using h2
        have E := Lib.hid (group_end2 hCw HCU.out hC3 HW3.out (Nat.lt_succ_self _) ⟨rfl, rfl, rfl, Nat.le_refl _, fun _ _ _ => rfl⟩ HO3.out)
        have c2 := World.cell?_setCell_same w3 ⟨w.heap.size, 0, none⟩ (.slice ao n' cap') c1
        go_wp2
        refine bodyPost_ret (v := .agg #[.slice ao n' cap']) (by simp [results, Tryd.results75, go_sem, c2]) rfl ?_
        exact ⟨_, l, rfl, E.out.1, by omega, E.out.2.1, E.out.2.2⟩
end Go.Proofs.YthlpjiibjlaebaaDoor
