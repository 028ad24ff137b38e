/- Merged: GAny GEl GElem SetMath. -/
import Derived.Test.YtehdneppleifdaaGreatDoorGDraw
import Derived.Test.YtehdneppleifdaaGreatDoorGrpMath2
import Derived.Lib.TrailingZeros
namespace Go.Proofs.YtehdneppleifdaaGreatDoor
open Go.RowKit
set_option maxRecDepth 1000000
theorem own_form {w : World} {base : Nat} {e : TypeId} {size : Nat} {v : Value} {n : Nat} {xs : List Value} (h : w.ownsRow base e size v n xs) : ∃ ao n' cap', v = .slice ao n' cap' := by
  rcases h.2 with ⟨h, _⟩ | ⟨g, cap, cur, h, _⟩
  · exact ⟨_, _, _, h⟩
  · exact ⟨_, _, _, h⟩
theorem group_end2 {w w3 wa : World} {C B : Nat} {a : Option Addr} {len cap n : Nat} {v : Value} {xs : List Value} (hC : C < w.heap.size) (hc : CurAt w3 C a len cap) (hC3 : C < w3.heap.size) (h3 : w.grownBy w3 (some C)) (hB : w.heap.size < B)
    (ha : w3.grownBy wa none) (ho : wa.ownsRow B 3 1 v n xs) :
    (wa.setCell ⟨w.heap.size, 0, none⟩ v).ownsRow w.heap.size 3 1 v n xs ∧ CurAt (wa.setCell ⟨w.heap.size, 0, none⟩ v) C a len cap ∧ w.grownBy (wa.setCell ⟨w.heap.size, 0, none⟩ v) (some C) := by
  refine ⟨ownsRow_lower (ownsRow_setCell_below (a := ⟨w.heap.size, 0, none⟩) ho hB v) (Nat.le_of_lt hB), hc.other ?_, grown_newset (grownC_trans h3 ⟨ha.os, ha.tape, ha.output, ha.size, fun k hk _ => ha.block k hk (by simp)⟩) (Nat.le_refl _) v⟩
  rw [heap_setCell_other _ _ _ _ (fun e => by simp at e; omega)]
  exact ha.block C hC3 (by simp)
/-- What stands after the group is drawn and the cursor asked once more. -/
theorem any_mid {w w1 w3 : World} {C n : Nat} {u : Value} {xs : List Value} (hC : C < w.heap.size) (h0 : w.grownBy (w.alloc (.cells #[.slice none 0 0] 26)) (some C)) (R0 : (w.alloc (.cells #[.slice none 0 0] 26)).heap[w.heap.size]? = some (.cells #[.slice none 0 0] 26 (0, 0)))
    (ho : w1.ownsRow (w.alloc (.cells #[.slice none 0 0] 26)).heap.size 3 1 u n xs) (hg : (w.alloc (.cells #[.slice none 0 0] 26)).grownBy w1 (some C)) (hg3 : (w1.alloc (.cells #[u] 26)).grownBy w3 (some C)) :
    w3.ownsRow (w.heap.size + 1) 3 1 u n xs ∧ w.grownBy w3 (some C) ∧ w3.heap[w.heap.size]? = some (.cells #[.slice none 0 0] 26 (0, 0)) ∧ w3.cell? ⟨w1.heap.size, 0, none⟩ = some u ∧ w.heap.size < w3.heap.size := by
  have ho' : w1.ownsRow (w.heap.size + 1) 3 1 u n xs := by simpa using ho
  have hs1 : w.heap.size + 1 ≤ w1.heap.size := by simpa using hg.size
  have hs3 : w1.heap.size + 1 ≤ w3.heap.size := by simpa using hg3.size
  refine ⟨(ho'.alloc _).kept hg3 (.inr fun e => ?_), grownC_trans (grownC_trans (grownC_trans h0 hg) (World.grownBy_alloc w1 _ _)) hg3, ?_, hg3.cell (newC w1 u _ rfl) (by simp; omega), by omega⟩
  · have := (ho'.lt C e).1; omega
  · exact (hg3.block _ (by simp; omega) (by simp; omega)).trans (((World.grownBy_alloc w1 (.cells #[u] 26) none).block _ (by omega) (by simp)).trans ((hg.block _ (by simp) (by simp; omega)).trans R0))
set_option maxHeartbeats 4000000 in
theorem l2Any_any (w : World) (C : Nat) (a : Option Addr) (len cap : Nat) (hlen : len ≤ 1048576) (hc : CurAt w C a len cap) (hd : DataAt w C a len) :
    Calls Tryz.prog 34 #[.pointer (some ⟨C, 0, none⟩)] w fun e w' => ∃ (u : Value) (l : List Int), e = .returned (.agg #[u]) ∧ w'.ownsRow w.heap.size 3 1 u l.length (l.map (Value.int .i64)) ∧ l.length ≤ 4 ∧ CurAt w' C a len cap ∧ w.grownBy w' (some C) := by
  have HC := Lib.hid hc
  have HD := Lib.hid hd
  have hCw : C < w.heap.size := hc.lt
  have HG0 := Lib.hid (World.grownBy_alloc w (.cells #[.slice none 0 0] 26) (some C))
  have HCA := Lib.hid (HC.out.other ((World.grownBy_alloc w (.cells #[.slice none 0 0] 26) none).block C hCw (by simp)))
  have HDA := Lib.hid (HD.out.grown HG0.out)
  have HDR := Lib.hid (l2Draw_any (w.alloc (.cells #[.slice none 0 0] 26)) C a len cap 24 hlen HCA.out HDA.out)
  have R0 : Hid ((w.alloc (.cells #[.slice none 0 0] 26)).heap[w.heap.size]? = some (.cells #[.slice none 0 0] 26 (0, 0))) := Lib.hid (heap_alloc_new w _)
  clear hc hd
  go_enter Tryz.func34, Tryz.ntmps34
  go_wp2_with (go_at_call 63; refine HDR.out.mono ?_; rintro e w1 ⟨u, l, rfl, ho1, hl1, hcur1, hg1⟩; obtain ⟨ao, n', cap', rfl⟩ := own_form ho1; have hC1 : C < w1.heap.size := (by have := hg1.size; simp at this; omega))
  refine (below_small _ C a len cap 16 hlen (hcur1.other ((World.grownBy_alloc w1 _ none).block C hC1 (by simp))) (HD.out.grown (grownC_trans (grownC_trans HG0.out hg1) (World.grownBy_alloc w1 _ _))) (by decide) (by decide)).mono ?_
  rintro e w3 ⟨x, rfl, hx0, hx1, hcur, hg⟩
  obtain ⟨ho3, hG3, hR3, c3, hsz3⟩ := any_mid hCw HG0.out R0.out ho1 hg1 hg
  obtain ⟨c1, f1⟩ := one_cell hR3
  have hC3 : C < w3.heap.size := by omega
  have HCU := Lib.hid hcur
  have HW3 := Lib.hid hG3
  have HO3 := Lib.hid ho3
  have R3 := Lib.hid hR3
  have HD3 := Lib.hid (HD.out.grown hG3)
  clear hcur hg hg1 hcur1 ho1 ho3 hG3 hR3 HDR HCA HDA HG0 R0
  by_cases h0 : x = 0
  · subst h0
    go_wp2_with (fail)
    refine (pick_any _ C a len cap w3.heap.size 5 5 hlen ?h1 ?h2 (by omega) (by omega) ?h3 ?h4).mono ?_
    case h1 => exact HCU.out.other (heap_alloc_old w3 _ hC3)
    case h2 => exact HD3.out.grown (World.grownBy_alloc w3 _ _)
    case h3 => omega
    case h4 =>
      intro i hi
      have : ∃ z : Int, -9223372036854775808 ≤ z ∧ z ≤ 9223372036854775807 ∧ (#[.int .i64 0, .int .i64 1, .int .i64 (-1), .int .i64 25, .int .i64 9223372036854775807] : Array Value)[i]? = some (.int .i64 z) := by
        match i, hi with
        | 0, _ => exact ⟨0, by decide, by decide, rfl⟩
        | 1, _ => exact ⟨1, by decide, by decide, rfl⟩
        | 2, _ => exact ⟨-1, by decide, by decide, rfl⟩
        | 3, _ => exact ⟨25, by decide, by decide, rfl⟩
        | 4, _ => exact ⟨9223372036854775807, by decide, by decide, rfl⟩
      obtain ⟨z, hz0, hz1, hz⟩ := this
      exact ⟨z, hz0, hz1, (World.cell?_alloc_at _ _ _ _ rfl).trans hz⟩
    rintro e w4 ⟨z, rfl, hz0, hz1, hcur4, hg4⟩
    have hs4 : w3.heap.size + 1 ≤ w4.heap.size := by simpa using hg4.size
    have hsz4 : w.heap.size < w4.heap.size := by omega
    have HW4 := grownC_trans (grownC_trans HW3.out (World.grownBy_alloc w3 _ _)) hg4
    obtain ⟨c4, f4⟩ := one_cell ((hg4.block _ (by simp; omega) (by simp; omega)).trans ((heap_alloc_old w3 _ hsz3).trans R3.out))
    have E := Lib.hid (group_end hCw hcur4 (by omega) HW4 hsz4 (World.grownBy_alloc w4 (.cells #[.int .i64 z] 3) none) (World.ownsRow_lit w4 #[.int .i64 z] 1 (Nat.le_refl _) (by decide) rfl))
    have c4' : (w4.alloc (.cells #[.int .i64 z] 3)).cell? ⟨w.heap.size, 0, none⟩ = some (.slice none 0 0) := (World.cell?_alloc_past _ _ _ hsz4).trans c4
    have f4' : (w4.alloc (.cells #[.int .i64 z] 3)).frozen? ⟨w.heap.size, 0, none⟩ = false := (frozen?_alloc_cells _ _ _ _).trans f4
    rw [World.setCell_alloc_past (.cells #[.int .i64 z] 3) w.heap.size 0 (.slice (some ⟨w4.heap.size, 0, none⟩) 1 1) hsz4] at E
    have c2 : ((w4.setCell ⟨w.heap.size, 0, none⟩ (.slice (some ⟨w4.heap.size, 0, none⟩) 1 1)).alloc (.cells #[.int .i64 z] 3)).cell? ⟨w.heap.size, 0, none⟩ = some (.slice (some ⟨w4.heap.size, 0, none⟩) 1 1) := (World.cell?_alloc_past _ _ _ (by simpa using hsz4)).trans (World.cell?_setCell_same _ _ _ c4)
    clear HW4 hg4 hcur4 c3 c1 f1
    go_wp2
    refine bodyPost_ret (v := .agg #[.slice (some ⟨w4.heap.size, 0, none⟩) 1 1]) (by simp [results, Tryz.results34, go_sem, c2]) rfl ?_
    exact ⟨_, [z], rfl, E.out.1, by simp, E.out.2.1, E.out.2.2⟩
  · have e0 : (x == 0) = false := by simpa using h0
    by_cases h1 : x = 1
    · subst h1
      have E := Lib.hid (group_end hCw HCU.out hC3 HW3.out hsz3 (World.grownBy_alloc w3 (.cells #[.int .i64 2, .int .i64 2, .int .i64 2, .int .i64 2] 3) none) (World.ownsRow_lit w3 #[.int .i64 2, .int .i64 2, .int .i64 2, .int .i64 2] 4 (Nat.le_refl _) (by decide) rfl))
      have c1' : (w3.alloc (.cells #[.int .i64 2, .int .i64 2, .int .i64 2, .int .i64 2] 3)).cell? ⟨w.heap.size, 0, none⟩ = some (.slice none 0 0) := (World.cell?_alloc_past _ _ _ hsz3).trans c1
      have f1' : (w3.alloc (.cells #[.int .i64 2, .int .i64 2, .int .i64 2, .int .i64 2] 3)).frozen? ⟨w.heap.size, 0, none⟩ = false := (frozen?_alloc_cells _ _ _ _).trans f1
      rw [World.setCell_alloc_past (.cells #[.int .i64 2, .int .i64 2, .int .i64 2, .int .i64 2] 3) w.heap.size 0 (.slice (some ⟨w3.heap.size, 0, none⟩) 4 4) hsz3] at E
      have c2 : ((w3.setCell ⟨w.heap.size, 0, none⟩ (.slice (some ⟨w3.heap.size, 0, none⟩) 4 4)).alloc (.cells #[.int .i64 2, .int .i64 2, .int .i64 2, .int .i64 2] 3)).cell? ⟨w.heap.size, 0, none⟩ = some (.slice (some ⟨w3.heap.size, 0, none⟩) 4 4) := (World.cell?_alloc_past _ _ _ (by simpa using hsz3)).trans (World.cell?_setCell_same _ _ _ c1)
      go_wp2
      refine bodyPost_ret (v := .agg #[.slice (some ⟨w3.heap.size, 0, none⟩) 4 4]) (by simp [results, Tryz.results34, go_sem, c2]) rfl ?_
      exact ⟨_, [2, 2, 2, 2], rfl, E.out.1, by decide, E.out.2.1, E.out.2.2⟩
    · have e1 : (x == 1) = false := by simpa using h1
      by_cases h2 : x = 2
      · subst h2
        have E := Lib.hid (group_end hCw HCU.out hC3 HW3.out hsz3 (World.grownBy_alloc w3 (.cells #[.int .i64 5, .int .i64 5] 3) none) (World.ownsRow_lit w3 #[.int .i64 5, .int .i64 5] 2 (Nat.le_refl _) (by decide) rfl))
        have c1' : (w3.alloc (.cells #[.int .i64 5, .int .i64 5] 3)).cell? ⟨w.heap.size, 0, none⟩ = some (.slice none 0 0) := (World.cell?_alloc_past _ _ _ hsz3).trans c1
        have f1' : (w3.alloc (.cells #[.int .i64 5, .int .i64 5] 3)).frozen? ⟨w.heap.size, 0, none⟩ = false := (frozen?_alloc_cells _ _ _ _).trans f1
        rw [World.setCell_alloc_past (.cells #[.int .i64 5, .int .i64 5] 3) w.heap.size 0 (.slice (some ⟨w3.heap.size, 0, none⟩) 2 2) hsz3] at E
        have c2 : ((w3.setCell ⟨w.heap.size, 0, none⟩ (.slice (some ⟨w3.heap.size, 0, none⟩) 2 2)).alloc (.cells #[.int .i64 5, .int .i64 5] 3)).cell? ⟨w.heap.size, 0, none⟩ = some (.slice (some ⟨w3.heap.size, 0, none⟩) 2 2) := (World.cell?_alloc_past _ _ _ (by simpa using hsz3)).trans (World.cell?_setCell_same _ _ _ c1)
        go_wp2
        refine bodyPost_ret (v := .agg #[.slice (some ⟨w3.heap.size, 0, none⟩) 2 2]) (by simp [results, Tryz.results34, go_sem, c2]) rfl ?_
        exact ⟨_, [5, 5], rfl, E.out.1, by decide, E.out.2.1, E.out.2.2⟩
      · have e2 : (x == 2) = false := by simpa using h2
        have E := Lib.hid (group_end2 hCw HCU.out hC3 HW3.out (Nat.lt_succ_self _) ⟨rfl, rfl, rfl, Nat.le_refl _, fun _ _ _ => rfl⟩ HO3.out)
        have c2 := World.cell?_setCell_same w3 ⟨w.heap.size, 0, none⟩ (.slice ao n' cap') c1
        go_wp2
        refine bodyPost_ret (v := .agg #[.slice ao n' cap']) (by simp [results, Tryz.results34, go_sem, c2]) rfl ?_
        exact ⟨_, l, rfl, E.out.1, by omega, E.out.2.1, E.out.2.2⟩
end Go.Proofs.YtehdneppleifdaaGreatDoor

namespace Go.Proofs.YtehdneppleifdaaGreatDoor
open Go.RowKit
set_option maxRecDepth 1000000
theorem once_any (w : World) (C : Nat) (a : Option Addr) (len cap : Nat) (n : Int) (hlen : len ≤ 1048576) (hc : CurAt w C a len cap) (hd : DataAt w C a len) (h0 : 0 < n) (h1 : n ≤ 256) :
    Calls Tryz.prog 74 #[.pointer (some ⟨C, 0, none⟩), .int .i64 n] w fun e w' => ∃ b : Bool, e = .returned (.bool b) ∧ CurAt w' C a len cap ∧ w.grownBy w' (some C) := by
  have HB := Lib.hid (below_small w C a len cap n hlen hc hd h0 h1)
  clear hc hd
  go_enter Tryz.func74, Tryz.ntmps74
  go_wp2_with (go_at_call 64; refine HB.out.mono ?_; rintro e w1 ⟨x, rfl, hx0, hx1, hcur, hg⟩; have HC := Lib.hid hcur; have HG := Lib.hid hg; clear hcur hg)
  go_ret
  exact ⟨_, rfl, HC.out, HG.out⟩
theorem ordN_le (l : List Int) : ordN l ≤ 24 := by
  by_cases h : grpB l = true
  · rw [ordN_grp h]; exact (grpB_true h).2.2
  · rw [ordN_no (by simpa using h)]; omega
end Go.Proofs.YtehdneppleifdaaGreatDoor

namespace Go.Proofs.YtehdneppleifdaaGreatDoor
open Go.RowKit
set_option maxRecDepth 1000000
theorem ints_grownAny {w w' : World} {b : Option Addr} {l : List Int} {row : Option Nat} (h : Ints w b l) (hg : w.grownBy w' row) (hne : ∀ x, b = some x → some x.block ≠ row) : Ints w' b l := by
  rcases h with h | ⟨b', off, ha, hlt, hc⟩
  · exact .inl h
  · exact .inr ⟨b', off, ha, Nat.lt_of_lt_of_le hlt hg.size, fun i hi => hg.cell (hc i hi) (by simpa using hne _ ha)⟩
theorem el_fit (i : Nat) (h : i < 3) : ∃ z : Int, -9223372036854775808 ≤ z ∧ z ≤ 9223372036854775807 ∧ (#[.int .i64 (-1), .int .i64 24, .int .i64 9223372036854775807] : Array Value)[i]? = some (.int .i64 z) := by
  match i, h with
  | 0, _ => exact ⟨-1, by decide, by decide, rfl⟩
  | 1, _ => exact ⟨24, by decide, by decide, rfl⟩
  | 2, _ => exact ⟨9223372036854775807, by decide, by decide, rfl⟩
set_option maxHeartbeats 4000000 in
theorem l2Element_any (w : World) (C : Nat) (a : Option Addr) (len cap : Nat) (l : List Int) (b : Option Addr) (n cp : Nat) (hn : n = l.length) (hm : n ≤ 9223372036854775807) (hi : Ints w b l) (hib : ∀ x, b = some x → x.block ≠ C) (hlen : len ≤ 1048576) (hc : CurAt w C a len cap) (hd : DataAt w C a len) :
    Calls Tryz.prog 51 #[.pointer (some ⟨C, 0, none⟩), .agg #[.slice b n cp]] w (AnyInt w C a len cap) := by
  have HC := Lib.hid hc
  have HD := Lib.hid hd
  have HI := Lib.hid hi
  have HIB := Lib.hid hib
  have HN := Lib.hid hn
  have hCw : C < w.heap.size := hc.lt
  have HG0 := Lib.hid (World.grownBy_alloc w (.cells #[.slice b n cp] 26) (some C))
  have HF := Lib.hid (once_any (w.alloc (.cells #[.slice b n cp] 26)) C a len cap 16 hlen (hc.other (heap_alloc_old w _ hCw)) (hd.grown HG0.out) (by decide) (by decide))
  clear hc hd hi hib hn
  go_enter Tryz.func51, Tryz.ntmps51
  go_wp2_with (fail)
  refine HF.out.mono ?_
  rintro e w1 ⟨c, rfl, hcur, hg⟩
  have HCU := Lib.hid hcur
  have HG1 := Lib.hid (grownC_trans HG0.out hg)
  have hgs : w.heap.size + 1 ≤ w1.heap.size := by simpa using hg.size
  have cg : w1.cell? ⟨w.heap.size, 0, none⟩ = some (.slice b n cp) := hg.cell (newC w _ _ rfl) (by simp; omega)
  clear hcur hg HF
  cases c
  · have HI1 := Lib.hid (ints_grownAny HI.out HG1.out (fun x e => by have := HIB.out x e; simpa using this))
    have HOR := Lib.hid (sOrderOf w1 b l n cp HN.out hm HI1.out)
    have HL := Lib.hid (ordN_le l)
    generalize ordN l = N at *
    have hN := HL.out
    go_wp2_with (go_at_call 13; refine HOR.out.mono ?_; rintro e w2 ⟨rfl, hb2⟩)
    all_goals
      have HG2 := Lib.hid (below_grown hb2 (row := some C))
      refine (below_small w2 C a len cap _ hlen (HCU.out.other (hb2.block C HCU.out.lt)) (HD.out.grown (grownC_trans HG1.out HG2.out)) (by omega) (by omega)).mono ?_
      rintro e w3 ⟨x, rfl, hx0, hx1, hcur, hg⟩
      have HC3 := Lib.hid hcur
      have HG3 := Lib.hid (grownC_trans (grownC_trans HG1.out HG2.out) hg)
      clear hcur hg hb2
      go_wp2
      go_ret
      exact ⟨_, rfl, by omega, by omega, HC3.out, HG3.out⟩
  · go_wp2_with (fail)
    refine (pick_any _ C a len cap w1.heap.size 3 3 hlen ?h1 ?h2 (by omega) (by omega) ?h3 ?h4).mono ?_
    case h1 => exact HCU.out.other (heap_alloc_old w1 _ HCU.out.lt)
    case h2 => exact (HD.out.grown HG1.out).grown (World.grownBy_alloc w1 _ _)
    case h3 => omega
    case h4 =>
      intro i hi
      obtain ⟨z, hz0, hz1, hz⟩ := el_fit i hi
      exact ⟨z, hz0, hz1, (World.cell?_alloc_at _ _ _ _ rfl).trans hz⟩
    rintro e w2 ⟨x, rfl, hx0, hx1, hcur, hg⟩
    have HC2 := Lib.hid hcur
    have HG2 := Lib.hid (grownC_trans (grownC_trans HG1.out (World.grownBy_alloc w1 _ _)) hg)
    clear hcur hg
    go_wp2
    go_ret
    exact ⟨_, rfl, hx0, hx1, HC2.out, HG2.out⟩
end Go.Proofs.YtehdneppleifdaaGreatDoor

namespace Go.Proofs.YtehdneppleifdaaGreatDoor
/-- The bits of a below k, in ascending order. -/
def upK (a k : Nat) : List Nat := (List.range k).filter (fun i => a.testBit i)
theorem upK_zero (a : Nat) : upK a 0 = [] := rfl
theorem upK_succ (a k : Nat) : upK a (k + 1) = if a.testBit k = true then upK a k ++ [k] else upK a k := by
  unfold upK
  rw [List.range_succ, List.filter_append]
  cases h : a.testBit k <;> simp [h]
theorem upK_yes {a k : Nat} (h : a.testBit k = true) : upK a (k + 1) = upK a k ++ [k] := by rw [upK_succ, if_pos h]
theorem upK_no {a k : Nat} (h : a.testBit k = false) : upK a (k + 1) = upK a k := by rw [upK_succ, if_neg (by simp [h])]
theorem upK_same {a k : Nat} : ∀ m, (∀ i, k ≤ i → i < k + m → a.testBit i = false) → upK a (k + m) = upK a k
  | 0, _ => rfl
  | m + 1, h => by
    rw [show k + (m + 1) = k + m + 1 by omega, upK_no (h (k + m) (by omega) (by omega)), upK_same m (fun i h1 h2 => h i h1 (by omega))]
theorem upK_len (a k : Nat) : (upK a k).length ≤ k := by
  unfold upK
  exact Nat.le_trans (List.length_filter_le _ _) (by simp)
theorem upK_mem {a k x : Nat} (h : x ∈ upK a k) : x < k ∧ a.testBit x = true := by
  unfold upK at h
  rw [List.mem_filter, List.mem_range] at h
  exact h
theorem bit_iff (a k : Nat) : a.testBit k = true ↔ a / 2 ^ k % 2 = 1 := by
  rw [Nat.testBit_eq_decide_div_mod_eq]; simp
theorem bit_no {a k : Nat} (h : a < 2 ^ k) : ∀ i, k ≤ i → a.testBit i = false := fun i hi =>
  Nat.testBit_lt_two_pow (Nat.lt_of_lt_of_le h (Nat.pow_le_pow_right (by decide) hi))
/-- The bits of a number below 2^24. -/
def bitsN (a : Nat) : List Nat := upK a 24
theorem upK_full {a k : Nat} (h : a < 2 ^ k) (hk : k ≤ 24) : upK a k = bitsN a := by
  unfold bitsN
  obtain ⟨m, hm⟩ : ∃ m, 24 = k + m := ⟨24 - k, by omega⟩
  rw [hm, upK_same m (fun i h1 _ => bit_no h i h1)]
theorem div_zero {a k : Nat} (h : a / 2 ^ k = 0) : a < 2 ^ k := by
  rcases Nat.lt_or_ge a (2 ^ k) with h1 | h1
  · exact h1
  · have := Nat.div_pos h1 (Nat.two_pow_pos k); omega
/-- The bits from k on, in their places. -/
def restK (a k : Nat) : Nat := a / 2 ^ k * 2 ^ k
theorem restK_zero (a : Nat) : restK a 0 = a := by simp [restK]
theorem restK_le (a k : Nat) : restK a k ≤ a := Nat.div_mul_le_self a (2 ^ k)
theorem restK_bit (a k i : Nat) : (restK a k).testBit i = (decide (k ≤ i) && a.testBit i) := by
  unfold restK
  rw [Nat.testBit_mul_two_pow]
  by_cases h : k ≤ i
  · simp only [h, decide_true, Bool.true_and]
    rw [Nat.testBit_div_two_pow]
    congr 1; omega
  · simp [h]
/-- The lowest bit of what is left. -/
theorem rest_step {a k : Nat} (ha : a < 2 ^ 24) (h0 : restK a k ≠ 0) :
    ∃ t, Lib.ctz 64 (restK a k) = t ∧ k ≤ t ∧ t < 24 ∧ upK a (t + 1) = upK a k ++ [t] ∧ restK a k &&& (restK a k - 1) = restK a (t + 1) ∧ restK a (t + 1) < restK a k := by
  have hlt : restK a k < 2 ^ 64 := Nat.lt_of_le_of_lt (restK_le a k) (Nat.lt_of_lt_of_le ha (by decide))
  obtain ⟨m, hm, ht⟩ := Lib.ctzFrom_spec 64 (restK a k) (by omega) hlt
  have e : Lib.ctz 64 (restK a k) = Lib.ctzFrom 64 (restK a k) := by unfold Lib.ctz; rw [if_neg h0]
  rw [e]
  generalize Lib.ctzFrom 64 (restK a k) = t at hm ht
  have b1 : (restK a k).testBit t = true := by
    rw [hm, Nat.mul_comm, Nat.testBit_mul_two_pow]; simp
  have b0 : ∀ i, i < t → (restK a k).testBit i = false := fun i hi => by
    rw [hm, Nat.mul_comm, Nat.testBit_mul_two_pow]
    have : decide (t ≤ i) = false := by simp; omega
    rw [this]; rfl
  rw [restK_bit] at b1
  simp only [Bool.and_eq_true, decide_eq_true_eq] at b1
  obtain ⟨hk, hb⟩ := b1
  have ht24 : t < 24 := by
    rcases Nat.lt_or_ge t 24 with h | h
    · exact h
    · rw [bit_no ha t h] at hb; cases hb
  have hz : ∀ i, k ≤ i → i < t → a.testBit i = false := fun i h1 h2 => by
    have := b0 i h2
    rw [restK_bit] at this
    simpa [h1] using this
  have hu : upK a t = upK a k := by
    obtain ⟨d, hd⟩ : ∃ d, t = k + d := ⟨t - k, by omega⟩
    rw [hd, upK_same d (fun i h1 h2 => hz i h1 (by omega))]
  have hand : restK a k &&& (restK a k - 1) = restK a (t + 1) := by
    apply Nat.eq_of_testBit_eq
    intro i
    rw [Nat.testBit_and, restK_bit a (t + 1)]
    have e1 : restK a k - 1 = 2 ^ t * (2 * m) + (2 ^ t - 1) := by
      rw [hm, Nat.mul_add, Nat.mul_one]
      have := Nat.two_pow_pos t
      omega
    rcases Nat.lt_trichotomy i t with h | h | h
    · rw [b0 i h]
      have : decide (t + 1 ≤ i) = false := by simp; omega
      rw [this]; rfl
    · subst h
      have : decide (i + 1 ≤ i) = false := by simp
      rw [this, e1, Nat.testBit_two_pow_mul_add _ (by have := Nat.two_pow_pos i; omega), if_neg (by omega)]
      simp
    · have h1 : decide (t + 1 ≤ i) = true := by simp; omega
      have h2 : (restK a k - 1).testBit i = (restK a k).testBit i := by
        rw [e1, hm, Nat.testBit_two_pow_mul_add _ (by have := Nat.two_pow_pos t; omega), if_neg (by omega), Nat.mul_comm (2 ^ t) (2 * m + 1), Nat.testBit_mul_two_pow]
        have h3 : decide (t ≤ i) = true := by simp; omega
        rw [h3, Bool.true_and]
        obtain ⟨j, hj⟩ : ∃ j, i - t = j + 1 := ⟨i - t - 1, by omega⟩
        rw [hj, Nat.testBit_succ, Nat.testBit_succ]
        congr 1; omega
      rw [h1, h2, Bool.and_self, restK_bit]
      have h4 : decide (k ≤ i) = true := by simp; omega
      rw [h4]
  refine ⟨t, rfl, hk, ht24, by rw [upK_yes hb, hu], hand, ?_⟩
  rw [← hand]
  have := Nat.and_le_right (n := restK a k) (m := restK a k - 1)
  omega
theorem restK_end {a k : Nat} (h : restK a k = 0) (hk : k ≤ 24) : upK a k = bitsN a := by
  refine upK_full (div_zero ?_) hk
  unfold restK at h
  rcases Nat.mul_eq_zero.1 h with h | h
  · exact h
  · have := Nat.two_pow_pos k; omega
/-- A number with the bits f of the elements of a list. -/
def orF (f : Nat → Int) (L : List Nat) : Nat := L.foldl (fun s x => s ||| 2 ^ (f x).toNat) 0
theorem orF_nil (f : Nat → Int) : orF f [] = 0 := rfl
theorem orF_snoc (f : Nat → Int) (L : List Nat) (x : Nat) : orF f (L ++ [x]) = orF f L ||| 2 ^ (f x).toNat := by simp [orF]
theorem orF_lt (f : Nat → Int) (L : List Nat) (k : Nat) (h : ∀ x ∈ L, (f x).toNat < k) : orF f L < 2 ^ k := by
  unfold orF
  have : ∀ (L : List Nat) (s : Nat), s < 2 ^ k → (∀ x ∈ L, (f x).toNat < k) → L.foldl (fun s x => s ||| 2 ^ (f x).toNat) s < 2 ^ k := by
    intro L
    induction L with
    | nil => intro s hs _; exact hs
    | cons x t ih =>
      intro s hs hx
      rw [List.foldl_cons]
      exact ih _ (Nat.or_lt_two_pow hs (Nat.pow_lt_pow_right (by decide) (hx x (by simp)))) (fun y hy => hx y (by simp [hy]))
  exact this L 0 (Nat.two_pow_pos k) h
theorem orF_congr (f g : Nat → Int) (L : List Nat) (h : ∀ x ∈ L, f x = g x) : orF f L = orF g L := by
  unfold orF
  have : ∀ (L : List Nat) (s : Nat), (∀ x ∈ L, f x = g x) → L.foldl (fun s x => s ||| 2 ^ (f x).toNat) s = L.foldl (fun s x => s ||| 2 ^ (g x).toNat) s := by
    intro L
    induction L with
    | nil => intro s _; rfl
    | cons x t ih =>
      intro s hx
      rw [List.foldl_cons, List.foldl_cons, hx x (by simp)]
      exact ih _ (fun y hy => hx y (by simp [hy]))
  exact this L 0 h
/-- The number of the full set. -/
def fullN (l : List Int) : Int := 2 ^ (prodI l).toNat - 1
/-- Whether a is the number of a set of elements. -/
def isS (l : List Int) (a : Int) : Bool := grpB l && (decide (0 ≤ a) && decide (a ≤ fullN l))
theorem pow_nat (k : Nat) : (2 : Int) ^ k = ((2 ^ k : Nat) : Int) := by simp
theorem pow_le24 {k : Nat} (h : k ≤ 24) : 2 ^ k ≤ 16777216 := by
  have h2 : 2 ^ k ≤ 2 ^ 24 := Nat.pow_le_pow_right (by decide) h
  exact Nat.le_trans h2 (by decide)
theorem fullN_nat (l : List Int) : fullN l = ((2 ^ (prodI l).toNat : Nat) : Int) - 1 := by unfold fullN; rw [pow_nat]
theorem isS_true {l : List Int} {a : Int} (h : isS l a = true) : grpB l = true ∧ ∃ n : Nat, a = (n : Int) ∧ n < 2 ^ (prodI l).toNat ∧ n < 2 ^ 24 := by
  simp only [isS, Bool.and_eq_true, decide_eq_true_eq, fullN_nat] at h
  obtain ⟨hg, h0, h1⟩ := h
  have hp := (grpB_true hg).2.2
  have h2 := pow_le24 (k := (prodI l).toNat) (by omega)
  have h3 : (2 : Nat) ^ 24 = 16777216 := by decide
  rw [h3]
  generalize 2 ^ (prodI l).toNat = N at *
  exact ⟨hg, a.toNat, by omega, by omega, by omega⟩
end Go.Proofs.YtehdneppleifdaaGreatDoor
