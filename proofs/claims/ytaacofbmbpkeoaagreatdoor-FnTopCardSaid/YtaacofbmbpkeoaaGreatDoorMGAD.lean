/- Merged: GDraw GAny. -/
import Derived.Test.YtaacofbmbpkeoaaGreatDoorMGAA
import Derived.Test.YtaacofbmbpkeoaaGreatDoorMGAC
import Derived.Deep.DeepCutAuto
namespace Go.Proofs.YtaacofbmbpkeoaaGreatDoor
open Go.RowKit
set_option maxRecDepth 1000000
/-- The drawn lists of orders. -/
def drawOL : List (List Int) := [[], [2], [3], [4], [5], [6], [7], [8], [9], [10], [11], [12], [2, 2], [2, 4], [3, 3], [2, 6], [2, 2, 2], [13], [16], [4, 4], [2, 2, 3], [2, 3], [24]]
def pushAll (w : World) (os : List Obj) : World := os.foldl (fun w o => w.alloc o) w
theorem push_size (w : World) (os : List Obj) : (pushAll w os).heap.size = w.heap.size + os.length := by
  unfold pushAll
  induction os generalizing w with
  | nil => simp
  | cons o r ih => simp only [List.foldl_cons]; rw [ih]; simp; omega
theorem push_grown (w : World) (os : List Obj) (row : Option Nat) : w.grownBy (pushAll w os) row := by
  unfold pushAll
  induction os generalizing w with
  | nil => exact World.grownBy.refl _ _
  | cons o r ih => simp only [List.foldl_cons]; exact grownG_trans (World.grownBy_alloc w o row) (ih _)
theorem push_at (w : World) (os : List Obj) (j : Nat) (o : Obj) (h : os[j]? = some o) : (pushAll w os).heap[w.heap.size + j]? = some o := by
  induction os generalizing w j with
  | nil => simp at h
  | cons o' r ih =>
    cases j with
    | zero =>
      simp at h
      subst h
      have := (push_grown (w.alloc o') r none).block w.heap.size (by simp) (by simp)
      show (pushAll (w.alloc o') r).heap[w.heap.size + 0]? = _
      rw [Nat.add_zero, this]
      exact heap_alloc_new w _
    | succ j =>
      have := ih (w.alloc o') j (by simpa using h)
      show (pushAll (w.alloc o') r).heap[w.heap.size + (j + 1)]? = _
      rw [show w.heap.size + (j + 1) = (w.alloc o').heap.size + j by simp; omega]
      exact this
/-- The blocks of the drawn lists, from block b on. -/
def drawObjs (b : Nat) : List Obj := drawOL.map (fun l => .cells (l.map (Value.int .i64)).toArray 3) ++ [.cells (((List.range 23).map fun j => Value.slice (some ⟨b + j, 0, none⟩) (drawOL.getD j []).length (drawOL.getD j []).length)).toArray 24]
theorem draw_short (j : Nat) (h : j < 23) : (drawOL.getD j []).length ≤ 3 := by
  have : (List.range 23).all (fun j => decide ((drawOL.getD j []).length ≤ 3)) = true := by decide
  simpa using List.all_eq_true.1 this j (List.mem_range.2 h)
theorem draw_obj (b j : Nat) (h : j < 23) : (drawObjs b)[j]? = some (.cells ((drawOL.getD j []).map (Value.int .i64)).toArray 3) := by
  have hl : j < drawOL.length := h
  unfold drawObjs
  rw [List.getElem?_append_left (by simpa using hl), List.getElem?_map, List.getElem?_eq_getElem hl]
  simp [List.getD, hl]
theorem draw_outer (b : Nat) : (drawObjs b)[23]? = some (.cells (((List.range 23).map fun j => Value.slice (some ⟨b + j, 0, none⟩) (drawOL.getD j []).length (drawOL.getD j []).length)).toArray 24) := rfl
theorem draw_cell {W : World} {B b j : Nat} (h : W.heap[B]? = some (.cells (((List.range 23).map fun j => Value.slice (some ⟨b + j, 0, none⟩) (drawOL.getD j []).length (drawOL.getD j []).length)).toArray 24 (0, 0))) (hj : j < 23) :
    W.cell? ⟨B, j, none⟩ = some (.slice (some ⟨b + j, 0, none⟩) (drawOL.getD j []).length (drawOL.getD j []).length) := by
  rw [Joins.cell_of_block h j]
  simp [hj]
theorem draw_ints {W : World} {b : Nat} {l : List Int} (h : W.heap[b]? = some (.cells (l.map (Value.int .i64)).toArray 3 (0, 0))) : Ints W (some ⟨b, 0, none⟩) l := by
  refine .inr ⟨b, 0, rfl, (Array.getElem?_eq_some_iff.1 h).1, fun i hi => ?_⟩
  rw [Joins.cell_of_block h (0 + i)]
  simp [List.getD, hi]
theorem ints_grown {w w' : World} {b : Nat} {l : List Int} {row : Option Nat} (h : Ints w (some ⟨b, 0, none⟩) l) (hg : w.grownBy w' row) (hne : some b ≠ row) : Ints w' (some ⟨b, 0, none⟩) l := by
  rcases h with h | ⟨b', off, ha, hlt, hc⟩
  · exact .inl h
  · injection ha with ha; injection ha with e1 e2 e3
    subst e1; subst e2
    exact .inr ⟨b, 0, rfl, Nat.lt_of_lt_of_le hlt hg.size, fun i hi => by exact hg.cell (hc i hi) hne⟩
theorem ints_lt {w : World} {b : Nat} {l : List Int} {k : Nat} (h : Ints w (some ⟨b, 0, none⟩) l) (hk : k < l.length) : w.cell? ⟨b, k, none⟩ = some (.int .i64 (l.getD k 0)) := by
  rcases h with h | ⟨b', off, ha, hlt, hc⟩
  · subst h; simp at hk
  · injection ha with ha; injection ha with e1 e2 e3
    subst e1; subst e2
    simpa using hc k hk
/-- A write to a block made since leaves the frame. -/
theorem grown_newset {a w : World} {row : Option Nat} (h : a.grownBy w row) {b : Nat} (hb : a.heap.size ≤ b) (v : Value) : a.grownBy (w.setCell ⟨b, 0, none⟩ v) row :=
  ⟨h.os, h.tape, h.output, by simpa using h.size, fun k hk hr => (heap_setCell_other w ⟨b, 0, none⟩ k v (fun e => by simp at e; omega)).trans (h.block k hk hr)⟩
theorem ownsRow_lower {w : World} {base base' : Nat} {e : TypeId} {size : Nat} {v : Value} {n : Nat} {xs : List Value} (h : w.ownsRow base e size v n xs) (hb : base' ≤ base) : w.ownsRow base' e size v n xs :=
  ⟨h.1, h.2.imp id fun ⟨g, cap, cur, hv, hg, r⟩ => ⟨g, cap, cur, hv, Nat.le_trans hb hg, r⟩⟩
/-- The drawn group's block, filled with a row of the call's own, and the cursor. -/
theorem group_end {w w3 wa : World} {C : Nat} {a : Option Addr} {len cap n : Nat} {v : Value} {xs : List Value} (hC : C < w.heap.size) (hc : CurAt w3 C a len cap) (hC3 : C < w3.heap.size) (h3 : w.grownBy w3 (some C)) (hs : w.heap.size < w3.heap.size)
    (ha : w3.grownBy wa none) (ho : wa.ownsRow w3.heap.size 3 1 v n xs) :
    (wa.setCell ⟨w.heap.size, 0, none⟩ v).ownsRow w.heap.size 3 1 v n xs ∧ CurAt (wa.setCell ⟨w.heap.size, 0, none⟩ v) C a len cap ∧ w.grownBy (wa.setCell ⟨w.heap.size, 0, none⟩ v) (some C) := by
  refine ⟨ownsRow_lower (ownsRow_setCell_below (a := ⟨w.heap.size, 0, none⟩) ho hs v) (Nat.le_of_lt hs), hc.other ?_, grown_newset (grownC_trans h3 ⟨ha.os, ha.tape, ha.output, ha.size, fun k hk _ => ha.block k hk (by simp)⟩) (Nat.le_refl _) v⟩
  rw [heap_setCell_other _ _ _ _ (fun e => by simp at e; omega)]
  exact ha.block C hC3 (by simp)
set_option maxHeartbeats 4000000 in
theorem l2Draw_any (w : World) (C : Nat) (a : Option Addr) (len cap : Nat) (most : Int) (hlen : len ≤ 1048576) (hc : CurAt w C a len cap) (hd : DataAt w C a len) :
    Calls Tryz.prog 89 #[.pointer (some ⟨C, 0, none⟩), .int .i64 most] w fun e w' => ∃ (u : Value) (l : List Int), e = .returned (.agg #[u]) ∧ w'.ownsRow w.heap.size 3 1 u l.length (l.map (Value.int .i64)) ∧ l.length ≤ 3 ∧ CurAt w' C a len cap ∧ w.grownBy w' (some C) := by
  have HC := Lib.hid hc
  have HD := Lib.hid hd
  have hCw : C < w.heap.size := hc.lt
  have HG0 := Lib.hid (grownG_trans (World.grownBy_alloc w (.cells #[.slice none 0 0] 26) (some C)) (push_grown (w.alloc (.cells #[.slice none 0 0] 26)) (drawObjs (w.heap.size + 1)) (some C)))
  have HG0n := Lib.hid (grownG_trans (World.grownBy_alloc w (.cells #[.slice none 0 0] 26) none) (push_grown (w.alloc (.cells #[.slice none 0 0] 26)) (drawObjs (w.heap.size + 1)) none))
  have HSZ := Lib.hid (push_size (w.alloc (.cells #[.slice none 0 0] 26)) (drawObjs (w.heap.size + 1)))
  have HR0 : Hid ((pushAll (w.alloc (.cells #[.slice none 0 0] 26)) (drawObjs (w.heap.size + 1))).heap[w.heap.size]? = some (.cells #[.slice none 0 0] 26 (0, 0))) := Lib.hid (((push_grown (w.alloc (.cells #[.slice none 0 0] 26)) (drawObjs (w.heap.size + 1)) none).block w.heap.size (by simp) (by simp)).trans (heap_alloc_new w _))
  have HAT : Hid (∀ j o, (drawObjs (w.heap.size + 1))[j]? = some o → (pushAll (w.alloc (.cells #[.slice none 0 0] 26)) (drawObjs (w.heap.size + 1))).heap[w.heap.size + 1 + j]? = some o) := Lib.hid (fun j o h => by have := push_at (w.alloc (.cells #[.slice none 0 0] 26)) (drawObjs (w.heap.size + 1)) j o h; simpa using this)
  clear hc hd
  obtain ⟨i0, hi0, hz0, hz1, hz2⟩ := info_parts intInfo
  go_enter Tryz.func89, Tryz.ntmps89
  go_upto_region 2 with (fail)
  change Code.wp Tryz.prog _ _ _ (pushAll (w.alloc (.cells #[.slice none 0 0] 26)) (drawObjs (w.heap.size + 1)))
  generalize pushAll (w.alloc (.cells #[.slice none 0 0] 26)) (drawObjs (w.heap.size + 1)) = W at *
  have HCW := Lib.hid (HC.out.other (HG0n.out.block C hCw (by simp)))
  have HDW := Lib.hid (HD.out.grown HG0.out)
  have HBS := Lib.hid (below_small W C a len cap 23 hlen HCW.out HDW.out (by decide) (by decide))
  have HO : Hid (W.heap[w.heap.size + 1 + 1 + 1 + 1 + 1 + 1 + 1 + 1 + 1 + 1 + 1 + 1 + 1 + 1 + 1 + 1 + 1 + 1 + 1 + 1 + 1 + 1 + 1 + 1]? = some (.cells (((List.range 23).map fun j => Value.slice (some ⟨w.heap.size + 1 + j, 0, none⟩) (drawOL.getD j []).length (drawOL.getD j []).length)).toArray 24 (0, 0))) := Lib.hid (HAT.out 23 _ (draw_outer _))
  go_upto_region 3 with (first
    | (go_at_call 90; refine HBS.out.mono ?_; rintro e w3 ⟨x, rfl, hx0, hx1, hcur, hg⟩; obtain ⟨j, rfl⟩ : ∃ j : Nat, x = j := ⟨x.toNat, by omega⟩; have hj : j < 23 := (by omega); have rc := hg.cell (draw_cell HO.out hj) (fun e => by simp at e; omega); have HI := Lib.hid (draw_ints (HAT.out j _ (draw_obj _ j hj))); have hs3 := draw_short j hj; have HCU := Lib.hid hcur; have HG3 := Lib.hid hg))
  have hjW : w.heap.size + 1 + j < W.heap.size := by have := HSZ.out; simp [drawObjs, drawOL] at this; omega
  clear HAT HBS HDW HCW HSZ
  have hlE : drawOL.getD j [] = drawOL[j]?.getD [] := by simp [List.getD_eq_getElem?_getD]
  rw [hlE] at HI hs3
  clear hlE HO
  generalize drawOL[j]?.getD [] = l at *
  have HI3 : Hid (Ints w3 (some ⟨w.heap.size + 1 + j, 0, none⟩) l) := Lib.hid (ints_grown HI.out HG3.out (by simp; omega))
  have hsz3 : w.heap.size < w3.heap.size := by have := HG3.out.size; omega
  have R3 : Hid (w3.heap[w.heap.size]? = some (.cells #[.slice none 0 0] 26 (0, 0))) := Lib.hid ((HG3.out.block _ (by omega) (by simp; omega)).trans HR0.out)
  have HW3 := Lib.hid (grownC_trans HG0.out HG3.out)
  clear hcur hg rc HI HG3 HG0 HG0n HR0 hjW
  go_wp2
  go_loop [7, 8] (fun n i => ∃ (k : Nat) (q : Int), k ≤ l.length ∧ i = .int .i64 k ∧ n = .int .i64 q) (fun _ i => l.length - (intOf i).toNat)
  case atStart => exact ⟨0, _, Nat.zero_le _, rfl, rfl⟩
  case round =>
    obtain ⟨k, q, hk, rfl, rfl⟩ := hrel
    by_cases hlt : k < l.length
    · have hcell := ints_lt HI3.out hlt
      go_wp2
      go_round
      case rel => exact ⟨k + 1, _, by omega, by go_num, rfl⟩
      case measure => simp [intOf]; omega
    · by_cases hq : q > most
      · obtain ⟨c1, f1⟩ := one_cell R3.out
        have f1' : (w3.alloc (.cells #[.int .i64 5] 3)).frozen? ⟨w.heap.size, 0, none⟩ = false := (frozen?_alloc_cells _ _ _ _).trans f1
        have c1' : (w3.alloc (.cells #[.int .i64 5] 3)).cell? ⟨w.heap.size, 0, none⟩ = some (.slice none 0 0) := (World.cell?_alloc_past _ _ _ hsz3).trans c1
        have hC3 : C < w3.heap.size := by omega
        have E := Lib.hid (group_end hCw HCU.out hC3 HW3.out hsz3 (World.grownBy_alloc w3 (.cells #[.int .i64 5] 3) none) (World.ownsRow_lit w3 #[.int .i64 5] 1 (Nat.le_refl _) (by decide) rfl))
        rw [World.setCell_alloc_past (.cells #[.int .i64 5] 3) w.heap.size 0 (.slice (some ⟨w3.heap.size, 0, none⟩) 1 1) hsz3] at E
        have c2 : ((w3.setCell ⟨w.heap.size, 0, none⟩ (.slice (some ⟨w3.heap.size, 0, none⟩) 1 1)).alloc (.cells #[.int .i64 5] 3)).cell? ⟨w.heap.size, 0, none⟩ = some (.slice (some ⟨w3.heap.size, 0, none⟩) 1 1) := (World.cell?_alloc_past _ _ _ (by simpa using hsz3)).trans (World.cell?_setCell_same _ _ _ c1)
        go_wp2
        refine bodyPost_ret (v := .agg #[.slice (some ⟨w3.heap.size, 0, none⟩) 1 1]) (by simp [results, Tryz.results89, go_sem, c2]) rfl ?_
        exact ⟨_, rfl, [5], E.out.1, by decide, E.out.2.1, E.out.2.2⟩
      · obtain ⟨c1, f1⟩ := one_cell R3.out
        have hC3 : C < w3.heap.size := by omega
        have HW4 := Lib.hid (World.grownBy_alloc w3 (.cells #[] 3) none)
        have HO4 := Lib.hid (World.ownsRow_lit (e := 3) (size := 1) w3 #[] 0 (Nat.le_refl _) (by decide) rfl)
        have HJ : Hid (w.heap.size + 1 + j < w3.heap.size ∨ l = []) := Lib.hid (by rcases HI3.out with h | ⟨b, off, ha, hb, _⟩; exact .inr h; injection ha with ha; injection ha with e1 _ _; subst e1; exact .inl hb)
        go_wp2_with (at_builtin; refine wpList_append_own _ rfl _ _ 24 rfl w3.heap.size 3 i0 (.int .i64 0) 1 8 Tryz.underlying24 hi0 hz0 hz1 hz2 rfl (by decide) _ _ _ rfl HO4.out ⟨w.heap.size + 1 + j, 0, none⟩ l.length l.length (l.map (Value.int .i64)) rfl (by simp) ?c1 ?c2 ?c3 ?c4 ?c5 ?_)
        case c1 =>
          intro k z hz
          have hk := (List.getElem?_eq_some_iff.1 hz).1
          have hcell := ints_lt HI3.out hk
          have hv : l.getD k 0 = z := by simp [List.getD, hz]
          rw [hv] at hcell
          have hb : w.heap.size + 1 + j < w3.heap.size := by
            rcases HJ.out with h | h
            · exact h
            · subst h; simp at hk
          exact (World.cell?_alloc_past _ _ _ hb).trans hcell
        case c2 => intro z _; rfl
        case c3 => unfold maxLen; omega
        case c4 => omega
        intro v' w' hown hgrow _
        have hgr : w3.grownBy w' none := ⟨hgrow.os.trans HW4.out.os, hgrow.tape.trans HW4.out.tape, hgrow.output.trans HW4.out.output, Nat.le_trans HW4.out.size hgrow.size, fun b hb hn => (hgrow.block b (Nat.lt_of_lt_of_le hb HW4.out.size) (by intro e; simp [Value.ownBlock] at e; omega)).trans (HW4.out.block b hb hn)⟩
        obtain ⟨cg, fg⟩ := one_cell ((hgr.block _ hsz3 (by simp)).trans R3.out)
        obtain ⟨ao, n', cap', rfl⟩ : ∃ ao n' cap', v' = .slice ao n' cap' := by
          rcases hown.2 with ⟨h, _⟩ | ⟨g, cap, cur, h, _⟩
          · exact ⟨_, _, _, h⟩
          · exact ⟨_, _, _, h⟩
        have E := Lib.hid (group_end hCw HCU.out hC3 HW3.out hsz3 hgr hown)
        have c2 := World.cell?_setCell_same w' ⟨w.heap.size, 0, none⟩ (.slice ao n' cap') cg
        clear hown hgrow hgr
        go_wp2
        refine bodyPost_ret (v := .agg #[.slice ao n' cap']) (by simp [results, Tryz.results89, go_sem, c2]) rfl ?_
        exact ⟨_, l, rfl, E.out.1, by omega, E.out.2.1, E.out.2.2⟩
end Go.Proofs.YtaacofbmbpkeoaaGreatDoor

namespace Go.Proofs.YtaacofbmbpkeoaaGreatDoor
open Go.RowKit
set_option maxRecDepth 1000000
theorem own_form {w : World} {base : Nat} {e : TypeId} {size : Nat} {v : Value} {n : Nat} {xs : List Value} (h : w.ownsRow base e size v n xs) : ∃ ao n' cap', v = .slice ao n' cap' := by
  rcases h.2 with ⟨h, _⟩ | ⟨g, cap, cur, h, _⟩
  · exact ⟨_, _, _, h⟩
  · exact ⟨_, _, _, h⟩
theorem group_end2 {w w3 wa : World} {C B : Nat} {a : Option Addr} {len cap n : Nat} {v : Value} {xs : List Value} (hC : C < w.heap.size) (hc : CurAt w3 C a len cap) (hC3 : C < w3.heap.size) (h3 : w.grownBy w3 (some C)) (hB : w.heap.size < B)
    (ha : w3.grownBy wa none) (ho : wa.ownsRow B 3 1 v n xs) :
    (wa.setCell ⟨w.heap.size, 0, none⟩ v).ownsRow w.heap.size 3 1 v n xs ∧ CurAt (wa.setCell ⟨w.heap.size, 0, none⟩ v) C a len cap ∧ w.grownBy (wa.setCell ⟨w.heap.size, 0, none⟩ v) (some C) := by
  refine ⟨ownsRow_lower (ownsRow_setCell_below (a := ⟨w.heap.size, 0, none⟩) ho hB v) (Nat.le_of_lt hB), hc.other ?_, grown_newset (grownC_trans h3 ⟨ha.os, ha.tape, ha.output, ha.size, fun k hk _ => ha.block k hk (by simp)⟩) (Nat.le_refl _) v⟩
  rw [heap_setCell_other _ _ _ _ (fun e => by simp at e; omega)]
  exact ha.block C hC3 (by simp)
/-- What stands after the group is drawn and the cursor asked once more. -/
theorem any_mid {w w1 w3 : World} {C n : Nat} {u : Value} {xs : List Value} (hC : C < w.heap.size) (h0 : w.grownBy (w.alloc (.cells #[.slice none 0 0] 26)) (some C)) (R0 : (w.alloc (.cells #[.slice none 0 0] 26)).heap[w.heap.size]? = some (.cells #[.slice none 0 0] 26 (0, 0)))
    (ho : w1.ownsRow (w.alloc (.cells #[.slice none 0 0] 26)).heap.size 3 1 u n xs) (hg : (w.alloc (.cells #[.slice none 0 0] 26)).grownBy w1 (some C)) (hg3 : (w1.alloc (.cells #[u] 26)).grownBy w3 (some C)) :
    w3.ownsRow (w.heap.size + 1) 3 1 u n xs ∧ w.grownBy w3 (some C) ∧ w3.heap[w.heap.size]? = some (.cells #[.slice none 0 0] 26 (0, 0)) ∧ w3.cell? ⟨w1.heap.size, 0, none⟩ = some u ∧ w.heap.size < w3.heap.size := by
  have ho' : w1.ownsRow (w.heap.size + 1) 3 1 u n xs := by simpa using ho
  have hs1 : w.heap.size + 1 ≤ w1.heap.size := by simpa using hg.size
  have hs3 : w1.heap.size + 1 ≤ w3.heap.size := by simpa using hg3.size
  refine ⟨(ho'.alloc _).kept hg3 (.inr fun e => ?_), grownC_trans (grownC_trans (grownC_trans h0 hg) (World.grownBy_alloc w1 _ _)) hg3, ?_, hg3.cell (newC w1 u _ rfl) (by simp; omega), by omega⟩
  · have := (ho'.lt C e).1; omega
  · exact (hg3.block _ (by simp; omega) (by simp; omega)).trans (((World.grownBy_alloc w1 (.cells #[u] 26) none).block _ (by omega) (by simp)).trans ((hg.block _ (by simp) (by simp; omega)).trans R0))
set_option maxHeartbeats 4000000 in
theorem l2Any_any (w : World) (C : Nat) (a : Option Addr) (len cap : Nat) (hlen : len ≤ 1048576) (hc : CurAt w C a len cap) (hd : DataAt w C a len) :
    Calls Tryz.prog 64 #[.pointer (some ⟨C, 0, none⟩)] w fun e w' => ∃ (u : Value) (l : List Int), e = .returned (.agg #[u]) ∧ w'.ownsRow w.heap.size 3 1 u l.length (l.map (Value.int .i64)) ∧ l.length ≤ 4 ∧ CurAt w' C a len cap ∧ w.grownBy w' (some C) := by
  have HC := Lib.hid hc
  have HD := Lib.hid hd
  have hCw : C < w.heap.size := hc.lt
  have HG0 := Lib.hid (World.grownBy_alloc w (.cells #[.slice none 0 0] 26) (some C))
  have HCA := Lib.hid (HC.out.other ((World.grownBy_alloc w (.cells #[.slice none 0 0] 26) none).block C hCw (by simp)))
  have HDA := Lib.hid (HD.out.grown HG0.out)
  have HDR := Lib.hid (l2Draw_any (w.alloc (.cells #[.slice none 0 0] 26)) C a len cap 24 hlen HCA.out HDA.out)
  have R0 : Hid ((w.alloc (.cells #[.slice none 0 0] 26)).heap[w.heap.size]? = some (.cells #[.slice none 0 0] 26 (0, 0))) := Lib.hid (heap_alloc_new w _)
  clear hc hd
  go_enter Tryz.func64, Tryz.ntmps64
  go_wp2_with (go_at_call 89; refine HDR.out.mono ?_; rintro e w1 ⟨u, l, rfl, ho1, hl1, hcur1, hg1⟩; obtain ⟨ao, n', cap', rfl⟩ := own_form ho1; have hC1 : C < w1.heap.size := (by have := hg1.size; simp at this; omega))
  refine (below_small _ C a len cap 16 hlen (hcur1.other ((World.grownBy_alloc w1 _ none).block C hC1 (by simp))) (HD.out.grown (grownC_trans (grownC_trans HG0.out hg1) (World.grownBy_alloc w1 _ _))) (by decide) (by decide)).mono ?_
  rintro e w3 ⟨x, rfl, hx0, hx1, hcur, hg⟩
  obtain ⟨ho3, hG3, hR3, c3, hsz3⟩ := any_mid hCw HG0.out R0.out ho1 hg1 hg
  obtain ⟨c1, f1⟩ := one_cell hR3
  have hC3 : C < w3.heap.size := by omega
  have HCU := Lib.hid hcur
  have HW3 := Lib.hid hG3
  have HO3 := Lib.hid ho3
  have R3 := Lib.hid hR3
  have HD3 := Lib.hid (HD.out.grown hG3)
  clear hcur hg hg1 hcur1 ho1 ho3 hG3 hR3 HDR HCA HDA HG0 R0
  by_cases h0 : x = 0
  · subst h0
    go_wp2_with (fail)
    refine (pick_any _ C a len cap w3.heap.size 5 5 hlen ?h1 ?h2 (by omega) (by omega) ?h3 ?h4).mono ?_
    case h1 => exact HCU.out.other (heap_alloc_old w3 _ hC3)
    case h2 => exact HD3.out.grown (World.grownBy_alloc w3 _ _)
    case h3 => omega
    case h4 =>
      intro i hi
      have : ∃ z : Int, -9223372036854775808 ≤ z ∧ z ≤ 9223372036854775807 ∧ (#[.int .i64 0, .int .i64 1, .int .i64 (-1), .int .i64 25, .int .i64 9223372036854775807] : Array Value)[i]? = some (.int .i64 z) := by
        match i, hi with
        | 0, _ => exact ⟨0, by decide, by decide, rfl⟩
        | 1, _ => exact ⟨1, by decide, by decide, rfl⟩
        | 2, _ => exact ⟨-1, by decide, by decide, rfl⟩
        | 3, _ => exact ⟨25, by decide, by decide, rfl⟩
        | 4, _ => exact ⟨9223372036854775807, by decide, by decide, rfl⟩
      obtain ⟨z, hz0, hz1, hz⟩ := this
      exact ⟨z, hz0, hz1, (World.cell?_alloc_at _ _ _ _ rfl).trans hz⟩
    rintro e w4 ⟨z, rfl, hz0, hz1, hcur4, hg4⟩
    have hs4 : w3.heap.size + 1 ≤ w4.heap.size := by simpa using hg4.size
    have hsz4 : w.heap.size < w4.heap.size := by omega
    have HW4 := grownC_trans (grownC_trans HW3.out (World.grownBy_alloc w3 _ _)) hg4
    obtain ⟨c4, f4⟩ := one_cell ((hg4.block _ (by simp; omega) (by simp; omega)).trans ((heap_alloc_old w3 _ hsz3).trans R3.out))
    have E := Lib.hid (group_end hCw hcur4 (by omega) HW4 hsz4 (World.grownBy_alloc w4 (.cells #[.int .i64 z] 3) none) (World.ownsRow_lit w4 #[.int .i64 z] 1 (Nat.le_refl _) (by decide) rfl))
    have c4' : (w4.alloc (.cells #[.int .i64 z] 3)).cell? ⟨w.heap.size, 0, none⟩ = some (.slice none 0 0) := (World.cell?_alloc_past _ _ _ hsz4).trans c4
    have f4' : (w4.alloc (.cells #[.int .i64 z] 3)).frozen? ⟨w.heap.size, 0, none⟩ = false := (frozen?_alloc_cells _ _ _ _).trans f4
    rw [World.setCell_alloc_past (.cells #[.int .i64 z] 3) w.heap.size 0 (.slice (some ⟨w4.heap.size, 0, none⟩) 1 1) hsz4] at E
    have c2 : ((w4.setCell ⟨w.heap.size, 0, none⟩ (.slice (some ⟨w4.heap.size, 0, none⟩) 1 1)).alloc (.cells #[.int .i64 z] 3)).cell? ⟨w.heap.size, 0, none⟩ = some (.slice (some ⟨w4.heap.size, 0, none⟩) 1 1) := (World.cell?_alloc_past _ _ _ (by simpa using hsz4)).trans (World.cell?_setCell_same _ _ _ c4)
    clear HW4 hg4 hcur4 c3 c1 f1
    go_wp2
    refine bodyPost_ret (v := .agg #[.slice (some ⟨w4.heap.size, 0, none⟩) 1 1]) (by simp [results, Tryz.results64, go_sem, c2]) rfl ?_
    exact ⟨_, [z], rfl, E.out.1, by simp, E.out.2.1, E.out.2.2⟩
  · have e0 : (x == 0) = false := by simpa using h0
    by_cases h1 : x = 1
    · subst h1
      have E := Lib.hid (group_end hCw HCU.out hC3 HW3.out hsz3 (World.grownBy_alloc w3 (.cells #[.int .i64 2, .int .i64 2, .int .i64 2, .int .i64 2] 3) none) (World.ownsRow_lit w3 #[.int .i64 2, .int .i64 2, .int .i64 2, .int .i64 2] 4 (Nat.le_refl _) (by decide) rfl))
      have c1' : (w3.alloc (.cells #[.int .i64 2, .int .i64 2, .int .i64 2, .int .i64 2] 3)).cell? ⟨w.heap.size, 0, none⟩ = some (.slice none 0 0) := (World.cell?_alloc_past _ _ _ hsz3).trans c1
      have f1' : (w3.alloc (.cells #[.int .i64 2, .int .i64 2, .int .i64 2, .int .i64 2] 3)).frozen? ⟨w.heap.size, 0, none⟩ = false := (frozen?_alloc_cells _ _ _ _).trans f1
      rw [World.setCell_alloc_past (.cells #[.int .i64 2, .int .i64 2, .int .i64 2, .int .i64 2] 3) w.heap.size 0 (.slice (some ⟨w3.heap.size, 0, none⟩) 4 4) hsz3] at E
      have c2 : ((w3.setCell ⟨w.heap.size, 0, none⟩ (.slice (some ⟨w3.heap.size, 0, none⟩) 4 4)).alloc (.cells #[.int .i64 2, .int .i64 2, .int .i64 2, .int .i64 2] 3)).cell? ⟨w.heap.size, 0, none⟩ = some (.slice (some ⟨w3.heap.size, 0, none⟩) 4 4) := (World.cell?_alloc_past _ _ _ (by simpa using hsz3)).trans (World.cell?_setCell_same _ _ _ c1)
      go_wp2
      refine bodyPost_ret (v := .agg #[.slice (some ⟨w3.heap.size, 0, none⟩) 4 4]) (by simp [results, Tryz.results64, go_sem, c2]) rfl ?_
      exact ⟨_, [2, 2, 2, 2], rfl, E.out.1, by decide, E.out.2.1, E.out.2.2⟩
    · have e1 : (x == 1) = false := by simpa using h1
      by_cases h2 : x = 2
      · subst h2
        have E := Lib.hid (group_end hCw HCU.out hC3 HW3.out hsz3 (World.grownBy_alloc w3 (.cells #[.int .i64 5, .int .i64 5] 3) none) (World.ownsRow_lit w3 #[.int .i64 5, .int .i64 5] 2 (Nat.le_refl _) (by decide) rfl))
        have c1' : (w3.alloc (.cells #[.int .i64 5, .int .i64 5] 3)).cell? ⟨w.heap.size, 0, none⟩ = some (.slice none 0 0) := (World.cell?_alloc_past _ _ _ hsz3).trans c1
        have f1' : (w3.alloc (.cells #[.int .i64 5, .int .i64 5] 3)).frozen? ⟨w.heap.size, 0, none⟩ = false := (frozen?_alloc_cells _ _ _ _).trans f1
        rw [World.setCell_alloc_past (.cells #[.int .i64 5, .int .i64 5] 3) w.heap.size 0 (.slice (some ⟨w3.heap.size, 0, none⟩) 2 2) hsz3] at E
        have c2 : ((w3.setCell ⟨w.heap.size, 0, none⟩ (.slice (some ⟨w3.heap.size, 0, none⟩) 2 2)).alloc (.cells #[.int .i64 5, .int .i64 5] 3)).cell? ⟨w.heap.size, 0, none⟩ = some (.slice (some ⟨w3.heap.size, 0, none⟩) 2 2) := (World.cell?_alloc_past _ _ _ (by simpa using hsz3)).trans (World.cell?_setCell_same _ _ _ c1)
        go_wp2
        refine bodyPost_ret (v := .agg #[.slice (some ⟨w3.heap.size, 0, none⟩) 2 2]) (by simp [results, Tryz.results64, go_sem, c2]) rfl ?_
        exact ⟨_, [5, 5], rfl, E.out.1, by decide, E.out.2.1, E.out.2.2⟩
      · have e2 : (x == 2) = false := by simpa using h2
        have E := Lib.hid (group_end2 hCw HCU.out hC3 HW3.out (Nat.lt_succ_self _) ⟨rfl, rfl, rfl, Nat.le_refl _, fun _ _ _ => rfl⟩ HO3.out)
        have c2 := World.cell?_setCell_same w3 ⟨w.heap.size, 0, none⟩ (.slice ao n' cap') c1
        go_wp2
        refine bodyPost_ret (v := .agg #[.slice ao n' cap']) (by simp [results, Tryz.results64, go_sem, c2]) rfl ?_
        exact ⟨_, l, rfl, E.out.1, by omega, E.out.2.1, E.out.2.2⟩
end Go.Proofs.YtaacofbmbpkeoaaGreatDoor
