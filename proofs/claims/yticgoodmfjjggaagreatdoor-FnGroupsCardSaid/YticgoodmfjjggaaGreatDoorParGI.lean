/- The contract of impl.ParseGroup: it answers the orders of the text's group, or none. -/
import Derived.Test.YticgoodmfjjggaaGreatDoorSplitI
import Derived.Test.YticgoodmfjjggaaGreatDoorOwnP
import Derived.Test.YticgoodmfjjggaaGreatDoorGrpIs
namespace Go.Proofs.YticgoodmfjjggaaGreatDoor
open Go.RowKit
set_option maxRecDepth 1000000
/-- What ParseGroup answers. -/
def ParsePost (r : Option (List Int)) (w : World) (e : Ending) (w' : World) : Prop :=
  ∃ u, e = .returned (.tuple #[.agg #[u], .bool r.isSome]) ∧ w'.ownsRow w.heap.size 3 1 u (r.getD []).length ((r.getD []).map (Value.int .i64)) ∧ Below w.heap.size w w'
theorem implR_split (s : List UInt8) : implR s = if s = [49] then some [] else (match splR 120 3 s with
    | none => none
    | some vals => if grpB vals = true then some vals else none) := by
  unfold implR splR
  by_cases h : s = [49]
  · rw [if_pos h, if_pos h]
  · rw [if_neg h, if_neg h]
    generalize Lib.splitK [120] 0 3 s = P
    by_cases hl : P.length ≤ 3
    · rw [if_pos hl]
      cases allAcc P <;> rfl
    · rw [if_neg hl]
      have hg : grpB (P.map resV) = false := grpB_long (by rw [List.length_map]; omega)
      rw [hg]
      cases allAcc P <;> rfl
set_option maxHeartbeats 1000000 in
theorem iParG (s : ByteArray) (m : Int) (w : World) (hs : s.size ≤ 1048576) (hv : w.cell? ⟨0, 0, none⟩ = some (.int .i64 m)) (ht : TabOn w.heap.size w) :
    Calls Tryz.prog 20 #[.string s] w (ParsePost (implR s.data.toList) w) := by
  have HRS := Lib.hid (implR_split s.data.toList)
  by_cases h49 : s.data.toList = [49]
  · have HR : Hid (implR s.data.toList = some []) := Lib.hid (by rw [HRS.out, if_pos h49])
    have hq : (s.toList == [49]) = true := by rw [Lib.toList_data, h49]; rfl
    clear h49 ht
    go_enter Tryz.func20, Tryz.ntmps20
    go_wp2
    refine bodyPost_ret (v := .tuple #[.agg #[.slice none 0 0], .bool true]) (by rw [results_cell_tmp Tryz.results20]; simp [go_sem]) rfl ?_
    rw [HR.out]
    exact ⟨.slice none 0 0, rfl, World.ownsRow_nil _ _ _ _, Joins.below_alloc1 _ _⟩
  · have hq : (s.toList == [49]) = false := by rw [Lib.toList_data]; simpa using h49
    have FW := Lib.hid (Joins.below_alloc1 w (.cells #[.slice none 0 0] 26))
    have HS := Lib.hid (iSplit 120 3 (by decide) (by decide) s m (w.alloc (.cells #[.slice none 0 0] 26)) hs (keepD (Joins.below_alloc1 w (.cells #[.slice none 0 0] 26)) hv) ((ht.on (Joins.below_alloc1 w (.cells #[.slice none 0 0] 26))).up (by simp)))
    have R0 := Lib.hid (heap_alloc_new w (.cells #[.slice none 0 0] 26))
    clear ht hv
    cases hr : splR 120 3 s.data.toList with
    | none =>
      have HRN : Hid (implR s.data.toList = none) := Lib.hid (by rw [HRS.out, if_neg h49, hr])
      rw [hr] at HS
      clear hr h49
      go_enter Tryz.func20, Tryz.ntmps20
      go_wp2_with (go_at_call 78; refine HS.out.mono ?_; rintro e w3 ⟨u, rfl, ho3, hb3⟩; obtain ⟨au, cu, rfl⟩ := own_slice' (l := []) rfl ho3; clear ho3; have T3 := Lib.hid (FW.out.trans (hb3.mono (by simp))); have HRr := Lib.hid (keepO hb3 (by simp) R0.out); have hsz := hb3.size; have T4 := Lib.hid (T3.out.alloc T3.out.size (.cells #[.slice au 0 cu] 26)); obtain ⟨cr, fr⟩ := one_cell HRr.out; obtain ⟨cr4, fr4⟩ := one_cell (keepO (Joins.below_alloc1 w3 (.cells #[.slice au 0 cu] 26)) (by simp at hsz; omega) HRr.out))
      refine bodyPost_ret (v := .tuple #[.agg #[.slice none 0 0], .bool false]) (by rw [results_cell_tmp Tryz.results20]; simp [go_sem, cr4]) rfl ?_
      rw [HRN.out]
      exact ⟨.slice none 0 0, rfl, World.ownsRow_nil _ _ _ _, Below.setCell (B := w.heap.size) T4.out (Nat.le_refl _) _⟩
    | some vals =>
      have HR2 : Hid (implR s.data.toList = if grpB vals = true then some vals else none) := Lib.hid (by rw [HRS.out, if_neg h49, hr])
      rw [hr] at HS
      have HL : Hid (vals.length ≤ 24) := Lib.hid (by
        unfold splR at hr
        split at hr
        · next h1 =>
          split at hr
          · cases hr; rw [List.length_map]; omega
          · cases hr
        · cases hr)
      clear hr h49
      have hv24 := HL.out
      cases hg : grpB vals with
      | true =>
        have HG := Lib.hid hg
        have HRY : Hid (implR s.data.toList = some vals) := Lib.hid (by rw [HR2.out, if_pos hg])
        clear hg
        go_enter Tryz.func20, Tryz.ntmps20
        go_wp2_with (first
          | (go_at_call 25; refine (isG _ _ vals _ _ rfl (by omega) (ints_alloc HIV.out _)).mono ?_; rw [HG.out]; rintro e w5 ⟨rfl, hb5⟩; obtain ⟨cr5, fr5⟩ := one_cell (keepO hb5 (by simp at hsz ⊢; omega) HR4.out); obtain ⟨cg5, fg5⟩ := one_cell (keepO hb5 (by simp) HG4.out))
          | (go_at_call 78; refine HS.out.mono ?_; rintro e w3 ⟨u, rfl, ho3, hb3⟩; obtain ⟨au, cu, rfl⟩ := own_slice' (l := vals) rfl ho3; have HOW : Hid (w3.ownsRow (w.alloc (.cells #[.slice none 0 0] 26)).heap.size 3 1 (.slice au vals.length cu) vals.length (vals.map (Value.int .i64))) := Lib.hid ho3; have HIV := Lib.hid (own_ints' (l := vals) rfl ho3); clear ho3; have T3 := Lib.hid (FW.out.trans (hb3.mono (by simp))); have HRr := Lib.hid (keepO hb3 (by simp) R0.out); have hsz := hb3.size; have T4 := Lib.hid (T3.out.alloc T3.out.size (.cells #[.slice au vals.length cu] 26)); have HR4 := Lib.hid (keepO (Joins.below_alloc1 w3 (.cells #[.slice au vals.length cu] 26)) (by simp at hsz; omega) HRr.out); have HG4 := Lib.hid (heap_alloc_new w3 (.cells #[.slice au vals.length cu] 26)); obtain ⟨cr, fr⟩ := one_cell HRr.out))
        refine bodyPost_ret (v := .tuple #[.agg #[.slice au vals.length cu], .bool true]) (by rw [results_cell_tmp Tryz.results20]; simp [go_sem, cr5]) rfl ?_
        rw [HRY.out]
        have h5 := owns_below (owns_below HOW.out (Joins.below_alloc1 w3 (.cells #[.slice au vals.length cu] 26))) hb5
        have hlt := h5.lt
        have hsz3 := T3.out.size
        refine ⟨.slice au vals.length cu, rfl, ?_, Below.setCell (B := w.heap.size) (T4.out.trans (hb5.mono T4.out.size)) (Nat.le_refl _) _⟩
        exact ownsRow_setCell_other (a := ⟨w.heap.size, 0, none⟩) (Joins.ownsRow_le (base' := w.heap.size) h5 (by simp)) (fun e => by have := (hlt _ e).1; simp at this; omega) (.slice au vals.length cu)
      | false =>
        have HG := Lib.hid hg
        have HRN : Hid (implR s.data.toList = none) := Lib.hid (by rw [HR2.out, if_neg (by simp [hg])])
        clear hg
        go_enter Tryz.func20, Tryz.ntmps20
        go_wp2_with (first
          | (go_at_call 25; refine (isG _ _ vals _ _ rfl (by omega) (ints_alloc HIV.out _)).mono ?_; rw [HG.out]; rintro e w5 ⟨rfl, hb5⟩; obtain ⟨cr5, fr5⟩ := one_cell (keepO hb5 (by simp at hsz ⊢; omega) HR4.out); obtain ⟨cg5, fg5⟩ := one_cell (keepO hb5 (by simp) HG4.out))
          | (go_at_call 78; refine HS.out.mono ?_; rintro e w3 ⟨u, rfl, ho3, hb3⟩; obtain ⟨au, cu, rfl⟩ := own_slice' (l := vals) rfl ho3; have HOW : Hid (w3.ownsRow (w.alloc (.cells #[.slice none 0 0] 26)).heap.size 3 1 (.slice au vals.length cu) vals.length (vals.map (Value.int .i64))) := Lib.hid ho3; have HIV := Lib.hid (own_ints' (l := vals) rfl ho3); clear ho3; have T3 := Lib.hid (FW.out.trans (hb3.mono (by simp))); have HRr := Lib.hid (keepO hb3 (by simp) R0.out); have hsz := hb3.size; have T4 := Lib.hid (T3.out.alloc T3.out.size (.cells #[.slice au vals.length cu] 26)); have HR4 := Lib.hid (keepO (Joins.below_alloc1 w3 (.cells #[.slice au vals.length cu] 26)) (by simp at hsz; omega) HRr.out); have HG4 := Lib.hid (heap_alloc_new w3 (.cells #[.slice au vals.length cu] 26)); obtain ⟨cr, fr⟩ := one_cell HRr.out))
        refine bodyPost_ret (v := .tuple #[.agg #[.slice none 0 0], .bool false]) (by rw [results_cell_tmp Tryz.results20]; simp [go_sem, cr5]) rfl ?_
        rw [HRN.out]
        exact ⟨.slice none 0 0, rfl, World.ownsRow_nil _ _ _ _, Below.setCell (B := w.heap.size) (T4.out.trans (hb5.mono T4.out.size)) (Nat.le_refl _) _⟩
end Go.Proofs.YticgoodmfjjggaaGreatDoor
