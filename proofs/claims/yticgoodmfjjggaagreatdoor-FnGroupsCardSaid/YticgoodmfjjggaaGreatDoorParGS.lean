/- The contract of spec.ParseGroup: it answers the orders of the text's group, or none. -/
import Derived.Test.YticgoodmfjjggaaGreatDoorParGI
import Derived.Test.YticgoodmfjjggaaGreatDoorParseS
namespace Go.Proofs.YticgoodmfjjggaaGreatDoor
open Go.RowKit
set_option maxRecDepth 1000000
theorem drop_at (s : ByteArray) (k : Nat) (h : k < s.size) : s.data.toList.drop k = s[k] :: s.data.toList.drop (k + 1) := by
  rw [List.drop_eq_getElem_cons (by simpa using h)]
  rfl
theorem ext_one (s : ByteArray) (k : Nat) (h : k < s.size) : s.extract k (k + 1) = bs [s[k]] := by
  apply ByteArray.ext
  apply Array.ext'
  rw [Lib.extract_data]
  rw [drop_at s k h, Nat.add_sub_cancel_left]
  simp [bs]
theorem bs_list2 (x : List UInt8) : (bs x).data.toList = x := by simp [bs]
/-- What the document's reading does behind its loop. -/
def specFin (s : List UInt8) : Option (List Int) → Option (List Int)
  | none => none
  | some acc => if s = [] then none else if fmtG acc = s then some acc else none
theorem spec_fin (s : List UInt8) (h1 : s ≠ [49]) (h2 : ¬ 10 < s.length) : specR s = specFin s (specLoop [] [] s) := by
  unfold specR
  rw [if_neg h1, if_neg h2]
  cases specLoop [] [] s <;> rfl
theorem spec_end (cur : List UInt8) (acc : List Int) : specLoop cur acc [] = if accB cur = true then some (acc ++ [resV cur]) else none := rfl
theorem spec_x (cur r : List UInt8) (acc : List Int) (c : UInt8) (h : c = 120) : specLoop cur acc (c :: r) = if accB cur = true then specLoop [] (acc ++ [resV cur]) r else none := by
  rw [specLoop, if_pos h]
theorem spec_o (cur r : List UInt8) (acc : List Int) (c : UInt8) (h : c ≠ 120) : specLoop cur acc (c :: r) = specLoop (cur ++ [c]) acc r := by
  rw [specLoop, if_neg h]
set_option maxHeartbeats 1000000 in
theorem sParG (s : ByteArray) (w : World) (hs : s.size ≤ 1048576) :
    Calls Tryz.prog 22 #[.string s] w (ParsePost (specR s.data.toList) w) := by
  obtain ⟨i0, hi0, hz0, hz1, hz2⟩ := info_parts intInfo
  have hsz : s.data.toList.length = s.size := by simp
  have HSZ := Lib.hid hsz
  clear hsz
  by_cases h49 : s.data.toList = [49]
  · have HR : Hid (specR s.data.toList = some []) := Lib.hid (by unfold specR; rw [if_pos h49])
    have hq : (s.toList == [49]) = true := by rw [Lib.toList_data, h49]; rfl
    clear h49
    go_enter Tryz.func22, Tryz.ntmps22
    go_wp2
    refine bodyPost_ret (v := .tuple #[.agg #[.slice none 0 0], .bool true]) (by rw [results_cell_tmp Tryz.results22]; simp [go_sem]) rfl ?_
    rw [HR.out]
    exact ⟨.slice none 0 0, rfl, World.ownsRow_nil _ _ _ _, Joins.below_alloc2 _ _ _⟩
  · have hq : (s.toList == [49]) = false := by rw [Lib.toList_data]; simpa using h49
    have HB := Lib.hid (Joins.below_alloc2 w (.cells #[.slice none 0 0] 26) (.cells #[.slice none 0 0] 26))
    obtain ⟨W, hW⟩ : ∃ W, W = ((w.alloc (.cells #[.slice none 0 0] 26)).alloc (.cells #[.slice none 0 0] 26)) := ⟨_, rfl⟩
    have hWs : W.heap.size = w.heap.size + 1 + 1 := by rw [hW]; simp
    have R0 : Hid (W.heap[w.heap.size]? = some (.cells #[.slice none 0 0] 26 (0, 0))) := Lib.hid (by rw [hW]; exact keepO (Joins.below_alloc1 _ _) (by simp) (heap_alloc_new w _))
    have G0 : Hid (W.heap[w.heap.size + 1]? = some (.cells #[.slice none 0 0] 26 (0, 0))) := Lib.hid (by rw [hW]; simpa using heap_alloc_new (w.alloc (.cells #[.slice none 0 0] 26)) (.cells #[.slice none 0 0] 26))
    rw [← hW] at HB
    have HW := Lib.hid hW
    have HWS := Lib.hid hWs
    clear hWs hW
    by_cases h10 : 10 < s.size
    · have HR : Hid (specR s.data.toList = none) := Lib.hid (by unfold specR; rw [if_neg h49, if_pos (by rw [HSZ.out]; exact h10)])
      have hq2 : ((bs [49]).toList == s.toList) = false := by
        rw [Lib.toList_data, Lib.toList_data]
        have : ¬ [49] = s.data.toList := fun e => h49 e.symm
        simpa [bs] using this
      have hq3 : s.toList.isEmpty = false := by
        rw [Lib.toList_data]
        cases hl : s.data.toList with
        | nil => have := HSZ.out; rw [hl] at this; simp at this; omega
        | cons a b => rfl
      obtain ⟨cr, fr⟩ := one_cell R0.out
      obtain ⟨cg, fg⟩ := one_cell G0.out
      have HFM := Lib.hid (sFmtG W none [] 0 0 rfl (by decide) (.inl rfl))
      rw [show fmtG [] = [49] from rfl] at HFM
      clear h49
      go_enter Tryz.func22, Tryz.ntmps22
      go_upto_region 4 with (fail)
      rw [← HW.out]
      go_wp2
      refine wp_loop_rounds 1 ?_
      rw [rounds_succ]
      go_wp2_with (go_at_call 23; refine HFM.out.mono ?_; rintro e w5 ⟨rfl, hb5⟩; obtain ⟨cr5, fr5⟩ := one_cell (keepO hb5 (by rw [HWS.out]; omega) R0.out))
      refine bodyPost_ret (v := .tuple #[.agg #[.slice none 0 0], .bool false]) (by rw [results_cell_tmp Tryz.results22]; simp [go_sem, cr5]) rfl ?_
      rw [HR.out]
      exact ⟨.slice none 0 0, rfl, World.ownsRow_nil _ _ _ _, Below.setCell (B := w.heap.size) (HB.out.trans (hb5.mono (by rw [HWS.out]; omega))) (Nat.le_refl _) _⟩
    · have hs10 : s.size ≤ 10 := by omega
      have HR := Lib.hid (spec_fin s.data.toList h49 (by rw [HSZ.out]; exact h10))
      obtain ⟨c1, f1⟩ := one_cell R0.out
      obtain ⟨c2, f2⟩ := one_cell G0.out
      clear h49 h10
      go_enter Tryz.func22, Tryz.ntmps22
      go_upto_region 4 with (fail)
      rw [← HW.out]
      go_wp2
      go_loopw [5, 6] (fun p i wr => ∃ (k : Nat) (cur : List UInt8) (acc : List Int) (v : Value), k ≤ s.size + 1 ∧ i = .int .i64 k ∧ p = strV cur ∧ Hid (cur.length ≤ k) ∧ Hid (acc.length ≤ k) ∧ Hid ((k ≤ s.size ∧ specLoop [] [] s.data.toList = specLoop cur acc (s.data.toList.drop k)) ∨ (k = s.size + 1 ∧ specLoop [] [] s.data.toList = some acc)) ∧ Hid (wr.heap[w.heap.size + 1]? = some (.cells #[v] 26 (0, 0))) ∧ wr.ownsRow (w.heap.size + 1 + 1) 3 1 v acc.length (acc.map (Value.int .i64)) ∧ Hid (w.heap.size + 1 + 1 ≤ wr.heap.size) ∧ Below (w.heap.size + 1) W wr) (fun _ i _ => s.size + 1 - (intOf i).toNat)
      case atStart => exact ⟨0, [], [], .slice none 0 0, by omega, rfl, rfl, Lib.hid (Nat.le_refl _), Lib.hid (Nat.le_refl _), Lib.hid (.inl ⟨by omega, rfl⟩), G0, World.ownsRow_nil _ _ _ _, Lib.hid (by rw [HWS.out]; omega), Below.refl _ _⟩
      case round =>
        obtain ⟨k, cur, acc, v, hk, rfl, rfl, HCL, HAL, HSP, HGv, hown, HSz, hbel⟩ := hrel
        have hszr := HSz.out
        have HRr := Lib.hid (keepO hbel (by omega) R0.out)
        have H1 : Hid (w.heap.size < wr.heap.size ∧ w.heap.size + 1 < wr.heap.size) := Lib.hid ⟨by omega, by omega⟩
        have HOW := Lib.hid hown
        have HBL := Lib.hid hbel
        have hcl := HCL.out
        have hal := HAL.out
        clear hown hbel
        by_cases hend : k = s.size + 1
        · have hsp : specLoop [] [] s.data.toList = some acc := by
            rcases HSP.out with ⟨h, _⟩ | ⟨_, h⟩
            · omega
            · exact h
          have HRF : Hid (specR s.data.toList = if s.data.toList = [] then none else if fmtG acc = s.data.toList then some acc else none) := Lib.hid (by rw [HR.out, hsp]; rfl)
          subst hend
          obtain ⟨u, cap, rfl⟩ := own_slice' rfl HOW.out
          have HIV := Lib.hid (own_ints' rfl HOW.out)
          obtain ⟨cg, fg⟩ := one_cell HGv.out
          obtain ⟨cr, fr⟩ := one_cell HRr.out
          clear hsp HSP
          by_cases hem : s.data.toList = []
          · have hq3 : s.toList.isEmpty = true := by rw [Lib.toList_data, hem]; rfl
            have HRN : Hid (specR s.data.toList = none) := Lib.hid (by rw [HRF.out, if_pos hem])
            clear hem
            go_wp2
            refine bodyPost_ret (v := .tuple #[.agg #[.slice none 0 0], .bool false]) (by rw [results_cell_tmp Tryz.results22]; simp [go_sem, cr]) rfl ?_
            rw [HRN.out]
            exact ⟨.slice none 0 0, rfl, World.ownsRow_nil _ _ _ _, Below.setCell (B := w.heap.size) (HB.out.trans (HBL.out.mono (by omega))) (Nat.le_refl _) _⟩
          · have hq3 : s.toList.isEmpty = false := by
              rw [Lib.toList_data]
              cases hl : s.data.toList with
              | nil => exact absurd hl hem
              | cons a b => rfl
            have HFM := Lib.hid (sFmtG wr u acc acc.length cap rfl (by omega) HIV.out)
            by_cases hf : fmtG acc = s.data.toList
            · have HRY : Hid (specR s.data.toList = some acc) := Lib.hid (by rw [HRF.out, if_neg hem, if_pos hf])
              have hq4 : ((bs (fmtG acc)).toList == s.toList) = true := by rw [Lib.toList_data, Lib.toList_data, bs_list2, hf]; simp
              clear hem hf
              go_wp2_with (go_at_call 23; refine HFM.out.mono ?_; rintro e w5 ⟨rfl, hb5⟩; obtain ⟨cr5, fr5⟩ := one_cell (keepO hb5 (by omega) HRr.out); obtain ⟨cg5, fg5⟩ := one_cell (keepO hb5 (by omega) HGv.out))
              refine bodyPost_ret (v := .tuple #[.agg #[.slice u acc.length cap], .bool true]) (by rw [results_cell_tmp Tryz.results22]; simp [go_sem, cr5]) rfl ?_
              rw [HRY.out]
              have h5 := owns_below HOW.out hb5
              have hlt := h5.lt
              have h6 := ownsRow_setCell_other (a := ⟨w.heap.size, 0, none⟩) (Joins.ownsRow_le (base' := w.heap.size) h5 (by omega)) (fun e => by have := (hlt _ e).1; simp at this; omega) (.slice u acc.length cap)
              exact ⟨.slice u acc.length cap, rfl, h6, Below.setCell (B := w.heap.size) (HB.out.trans ((HBL.out.mono (by omega)).trans (hb5.mono (by omega)))) (Nat.le_refl _) _⟩
            · have HRN : Hid (specR s.data.toList = none) := Lib.hid (by rw [HRF.out, if_neg hem, if_neg hf])
              have hq4 : ((bs (fmtG acc)).toList == s.toList) = false := by rw [Lib.toList_data, Lib.toList_data, bs_list2]; simpa using hf
              clear hem hf
              go_wp2_with (go_at_call 23; refine HFM.out.mono ?_; rintro e w5 ⟨rfl, hb5⟩; obtain ⟨cr5, fr5⟩ := one_cell (keepO hb5 (by omega) HRr.out); obtain ⟨cg5, fg5⟩ := one_cell (keepO hb5 (by omega) HGv.out))
              refine bodyPost_ret (v := .tuple #[.agg #[.slice none 0 0], .bool false]) (by rw [results_cell_tmp Tryz.results22]; simp [go_sem, cr5]) rfl ?_
              rw [HRN.out]
              exact ⟨.slice none 0 0, rfl, World.ownsRow_nil _ _ _ _, Below.setCell (B := w.heap.size) (HB.out.trans ((HBL.out.mono (by omega)).trans (hb5.mono (by omega)))) (Nat.le_refl _) _⟩
        · have hks : k ≤ s.size := by omega
          have hsp : specLoop [] [] s.data.toList = specLoop cur acc (s.data.toList.drop k) := by
            rcases HSP.out with ⟨_, h⟩ | ⟨h, _⟩
            · exact h
            · exact absurd h hend
          have HSP2 := Lib.hid hsp
          clear hsp HSP hend
          by_cases hlt : k < s.size
          · by_cases hx : s[k] = 120
            · have HN0 : Hid (accB cur = false → specLoop [] [] s.data.toList = none) := Lib.hid (fun h => by rw [HSP2.out, drop_at s k hlt, spec_x _ _ _ _ hx, if_neg (by simp [h])])
              have HN1 : Hid (accB cur = true → ((k + 1 ≤ s.size ∧ specLoop [] [] s.data.toList = specLoop [] (acc ++ [resV cur]) (s.data.toList.drop (k + 1))) ∨ (k + 1 = s.size + 1 ∧ specLoop [] [] s.data.toList = some (acc ++ [resV cur])))) := Lib.hid (fun h => .inl ⟨by omega, by rw [HSP2.out, drop_at s k hlt, spec_x _ _ _ _ hx, if_pos h]⟩)
              have hx2 : ((s[k].toNat : Int) != 120) = false := by rw [hx]; rfl
              clear hx
              have HPI := Lib.hid (sparse_any (bs cur) wr (by rw [bs_size]; unfold maxLen; omega))
              rw [show (bs cur).data.toList = cur from bs_list2 cur] at HPI
              cases hacc : accB cur with
              | false =>
                have HRN : Hid (specR s.data.toList = none) := Lib.hid (by rw [HR.out, HN0.out hacc]; rfl)
                rw [hacc] at HPI
                clear hacc
                generalize resV cur = z at *
                go_wp2_with (go_at_call 84; refine HPI.out.mono ?_; rintro e w4 ⟨rfl, hb4⟩; obtain ⟨cr, fr⟩ := one_cell (keepO hb4 H1.out.1 HRr.out))
                refine bodyPost_ret (v := .tuple #[.agg #[.slice none 0 0], .bool false]) (by rw [results_cell_tmp Tryz.results22]; simp [go_sem, cr]) rfl ?_
                rw [HRN.out]
                exact ⟨.slice none 0 0, rfl, World.ownsRow_nil _ _ _ _, Below.setCell (B := w.heap.size) (HB.out.trans ((HBL.out.mono (by omega)).trans (hb4.mono (by omega)))) (Nat.le_refl _) _⟩
              | true =>
                have HNN := Lib.hid (HN1.out hacc)
                rw [hacc] at HPI
                have HAPP : Hid ((acc ++ [resV cur]).map (Value.int .i64) = acc.map (Value.int .i64) ++ [.int .i64 (resV cur)]) := Lib.hid (by rw [List.map_append]; rfl)
                clear hacc
                generalize resV cur = z at *
                go_wp2_with (first
                  | (at_builtin; have ho4 := owns_below HOW.out hb4; refine wpList_append_own _ rfl _ _ 24 rfl (w.heap.size + 1 + 1) 3 i0 (.int .i64 0) 1 8 Tryz.underlying24 hi0 hz0 hz1 hz2 rfl (by decide) _ _ _ rfl (ho4.alloc _) ⟨w4.heap.size, 0, none⟩ 1 1 [.int .i64 z] rfl rfl ?c1 ?c2 ?c3 ?c4 ?c5 ?_)
                  | (go_at_call 84; refine HPI.out.mono ?_; rintro e w4 ⟨rfl, hb4⟩; obtain ⟨cg, fg⟩ := one_cell (keepO hb4 H1.out.2 HGv.out)))
                case c1 =>
                  intro q u2 hq
                  match q, hq with
                  | 0, hq => simp at hq; subst hq; simp [Addr.add]
                case c2 => intro u2 hu2; simp at hu2; subst hu2; rfl
                case c3 => unfold maxLen; omega
                case c4 => omega
                case c5 => have := hb4.size; simp; omega
                intro v' w6 hown' hgrow _
                obtain ⟨g', cap', rfl⟩ := Joins.ownsRow_form hown' (by omega)
                have hne : ∀ b, b < w.heap.size + 1 + 1 → some b ≠ v.ownBlock := fun b hb e => by have := (HOW.out.lt b e.symm).1; omega
                have hsz4 := hb4.size
                have tr : ∀ (b : Nat) (o : Obj), b < w.heap.size + 1 + 1 → wr.heap[b]? = some o → w6.heap[b]? = some o := fun b o hb h => (hgrow.block b (by simp; omega) (hne b hb)).trans (keepO (Joins.below_alloc1 w4 _) (by omega) (keepO hb4 (by omega) h))
                have G6 := Lib.hid (tr _ _ (by omega) HGv.out)
                obtain ⟨cg6, fg6⟩ := one_cell G6.out
                have HO6 : Hid (w6.ownsRow (w.heap.size + 1 + 1) 3 1 (.slice (some ⟨g', 0, none⟩) (acc.length + 1) cap') (acc ++ [z]).length ((acc ++ [z]).map (Value.int .i64))) := Lib.hid (by rw [HAPP.out, List.length_append]; exact hown')
                have hg' : w.heap.size + 1 + 1 ≤ g' := (hown'.lt _ rfl).1
                have HB6 : Hid (Below (w.heap.size + 1) W w6) := Lib.hid (((HBL.out.trans (hb4.mono (by omega))).alloc (by omega) _).grown hgrow (by simp; omega) (fun b hb => by have := (HOW.out.lt b hb).1; omega))
                have HS6 : Hid (w.heap.size + 1 + 1 ≤ w6.heap.size) := Lib.hid (by have := hgrow.size; simp at this; omega)
                clear hown' hgrow hne tr
                go_wp2
                go_roundw
                case rel => exact ⟨k + 1, [], acc ++ [z], _, by omega, by go_num, rfl, Lib.hid (by simp), Lib.hid (by simp; omega), HNN, Lib.hid (set_one G6.out), ownsRow_setCell_other (a := ⟨w.heap.size + 1, 0, none⟩) HO6.out (by simp [Value.ownBlock]; omega) _, Lib.hid (by simpa using HS6.out), Below.setCell HB6.out (Nat.le_refl _) _⟩
                case measure => simp [intOf]; omega
            · have HC : Hid (specLoop [] [] s.data.toList = specLoop (cur ++ [s[k]]) acc (s.data.toList.drop (k + 1))) := Lib.hid (by
                rw [HSP2.out, drop_at s k hlt, spec_o _ _ _ _ hx])
              have hx2 : ((s[k].toNat : Int) != 120) = true := by
                have : s[k].toNat ≠ 120 := fun e => hx (UInt8.toNat_inj.1 (by rw [e]; rfl))
                simp; omega
              have HE := Lib.hid (ext_one s k hlt)
              have hs1 : (bs cur).size ≤ 11 := by rw [bs_size]; omega
              have hs2 : (s.extract k (k + 1)).size ≤ 1 := by rw [HE.out]; exact Nat.le_refl _
              clear hx
              go_wp2
              go_roundw
              case rel => exact ⟨k + 1, cur ++ [s[k]], acc, v, by omega, by go_num, by rw [HE.out, bs_append], Lib.hid (by simp; omega), Lib.hid (by omega), Lib.hid (.inl ⟨by omega, HC.out⟩), HGv, HOW.out, HSz, HBL.out⟩
              case measure => simp [intOf]; omega
          · have hke : k = s.size := by omega
            have HN0 : Hid (accB cur = false → specLoop [] [] s.data.toList = none) := Lib.hid (fun h => by rw [HSP2.out, List.drop_eq_nil_of_le (by rw [HSZ.out]; omega), spec_end, if_neg (by simp [h])])
            have HN1 : Hid (accB cur = true → ((k + 1 ≤ s.size ∧ specLoop [] [] s.data.toList = specLoop [] (acc ++ [resV cur]) (s.data.toList.drop (k + 1))) ∨ (k + 1 = s.size + 1 ∧ specLoop [] [] s.data.toList = some (acc ++ [resV cur])))) := Lib.hid (fun h => .inr ⟨by omega, by rw [HSP2.out, List.drop_eq_nil_of_le (by rw [HSZ.out]; omega), spec_end, if_pos h]⟩)
            clear hke
            have HPI := Lib.hid (sparse_any (bs cur) wr (by rw [bs_size]; unfold maxLen; omega))
            rw [show (bs cur).data.toList = cur from bs_list2 cur] at HPI
            cases hacc : accB cur with
            | false =>
              have HRN : Hid (specR s.data.toList = none) := Lib.hid (by rw [HR.out, HN0.out hacc]; rfl)
              rw [hacc] at HPI
              clear hacc
              generalize resV cur = z at *
              go_wp2_with (go_at_call 84; refine HPI.out.mono ?_; rintro e w4 ⟨rfl, hb4⟩; obtain ⟨cr, fr⟩ := one_cell (keepO hb4 H1.out.1 HRr.out))
              refine bodyPost_ret (v := .tuple #[.agg #[.slice none 0 0], .bool false]) (by rw [results_cell_tmp Tryz.results22]; simp [go_sem, cr]) rfl ?_
              rw [HRN.out]
              exact ⟨.slice none 0 0, rfl, World.ownsRow_nil _ _ _ _, Below.setCell (B := w.heap.size) (HB.out.trans ((HBL.out.mono (by omega)).trans (hb4.mono (by omega)))) (Nat.le_refl _) _⟩
            | true =>
              have HNN := Lib.hid (HN1.out hacc)
              rw [hacc] at HPI
              have HAPP : Hid ((acc ++ [resV cur]).map (Value.int .i64) = acc.map (Value.int .i64) ++ [.int .i64 (resV cur)]) := Lib.hid (by rw [List.map_append]; rfl)
              clear hacc
              generalize resV cur = z at *
              go_wp2_with (first
                | (at_builtin; have ho4 := owns_below HOW.out hb4; refine wpList_append_own _ rfl _ _ 24 rfl (w.heap.size + 1 + 1) 3 i0 (.int .i64 0) 1 8 Tryz.underlying24 hi0 hz0 hz1 hz2 rfl (by decide) _ _ _ rfl (ho4.alloc _) ⟨w4.heap.size, 0, none⟩ 1 1 [.int .i64 z] rfl rfl ?c1 ?c2 ?c3 ?c4 ?c5 ?_)
                | (go_at_call 84; refine HPI.out.mono ?_; rintro e w4 ⟨rfl, hb4⟩; obtain ⟨cg, fg⟩ := one_cell (keepO hb4 H1.out.2 HGv.out)))
              case c1 =>
                intro q u2 hq
                match q, hq with
                | 0, hq => simp at hq; subst hq; simp [Addr.add]
              case c2 => intro u2 hu2; simp at hu2; subst hu2; rfl
              case c3 => unfold maxLen; omega
              case c4 => omega
              case c5 => have := hb4.size; simp; omega
              intro v' w6 hown' hgrow _
              obtain ⟨g', cap', rfl⟩ := Joins.ownsRow_form hown' (by omega)
              have hne : ∀ b, b < w.heap.size + 1 + 1 → some b ≠ v.ownBlock := fun b hb e => by have := (HOW.out.lt b e.symm).1; omega
              have hsz4 := hb4.size
              have tr : ∀ (b : Nat) (o : Obj), b < w.heap.size + 1 + 1 → wr.heap[b]? = some o → w6.heap[b]? = some o := fun b o hb h => (hgrow.block b (by simp; omega) (hne b hb)).trans (keepO (Joins.below_alloc1 w4 _) (by omega) (keepO hb4 (by omega) h))
              have G6 := Lib.hid (tr _ _ (by omega) HGv.out)
              obtain ⟨cg6, fg6⟩ := one_cell G6.out
              have HO6 : Hid (w6.ownsRow (w.heap.size + 1 + 1) 3 1 (.slice (some ⟨g', 0, none⟩) (acc.length + 1) cap') (acc ++ [z]).length ((acc ++ [z]).map (Value.int .i64))) := Lib.hid (by rw [HAPP.out, List.length_append]; exact hown')
              have hg' : w.heap.size + 1 + 1 ≤ g' := (hown'.lt _ rfl).1
              have HB6 : Hid (Below (w.heap.size + 1) W w6) := Lib.hid (((HBL.out.trans (hb4.mono (by omega))).alloc (by omega) _).grown hgrow (by simp; omega) (fun b hb => by have := (HOW.out.lt b hb).1; omega))
              have HS6 : Hid (w.heap.size + 1 + 1 ≤ w6.heap.size) := Lib.hid (by have := hgrow.size; simp at this; omega)
              clear hown' hgrow hne tr
              go_wp2
              go_roundw
              case rel => exact ⟨k + 1, [], acc ++ [z], _, by omega, by go_num, rfl, Lib.hid (by simp), Lib.hid (by simp; omega), HNN, Lib.hid (set_one G6.out), ownsRow_setCell_other (a := ⟨w.heap.size + 1, 0, none⟩) HO6.out (by simp [Value.ownBlock]; omega) _, Lib.hid (by simpa using HS6.out), Below.setCell HB6.out (Nat.le_refl _) _⟩
              case measure => simp [intOf]; omega
end Go.Proofs.YticgoodmfjjggaaGreatDoor
