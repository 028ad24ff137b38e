/- The contract of impl.ParseGroup: it answers the orders of the text's group, or none. -/
import Derived.Test.YtnacckpagbcllaaDoorParGPure
import Derived.Test.YtnacckpagbcllaaDoorGrpSpec6
import Derived.Test.YtnacckpagbcllaaDoorParseI
import Derived.Laws.ResultCell
import Derived.Deep.DeepCutAuto
namespace Go.Proofs.YtnacckpagbcllaaDoor
open Go.RowKit
theorem acc_pd {l : List UInt8} (h : pdB (digL l) = false) : accB l = false ∧ resV l = 0 := by
  have h1 : accB l = false := by rw [acc_iff, h]; rfl
  exact ⟨h1, by unfold resV; rw [if_neg (by simp [h1])]⟩
/-- What impl.ParseInt answers, at every text. -/
theorem iparse_any (s : ByteArray) (B : Nat) (w : World) (hB : B ≤ w.heap.size) (ht : TabOn B w) (hs : s.size ≤ maxLen) :
    Calls Tryd.prog 24 #[.string s] w fun e w' => e = .returned (.tuple #[.int .i64 (resV s.data.toList), .bool (accB s.data.toList)]) ∧ Below B w w' := by
  cases hb : pdB (digL s.data.toList) with
  | true => exact iparse_yes s B w hB ht hs hb
  | false =>
    obtain ⟨h1, h2⟩ := acc_pd hb
    rw [h1, h2]
    exact iparse_no s B w hB hs hb
/-- A group as a result: its orders lie in a row of the call's own. -/
def GroupOut (B : Nat) (w' : World) (v : Value) (l : List Int) : Prop := ∃ u, v = .agg #[u] ∧ w'.ownsRow B 3 1 u l.length (l.map (Value.int .i64))
/-- What ParseGroup answers. -/
def ParsePost (r : Option (List Int)) (w : World) (e : Ending) (w' : World) : Prop :=
  ∃ u, e = .returned (.tuple #[.agg #[u], .bool r.isSome]) ∧ w'.ownsRow w.heap.size 3 1 u (r.getD []).length ((r.getD []).map (Value.int .i64)) ∧ Below w.heap.size w w'
theorem own_slice' {w : World} {B n : Nat} {v : Value} {l : List Int} (hn : n = l.length) (h : w.ownsRow B 3 1 v n (l.map (Value.int .i64))) : ∃ a cap, v = .slice a n cap := by
  subst hn
  obtain ⟨h1, h2⟩ := h
  rcases h2 with ⟨h2, h3⟩ | ⟨g, cap, cur, hv, _⟩
  · have : l = [] := by simpa using h3
    subst this
    exact ⟨none, 0, h2⟩
  · exact ⟨_, cap, hv⟩
theorem own_ints' {w : World} {B n cap : Nat} {a : Option Addr} {l : List Int} (hn : n = l.length) (h : w.ownsRow B 3 1 (.slice a n cap) n (l.map (Value.int .i64))) : Ints w a l := by
  subst hn
  obtain ⟨h1, h2⟩ := h
  rcases h2 with ⟨h2, h3⟩ | ⟨g, cap, cur, hv, hb, hg, h4, h5, h6, h7⟩
  · exact .inl (by simpa using h3)
  · cases hv
    exact ints_own ⟨h1, .inr ⟨g, cap, cur, rfl, hb, hg, h4, h5, h6, h7⟩⟩
theorem TabOn.up {B B' : Nat} {w : World} (h : TabOn B w) (hB : B ≤ B') : TabOn B' w := fun w' h' => h w' (h'.mono hB)
theorem parts_len (cur s : List UInt8) : (partsF cur s).length ≤ s.length + 1 := by
  induction s generalizing cur with
  | nil => simp [partsF]
  | cons c r ih =>
    unfold partsF
    split
    · have := ih []; simp; omega
    · have := ih (cur ++ [c]); simp; omega
/-- The pieces of a text at the letter x, four at most. -/
def pcs (s : ByteArray) : List ByteArray := Lib.splitB ⟨#[120]⟩ 0 (min 4 (s.size + 1) - 1) s
theorem pcs_data (s : ByteArray) : (pcs s).map (·.data.toList) = Lib.splitK [120] 0 3 s.data.toList := by
  unfold pcs
  rw [Lib.splitB_data]
  show Lib.splitK [120] 0 (min 4 (s.size + 1) - 1) s.data.toList = _
  by_cases h : 3 ≤ s.size
  · rw [show min 4 (s.size + 1) - 1 = 3 by omega]
  · have hl := parts_len [] s.data.toList
    rw [show min 4 (s.size + 1) - 1 = s.size by omega]
    have hsz : s.data.toList.length = s.size := by simp
    rw [hsz] at hl
    rw [(split_few s.size _).1 hl, (split_few 3 _).1 (by omega)]
theorem pcs_len (s : ByteArray) : (pcs s).length ≤ min 4 (s.size + 1) := by
  have := Lib.splitB_length_le ⟨#[120]⟩ 0 (min 4 (s.size + 1) - 1) s
  unfold pcs
  omega
theorem splitX (s : ByteArray) (m : Int) (w : World) (hs : s.size ≤ 1048576) (hm : w.cell? ⟨0, 0, none⟩ = some (.int .i64 m)) :
    Calls Tryd.prog 23 #[.string s, .string ⟨#[120]⟩, .int .i64 4] w fun e w' => e = .returned (.slice (some ⟨w.heap.size, 0, none⟩) (pcs s).length (min 4 (s.size + 1))) ∧ w' = w.alloc (.cells (Lib.cellsOf (pcs s) (min 4 (s.size + 1))) 9) :=
  Tryd.strings_SplitN s ⟨#[120]⟩ 4 m w (by omega) hm (Nat.le_refl 1) (by omega) (by omega)
theorem pcs_cell (s : ByteArray) (w : World) (b k : Nat) (h : w.heap[b]? = some (.cells (Lib.cellsOf (pcs s) (min 4 (s.size + 1))) 9 (0, 0))) (hk : k < (pcs s).length) : w.cell? ⟨b, k, none⟩ = some (.string (pcs s)[k]) := by
  have h1 := Joins.cell_of_block h k
  rw [h1]
  simp only [Lib.cellsOf, List.getElem?_toArray]
  rw [List.getElem?_append_left (by simpa using hk)]
  simp [hk]
theorem keepO {B k : Nat} {w w' : World} {o : Obj} (hb : Below B w w') (hk : k < B) (h : w.heap[k]? = some o) : w'.heap[k]? = some o := (hb.block k hk).trans h
theorem one_cell {w : World} {b : Nat} {v : Value} {T : TypeId} (h : w.heap[b]? = some (.cells #[v] T (0, 0))) : w.cell? ⟨b, 0, none⟩ = some v ∧ w.frozen? ⟨b, 0, none⟩ = false :=
  ⟨by simp [World.cell?, h], by simp [World.frozen?, h]⟩
theorem set_one {w : World} {b : Nat} {v u : Value} {T : TypeId} (h : w.heap[b]? = some (.cells #[v] T (0, 0))) : (w.setCell ⟨b, 0, none⟩ u).heap[b]? = some (.cells #[u] T (0, 0)) := by
  rw [heap_setCell_same w b 0 _ _ u h]; rfl
theorem split_small (k : Nat) (s x : List UInt8) (h : x ∈ Lib.splitK [120] 0 k s) : x.length ≤ s.length := by
  induction k generalizing s with
  | zero => simp [Lib.splitK] at h; rw [h]; exact Nat.le_refl _
  | succ k ih =>
    unfold Lib.splitK at h
    split at h
    · simp at h; rw [h]; exact Nat.le_refl _
    · rcases List.mem_cons.1 h with rfl | h
      · simp; omega
      · have := ih _ h
        rw [List.length_drop] at this
        omega
theorem pcs_size (s : ByteArray) (hs : s.size ≤ 1048576) (k : Nat) (hk : k < (pcs s).length) : (pcs s)[k].size ≤ maxLen := by
  have hm : (pcs s)[k].data.toList ∈ (pcs s).map (·.data.toList) := List.mem_map_of_mem (List.getElem_mem hk)
  rw [pcs_data] at hm
  have := split_small _ _ _ hm
  have e1 : (pcs s)[k].data.toList.length = (pcs s)[k].size := by simp
  have e2 : s.data.toList.length = s.size := by simp
  unfold maxLen
  omega
/-- What the k-th piece reads as. -/
def pieceV (s : ByteArray) (k : Nat) : Int := (((pcs s).map (·.data.toList)).map resV).getD k 0
set_option maxHeartbeats 1000000 in
theorem iParG (s : ByteArray) (m : Int) (w : World) (hs : s.size ≤ 1048576) (hv : w.cell? ⟨0, 0, none⟩ = some (.int .i64 m)) (ht : TabOn w.heap.size w) :
    Calls Tryd.prog 11 #[.string s] w (ParsePost (implR s.data.toList) w) := by
  obtain ⟨i0, hi0, hz0, hz1, hz2⟩ := info_parts intInfo
  have HT := Lib.hid ht
  clear ht
  by_cases h49 : s.data.toList = [49]
  · have HR : Hid (implR s.data.toList = some []) := Lib.hid (by unfold implR; rw [if_pos h49])
    have hq : (s.toList == [49]) = true := by rw [Lib.toList_data, h49]; rfl
    clear h49
    go_enter Tryd.func11, Tryd.ntmps11
    go_wp2
    refine bodyPost_ret (v := .tuple #[.agg #[.slice none 0 0], .bool true]) (by rw [results_cell_tmp Tryd.results11]; simp [go_sem]) rfl ?_
    rw [HR.out]
    exact ⟨.slice none 0 0, rfl, World.ownsRow_nil _ _ _ _, Joins.below_alloc1 _ _⟩
  · have hq : (s.toList == [49]) = false := by rw [Lib.toList_data]; simpa using h49
    have HQ := Lib.hid (pcs_data s)
    have HR : Hid (implR s.data.toList = if allAcc ((pcs s).map (·.data.toList)) = true then (if grpB (((pcs s).map (·.data.toList)).map resV) = true then some (((pcs s).map (·.data.toList)).map resV) else none) else none) := Lib.hid (by rw [HQ.out]; unfold implR; rw [if_neg h49])
    clear h49
    have M2 := keepD (Joins.below_alloc2 w (.cells #[.slice none 0 0] 27) (.cells #[.slice none 0 0] 27)) hv
    have HB := Lib.hid (Joins.below_alloc2 w (.cells #[.slice none 0 0] 27) (.cells #[.slice none 0 0] 27))
    obtain ⟨W, hW⟩ : ∃ W, W = ((w.alloc (.cells #[.slice none 0 0] 27)).alloc (.cells #[.slice none 0 0] 27)) := ⟨_, rfl⟩
    have hWs : W.heap.size = w.heap.size + 1 + 1 := by rw [hW]; simp
    have R0 : Hid (W.heap[w.heap.size]? = some (.cells #[.slice none 0 0] 27 (0, 0))) := Lib.hid (by rw [hW]; exact keepO (Joins.below_alloc1 _ _) (by simp) (heap_alloc_new w _))
    have G0 : Hid (W.heap[w.heap.size + 1]? = some (.cells #[.slice none 0 0] 27 (0, 0))) := Lib.hid (by rw [hW]; simpa using heap_alloc_new (w.alloc (.cells #[.slice none 0 0] 27)) (.cells #[.slice none 0 0] 27))
    rw [← hW] at M2 HB
    obtain ⟨L, HL⟩ : ∃ L, Hid (L = (pcs s).length) := ⟨_, Lib.hid rfl⟩
    have hL4 : L ≤ 4 := by rw [HL.out]; have := pcs_len s; omega
    obtain ⟨N, HN⟩ : ∃ N, Hid (N = min 4 (s.size + 1)) := ⟨_, Lib.hid rfl⟩
    have HP := Lib.hid (heap_alloc_new W (.cells (Lib.cellsOf (pcs s) N) 9))
    rw [hWs] at HP
    have HS := Lib.hid (splitX s m W hs M2)
    rw [hWs, ← HL.out, ← HN.out] at HS
    have FW := Lib.hid (Joins.below_alloc1 W (.cells (Lib.cellsOf (pcs s) N) 9))
    have HW := Lib.hid hW
    have HWS := Lib.hid hWs
    obtain ⟨c1, f1⟩ := one_cell (keepO FW.out (by rw [HWS.out]; omega) R0.out)
    obtain ⟨c2, f2⟩ := one_cell (keepO FW.out (by rw [HWS.out]; omega) G0.out)
    clear hWs hW
    go_enter Tryd.func11, Tryd.ntmps11
    go_upto_region 4 with (fail)
    rw [← HW.out]
    go_wp2_with (go_at_call 23; refine HS.out.mono ?_; rintro e w3 ⟨rfl, hw3⟩)
    subst hw3
    go_loopw [15] (fun i wr => ∃ (k : Nat) (v : Value), k ≤ L ∧ i = .int .i64 k ∧ Hid (allAcc (((pcs s).map (·.data.toList)).take k) = true) ∧ Hid (wr.heap[w.heap.size + 1]? = some (.cells #[v] 27 (0, 0))) ∧ wr.ownsRow (w.heap.size + 1 + 1 + 1) 3 1 v k (((((pcs s).map (·.data.toList)).take k).map resV).map (Value.int .i64)) ∧ Hid (wr.heap[w.heap.size + 1 + 1]? = some (.cells (Lib.cellsOf (pcs s) N) 9 (0, 0))) ∧ Hid (w.heap.size + 1 + 1 + 1 ≤ wr.heap.size) ∧ Below (w.heap.size + 1) W wr) (fun i _ => L - (intOf i).toNat)
    case atStart => exact ⟨0, .slice none 0 0, Nat.zero_le _, rfl, Lib.hid rfl, Lib.hid (keepO FW.out (by rw [HWS.out]; omega) G0.out), World.ownsRow_nil _ _ _ _, HP, Lib.hid (by simp; have := HWS.out; omega), FW.out.mono (by rw [HWS.out]; omega)⟩
    case round =>
      obtain ⟨k, v, hk, rfl, HA, HGv, hown, HPr, HSz, hbel⟩ := hrel
      have hszr := HSz.out
      by_cases hlt : k < L
      · have hkp : k < (pcs s).length := by rw [← HL.out]; exact hlt
        have rP := pcs_cell s wr (w.heap.size + 1 + 1) k (by rw [← HN.out]; exact HPr.out) hkp
        have HPI := Lib.hid (iparse_any (pcs s)[k] wr.heap.size wr (Nat.le_refl _) ((HT.out.on (HB.out.trans (hbel.mono (by omega)))).up (by omega)) (pcs_size s hs k hkp))
        have HV : Hid (((pcs s).map (·.data.toList)).take (k + 1) = ((pcs s).map (·.data.toList)).take k ++ [(pcs s)[k].data.toList]) := Lib.hid (by
          rw [List.take_succ_eq_append_getElem (by simpa using hkp)]; simp)
        obtain ⟨x, HX⟩ : ∃ x, Hid ((pcs s)[k] = x) := ⟨_, Lib.hid rfl⟩
        rw [HX.out] at rP HPI HV
        have HMEM : Hid (x.data.toList ∈ (pcs s).map (·.data.toList)) := Lib.hid (by rw [← HX.out]; exact List.mem_map_of_mem (List.getElem_mem hkp))
        clear HX
        have HRr := Lib.hid (keepO hbel (by omega) R0.out)
        have HOW := Lib.hid hown
        have HBL := Lib.hid hbel
        have H1 : Hid (w.heap.size < wr.heap.size ∧ w.heap.size + 1 < wr.heap.size ∧ w.heap.size + 1 + 1 < wr.heap.size) := Lib.hid ⟨by omega, by omega, by omega⟩
        cases hacc : accB x.data.toList with
        | false =>
          have HRN : Hid (implR s.data.toList = none) := Lib.hid (by
            have hall : allAcc ((pcs s).map (·.data.toList)) = false := by
              unfold allAcc
              rw [List.all_eq_false]
              exact ⟨_, HMEM.out, by simp [hacc]⟩
            rw [HR.out, hall]; rfl)
          rw [hacc] at HPI
          clear hacc hown hbel hkp
          generalize resV x.data.toList = z at *
          go_wp2_with (go_at_call 24; refine HPI.out.mono ?_; rintro e w4 ⟨rfl, hb4⟩; obtain ⟨cr, fr⟩ := one_cell (keepO hb4 H1.out.1 HRr.out))
          refine bodyPost_ret (v := .tuple #[.agg #[.slice none 0 0], .bool false]) (by rw [results_cell_tmp Tryd.results11]; simp [go_sem, cr]) rfl ?_
          rw [HRN.out]
          exact ⟨.slice none 0 0, rfl, World.ownsRow_nil _ _ _ _, Below.setCell (B := w.heap.size) (HB.out.trans ((HBL.out.mono (by omega)).trans (hb4.mono (by have := H1.out.1; omega)))) (Nat.le_refl _) _⟩
        | true =>
          have HA2 : Hid (allAcc (((pcs s).map (·.data.toList)).take (k + 1)) = true) := Lib.hid (by
            rw [HV.out]; unfold allAcc; rw [List.all_append]
            have := HA.out; unfold allAcc at this
            rw [this]; simp [hacc])
          rw [hacc] at HPI
          have HVV : Hid ((((pcs s).map (·.data.toList)).take (k + 1)).map resV = (((pcs s).map (·.data.toList)).take k).map resV ++ [resV x.data.toList]) := Lib.hid (by rw [HV.out, List.map_append]; rfl)
          clear hacc hown hbel hkp
          generalize resV x.data.toList = z at *
          go_wp2_with (first
            | (at_builtin; have ho4 := owns_below HOW.out hb4; refine wpList_append_own _ rfl _ _ 22 rfl (w.heap.size + 1 + 1 + 1) 3 i0 (.int .i64 0) 1 8 Tryd.underlying22 hi0 hz0 hz1 hz2 rfl (by decide) _ _ _ rfl (ho4.alloc _) ⟨w4.heap.size, 0, none⟩ 1 1 [.int .i64 z] rfl rfl ?c1 ?c2 ?c3 ?c4 ?c5 ?_)
            | (go_at_call 24; refine HPI.out.mono ?_; rintro e w4 ⟨rfl, hb4⟩; obtain ⟨cg, fg⟩ := one_cell (keepO hb4 H1.out.2.1 HGv.out)))
          case c1 =>
            intro q u2 hq
            match q, hq with
            | 0, hq => simp at hq; subst hq; simp [Addr.add]
          case c2 => intro u2 hu2; simp at hu2; subst hu2; rfl
          case c3 => unfold maxLen; omega
          case c4 => omega
          case c5 => have := hb4.size; simp; omega
          intro v' w6 hown' hgrow _
          obtain ⟨g', cap', rfl⟩ := Joins.ownsRow_form hown' (by omega)
          have hne : ∀ b, b < w.heap.size + 1 + 1 + 1 → some b ≠ v.ownBlock := fun b hb e => by have := (HOW.out.lt b e.symm).1; omega
          have hsz4 := hb4.size
          have tr : ∀ (b : Nat) (o : Obj), b < w.heap.size + 1 + 1 + 1 → wr.heap[b]? = some o → w6.heap[b]? = some o := fun b o hb h => (hgrow.block b (by simp; omega) (hne b hb)).trans (keepO (Joins.below_alloc1 w4 _) (by omega) (keepO hb4 (by omega) h))
          have G6 := Lib.hid (tr _ _ (by omega) HGv.out)
          have P6 := Lib.hid (tr _ _ (by omega) HPr.out)
          obtain ⟨cg6, fg6⟩ := one_cell G6.out
          have HO6 : Hid (w6.ownsRow (w.heap.size + 1 + 1 + 1) 3 1 (.slice (some ⟨g', 0, none⟩) (k + 1) cap') (k + 1) (((((pcs s).map (·.data.toList)).take (k + 1)).map resV).map (Value.int .i64))) := Lib.hid (by rw [HVV.out, List.map_append]; simpa using hown')
          have hg' : w.heap.size + 1 + 1 + 1 ≤ g' := (hown'.lt _ rfl).1
          have HB6 : Hid (Below (w.heap.size + 1) W w6) := Lib.hid (((HBL.out.trans (hb4.mono (by omega))).alloc (by omega) _).grown hgrow (by simp; omega) (fun b hb => by have := (HOW.out.lt b hb).1; omega))
          have HS6 : Hid (w.heap.size + 1 + 1 + 1 ≤ w6.heap.size) := Lib.hid (by have := hgrow.size; simp at this; omega)
          clear hown' hgrow hne tr
          go_wp2
          go_roundw
          case rel => exact ⟨k + 1, _, by omega, by go_num, HA2, Lib.hid (set_one G6.out), ownsRow_setCell_other (a := ⟨w.heap.size + 1, 0, none⟩) HO6.out (by simp [Value.ownBlock]; omega) _, Lib.hid ((Below.heap_setCell _ ⟨w.heap.size + 1, 0, none⟩ _ _ (by simp)).trans P6.out), Lib.hid (by simpa using HS6.out), Below.setCell HB6.out (Nat.le_refl _) _⟩
          case measure => simp [intOf]; omega
      · obtain rfl : k = L := by omega
        have hfull : ((pcs s).map (·.data.toList)).take k = (pcs s).map (·.data.toList) := List.take_of_length_le (by rw [List.length_map, HL.out]; exact Nat.le_refl _)
        rw [hfull] at HA hown
        obtain ⟨vals, HVS⟩ : ∃ vals, Hid (((pcs s).map (·.data.toList)).map resV = vals) := ⟨_, Lib.hid rfl⟩
        have HR2 : Hid (implR s.data.toList = if grpB vals = true then some vals else none) := Lib.hid (by rw [HR.out, if_pos HA.out, HVS.out])
        have HVL : Hid (k = vals.length) := Lib.hid (by rw [← HVS.out, List.length_map, List.length_map]; exact HL.out)
        rw [HVS.out] at hown
        obtain ⟨u, cap, rfl⟩ := own_slice' HVL.out hown
        have HIV := Lib.hid (own_ints' HVL.out hown)
        have HOW := Lib.hid hown
        have HBL := Lib.hid hbel
        obtain ⟨cg, fg⟩ := one_cell HGv.out
        have HRr := Lib.hid (keepO hbel (by omega) R0.out)
        obtain ⟨cr, fr⟩ := one_cell HRr.out
        clear hown hbel hfull
        cases hg : grpB vals with
        | true =>
          have HG := Lib.hid hg
          have HRY : Hid (implR s.data.toList = some vals) := Lib.hid (by rw [HR2.out, if_pos hg])
          clear hg
          go_wp2_with (go_at_call 18; refine (isG _ _ vals _ _ HVL.out (by omega) HIV.out).mono ?_; rw [HG.out]; rintro e w5 ⟨rfl, hb5⟩; obtain ⟨cr5, fr5⟩ := one_cell (keepO hb5 (by omega) HRr.out); obtain ⟨cg5, fg5⟩ := one_cell (keepO hb5 (by omega) HGv.out))
          refine bodyPost_ret (v := .tuple #[.agg #[.slice u k cap], .bool true]) (by rw [results_cell_tmp Tryd.results11]; simp [go_sem, cr5]) rfl ?_
          rw [HRY.out]
          have h5 := owns_below HOW.out hb5
          have hlt := h5.lt
          refine ⟨.slice u k cap, rfl, ?_, Below.setCell (B := w.heap.size) (HB.out.trans ((HBL.out.mono (by omega)).trans (hb5.mono (by omega)))) (Nat.le_refl _) _⟩
          have h6 := ownsRow_setCell_other (a := ⟨w.heap.size, 0, none⟩) (Joins.ownsRow_le (base' := w.heap.size) h5 (by omega)) (fun e => by have := (hlt _ e).1; simp at this; omega) (.slice u k cap)
          simp only [Option.getD_some]
          rw [← HVL.out]
          exact h6
        | false =>
          have HG := Lib.hid hg
          have HRN : Hid (implR s.data.toList = none) := Lib.hid (by rw [HR2.out, if_neg (by simp [hg])])
          clear hg
          go_wp2_with (go_at_call 18; refine (isG _ _ vals _ _ HVL.out (by omega) HIV.out).mono ?_; rw [HG.out]; rintro e w5 ⟨rfl, hb5⟩; obtain ⟨cr5, fr5⟩ := one_cell (keepO hb5 (by omega) HRr.out))
          refine bodyPost_ret (v := .tuple #[.agg #[.slice none 0 0], .bool false]) (by rw [results_cell_tmp Tryd.results11]; simp [go_sem, cr5]) rfl ?_
          rw [HRN.out]
          exact ⟨.slice none 0 0, rfl, World.ownsRow_nil _ _ _ _, Below.setCell (B := w.heap.size) (HB.out.trans ((HBL.out.mono (by omega)).trans (hb5.mono (by omega)))) (Nat.le_refl _) _⟩
end Go.Proofs.YtnacckpagbcllaaDoor
