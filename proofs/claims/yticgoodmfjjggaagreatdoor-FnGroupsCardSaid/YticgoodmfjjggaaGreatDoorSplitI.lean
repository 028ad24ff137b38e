/- The contract of the program's own splitNumbers: the numbers of a text between bytes, at most m of them, or none. -/
import Derived.Test.YticgoodmfjjggaaGreatDoorNUMA
import Derived.Test.YticgoodmfjjggaaGreatDoorShelf2
import Derived.Test.YticgoodmfjjggaaGreatDoorGrpSpec6
import Derived.Test.YticgoodmfjjggaaGreatDoorParseI
import Derived.Laws.ResultCell
import Derived.Deep.DeepCutAuto
namespace Go.Proofs.YticgoodmfjjggaaGreatDoor
open Go.RowKit
set_option maxRecDepth 1000000
theorem acc_pd {l : List UInt8} (h : pdB (digL l) = false) : accB l = false ∧ resV l = 0 := by
  have h1 : accB l = false := by rw [acc_iff, h]; rfl
  exact ⟨h1, by unfold resV; rw [if_neg (by simp [h1])]⟩
/-- What impl.ParseInt answers, at every text. -/
theorem iparse_any (s : ByteArray) (B : Nat) (w : World) (hB : B ≤ w.heap.size) (ht : TabOn B w) (hs : s.size ≤ maxLen) :
    Calls Tryz.prog 119 #[.string s] w fun e w' => e = .returned (.tuple #[.int .i64 (resV s.data.toList), .bool (accB s.data.toList)]) ∧ Below B w w' := by
  cases hb : pdB (digL s.data.toList) with
  | true => exact iparse_yes s B w hB ht hs hb
  | false =>
    obtain ⟨h1, h2⟩ := acc_pd hb
    rw [h1, h2]
    exact iparse_no s B w hB hs hb
theorem TabOn.up {B B' : Nat} {w : World} (h : TabOn B w) (hB : B ≤ B') : TabOn B' w := fun w' h' => h w' (h'.mono hB)
/-- The pieces of a text at the byte c, m + 1 at most. -/
def pcsC (c : UInt8) (m : Nat) (s : ByteArray) : List ByteArray := Lib.splitB ⟨#[c]⟩ 0 (min (m + 1) (s.size + 1) - 1) s
theorem pcsC_data (c : UInt8) (m : Nat) (s : ByteArray) : (pcsC c m s).map (·.data.toList) = Lib.splitK [c] 0 m s.data.toList := by
  unfold pcsC
  rw [Lib.splitB_data]
  show Lib.splitK [c] 0 (min (m + 1) (s.size + 1) - 1) s.data.toList = _
  by_cases h : m ≤ s.size
  · rw [show min (m + 1) (s.size + 1) - 1 = m by omega]
  · have hl := partsC_len c [] s.data.toList
    rw [show min (m + 1) (s.size + 1) - 1 = s.size by omega]
    have hsz : s.data.toList.length = s.size := by simp
    rw [hsz] at hl
    rw [(splitC_few c s.size _).1 hl, (splitC_few c m _).1 (by omega)]
theorem pcsC_len (c : UInt8) (m : Nat) (s : ByteArray) : (pcsC c m s).length ≤ min (m + 1) (s.size + 1) := by
  have := Lib.splitB_length_le ⟨#[c]⟩ 0 (min (m + 1) (s.size + 1) - 1) s
  unfold pcsC
  omega
theorem splitX (c : UInt8) (m : Nat) (hm : m ≤ 24) (s : ByteArray) (M : Int) (w : World) (hs : s.size ≤ 1048576) (hM : w.cell? ⟨0, 0, none⟩ = some (.int .i64 M)) :
    Calls Tryz.prog 118 #[.string s, .string ⟨#[c]⟩, .int .i64 ((m : Int) + 1)] w fun e w' => e = .returned (.slice (some ⟨w.heap.size, 0, none⟩) (pcsC c m s).length (min (m + 1) (s.size + 1))) ∧ w' = w.alloc (.cells (Lib.cellsOf (pcsC c m s) (min (m + 1) (s.size + 1))) 9) := by
  have h := Tryz.strings_SplitN s ⟨#[c]⟩ (m + 1) M w (by omega) hM (Nat.le_refl 1) (by omega) (by omega)
  rw [Int.natCast_add] at h
  exact h
theorem pcsC_cell (c : UInt8) (m : Nat) (s : ByteArray) (w : World) (b k : Nat) (h : w.heap[b]? = some (.cells (Lib.cellsOf (pcsC c m s) (min (m + 1) (s.size + 1))) 9 (0, 0))) (hk : k < (pcsC c m s).length) : w.cell? ⟨b, k, none⟩ = some (.string (pcsC c m s)[k]) := by
  have h1 := Joins.cell_of_block h k
  rw [h1]
  simp only [Lib.cellsOf, List.getElem?_toArray]
  rw [List.getElem?_append_left (by simpa using hk)]
  simp [hk]
theorem keepO {B k : Nat} {w w' : World} {o : Obj} (hb : Below B w w') (hk : k < B) (h : w.heap[k]? = some o) : w'.heap[k]? = some o := (hb.block k hk).trans h
theorem pcsC_size (c : UInt8) (m : Nat) (s : ByteArray) (hs : s.size ≤ 1048576) (k : Nat) (hk : k < (pcsC c m s).length) : (pcsC c m s)[k].size ≤ maxLen := by
  have hm : (pcsC c m s)[k].data.toList ∈ (pcsC c m s).map (·.data.toList) := List.mem_map_of_mem (List.getElem_mem hk)
  rw [pcsC_data] at hm
  have := split_smallC _ _ _ _ hm
  have e1 : (pcsC c m s)[k].data.toList.length = (pcsC c m s)[k].size := by simp
  have e2 : s.data.toList.length = s.size := by simp
  unfold maxLen
  omega
/-- What splitNumbers answers. -/
def SplitPost (r : Option (List Int)) (w : World) (e : Ending) (w' : World) : Prop :=
  ∃ u, e = .returned (.tuple #[u, .bool r.isSome]) ∧ w'.ownsRow w.heap.size 3 1 u (r.getD []).length ((r.getD []).map (Value.int .i64)) ∧ Below w.heap.size w w'
set_option maxHeartbeats 4000000 in
theorem iSplit (c : UInt8) (m : Nat) (hm1 : 1 ≤ m) (hm2 : m ≤ 24) (s : ByteArray) (M : Int) (w : World) (hs : s.size ≤ 1048576) (hv : w.cell? ⟨0, 0, none⟩ = some (.int .i64 M)) (ht : TabOn w.heap.size w) :
    Calls Tryz.prog 78 #[.string s, .string ⟨#[c]⟩, .int .i64 m] w (SplitPost (splR c m s.data.toList) w) := by
  obtain ⟨i0, hi0, hz0, hz1, hz2⟩ := info_parts intInfo
  have HT := Lib.hid ht
  clear ht
  obtain ⟨L, HL⟩ : ∃ L, Hid ((pcsC c m s).length = L) := ⟨_, Lib.hid rfl⟩
  have hL : L ≤ m + 1 := by rw [← HL.out]; have := pcsC_len c m s; omega
  obtain ⟨N, HN⟩ : ∃ N, Hid (min (m + 1) (s.size + 1) = N) := ⟨_, Lib.hid rfl⟩
  have HS := Lib.hid (splitX c m hm2 s M w hs hv)
  rw [HL.out, HN.out] at HS
  have HP := Lib.hid (heap_alloc_new w (.cells (Lib.cellsOf (pcsC c m s) N) 9))
  have FW := Lib.hid (Joins.below_alloc1 w (.cells (Lib.cellsOf (pcsC c m s) N) 9))
  have HPL : Hid ((Lib.splitK [c] 0 m s.data.toList).length = L) := Lib.hid (by rw [← pcsC_data, List.length_map, HL.out])
  have HPD := Lib.hid (pcsC_data c m s)
  obtain ⟨P, HPP⟩ : ∃ P, Hid (Lib.splitK [c] 0 m s.data.toList = P) := ⟨_, Lib.hid rfl⟩
  rw [HPP.out] at HPL HPD
  have HR : Hid (splR c m s.data.toList = if P.length ≤ m then (if allAcc P = true then some (P.map resV) else none) else none) := Lib.hid (by unfold splR; rw [HPP.out])
  have hmi : (m : Int) + 1 ≤ 25 := by omega
  by_cases hlong : L ≤ m
  · obtain ⟨VS, HVS⟩ : ∃ VS, Hid (P.map resV = VS) := ⟨_, Lib.hid rfl⟩
    have HVL : Hid (L = VS.length) := Lib.hid (by rw [← HVS.out, List.length_map, HPL.out])
    have HR1 : Hid (splR c m s.data.toList = if allAcc P = true then some VS else none) := Lib.hid (by rw [HR.out, HPL.out, if_pos hlong, HVS.out])
    have hln : ¬ (m : Int) < (L : Int) := by omega
    go_enter Tryz.func78, Tryz.ntmps78
    go_wp2_with (first
      | (at_make; refine wpList_make_full _ rfl _ _ 24 rfl (w.heap.size + 1) 3 i0 (.int .i64 0) 1 Tryz.underlying24 hi0 hz0 hz1 .i64 .i64 _ _ L rfl rfl ?c0 ?c00 ?c1 ?c2 ?c3 ?_)
      | (go_at_call 118; refine HS.out.mono ?_; rintro e w3 ⟨rfl, hw3⟩; subst hw3))
    case c0 => rfl
    case c00 => rfl
    case c1 => rw [hz2]; omega
    case c2 => unfold maxLen; omega
    case c3 => simp
    intro w2 hown hgrow
    have hrow : w2.ownsRow (w.heap.size + 1) 3 1 (.slice (some ⟨w.heap.size + 1, 0, none⟩) L L) L (rowI VS 0) := by rw [rowI_zero, ← HVL.out]; simpa using hown
    have hbel1 : Below (w.heap.size + 1) (w.alloc (.cells (Lib.cellsOf (pcsC c m s) N) 9)) w2 := (Below.refl _ _).grown hgrow (by simp) (fun q hq => by cases hq)
    clear hown hgrow
    go_wp2
    go_loopw [28] (fun i wr => ∃ k : Nat, k ≤ L ∧ i = .int .i64 k ∧ Hid (allAcc (P.take k) = true) ∧ wr.ownsRow (w.heap.size + 1) 3 1 (.slice (some ⟨w.heap.size + 1, 0, none⟩) L L) L (rowI VS k) ∧ Below (w.heap.size + 1) (w.alloc (.cells (Lib.cellsOf (pcsC c m s) N) 9)) wr) (fun i _ => L - (intOf i).toNat)
    case atStart => exact ⟨0, Nat.zero_le _, rfl, Lib.hid rfl, hrow, hbel1⟩
    case round =>
      obtain ⟨k, hk, rfl, HA, hr, hbel⟩ := hrel
      have HBL := Lib.hid hbel
      have HRW := Lib.hid hr
      by_cases hlt : k < L
      · have hkp : k < (pcsC c m s).length := by rw [HL.out]; exact hlt
        have HPr := keepO hbel (by omega) HP.out
        have rP := pcsC_cell c m s wr w.heap.size k (by rw [HN.out]; exact HPr) hkp
        have hszr : w.heap.size + 1 ≤ wr.heap.size := by have := hbel.size; simpa using this
        have HPI := Lib.hid (iparse_any (pcsC c m s)[k] wr.heap.size wr (Nat.le_refl _) ((HT.out.on (FW.out.trans (hbel.mono (by omega)))).up (by omega)) (pcsC_size c m s hs k hkp))
        have hkP : k < P.length := by rw [HPL.out]; exact hlt
        have HV : Hid (P.take (k + 1) = P.take k ++ [(pcsC c m s)[k].data.toList]) := Lib.hid (by
          rw [List.take_succ_eq_append_getElem hkP]
          congr 2
          simp only [← HPD.out, List.getElem_map])
        have HMEM : Hid ((pcsC c m s)[k].data.toList ∈ P) := Lib.hid (by rw [← HPD.out]; exact List.mem_map_of_mem (List.getElem_mem hkp))
        have HVK : Hid (VS.getD k 0 = resV (pcsC c m s)[k].data.toList) := Lib.hid (by
          rw [← HVS.out, ← HPD.out]
          simp [List.getD, hkp])
        have hkl : k < VS.length := by rw [← HVL.out]; exact hlt
        obtain ⟨x, HX⟩ : ∃ x, Hid ((pcsC c m s)[k] = x) := ⟨_, Lib.hid rfl⟩
        rw [HX.out] at rP HPI HV HMEM HVK
        clear HX HPr
        cases hacc : accB x.data.toList with
        | false =>
          have HRN : Hid (splR c m s.data.toList = none) := Lib.hid (by
            have hall : allAcc P = false := by
              unfold allAcc
              rw [List.all_eq_false]
              exact ⟨_, HMEM.out, by simp [hacc]⟩
            rw [HR1.out, hall]; rfl)
          rw [hacc] at HPI
          clear hacc hr hbel hkp hkP hkl
          generalize resV x.data.toList = z at *
          go_wp2_with (go_at_call 119; refine HPI.out.mono ?_; rintro e w4 ⟨rfl, hb4⟩)
          go_ret2
          rw [HRN.out]
          exact ⟨.slice none 0 0, rfl, World.ownsRow_nil _ _ _ _, FW.out.trans ((HBL.out.mono (by omega)).trans (hb4.mono (by omega)))⟩
        | true =>
          have HA2 : Hid (allAcc (P.take (k + 1)) = true) := Lib.hid (by
            rw [HV.out]; unfold allAcc; rw [List.all_append]
            have := HA.out; unfold allAcc at this
            rw [this]; simp [hacc])
          rw [hacc] at HPI
          have HFR : Hid (∀ W : World, Below wr.heap.size wr W → W.frozen? ⟨w.heap.size + 1, k, none⟩ = false ∧ W.cell? ⟨w.heap.size + 1, k, none⟩ = some (.int .i64 0) ∧ (W.setCell ⟨w.heap.size + 1, k, none⟩ (.int .i64 (resV x.data.toList))).ownsRow (w.heap.size + 1) 3 1 (.slice (some ⟨w.heap.size + 1, 0, none⟩) L L) L (rowI VS (k + 1))) := Lib.hid (fun W hbW => by
            have h4 := owns_below HRW.out hbW
            refine ⟨h4.frozenAt k, (h4.cellAt k (by omega)).trans (by rw [rowI_at _ _ _ hkl, if_neg (by omega)]), ?_⟩
            have h5 := (h4.stored k (.int .i64 (resV x.data.toList))).1
            rw [← HVK.out, rowI_set _ _ hkl] at h5
            rw [← HVK.out]; exact h5)
          clear hacc hr hbel hkp hkP hkl
          generalize resV x.data.toList = z at *
          go_wp2_with (go_at_call 119; refine HPI.out.mono ?_; rintro e w4 ⟨rfl, hb4⟩; obtain ⟨f4, c4, h4⟩ := HFR.out _ hb4; have HST := Lib.hid h4; clear h4)
          go_roundw
          case rel => exact ⟨k + 1, by omega, by go_num, HA2, HST.out, Below.setCell (HBL.out.trans (hb4.mono (by omega))) (Nat.le_refl _) _⟩
          case measure => simp [intOf]; omega
      · obtain rfl : k = L := by omega
        have hfull : P.take k = P := List.take_of_length_le (by rw [HPL.out]; exact Nat.le_refl _)
        rw [hfull] at HA
        have HRY : Hid (splR c m s.data.toList = some VS) := Lib.hid (by rw [HR1.out, if_pos HA.out])
        have HRF : Hid (wr.ownsRow (w.heap.size + 1) 3 1 (.slice (some ⟨w.heap.size + 1, 0, none⟩) k k) VS.length (VS.map (Value.int .i64))) := Lib.hid (by
          rw [← rowI_full, ← HVL.out]; exact hr)
        clear hr hbel hfull
        go_wp2
        go_ret2
        rw [HRY.out]
        exact ⟨_, rfl, Joins.ownsRow_le HRF.out (by omega), FW.out.trans (HBL.out.mono (by omega))⟩
  · have HRN : Hid (splR c m s.data.toList = none) := Lib.hid (by rw [HR.out, HPL.out, if_neg hlong])
    have hln : (m : Int) < (L : Int) := by omega
    go_enter Tryz.func78, Tryz.ntmps78
    go_wp2_with (go_at_call 118; refine HS.out.mono ?_; rintro e w3 ⟨rfl, hw3⟩; subst hw3)
    go_ret2
    rw [HRN.out]
    exact ⟨.slice none 0 0, rfl, World.ownsRow_nil _ _ _ _, FW.out⟩
end Go.Proofs.YticgoodmfjjggaaGreatDoor
