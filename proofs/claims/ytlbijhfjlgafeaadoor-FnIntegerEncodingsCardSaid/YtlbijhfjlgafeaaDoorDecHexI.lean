/- The contract of impl.DecodeHex: the decoded bytes and true, or the empty string and false. -/
import Derived.Test.YtlbijhfjlgafeaaDoorDecHex
import Derived.Laws.RangeString
import Derived.Laws.RangeAny
namespace Go.Proofs.YtlbijhfjlgafeaaDoor
open Go.RowKit
set_option maxHeartbeats 1000000 in
set_option maxRecDepth 1000000 in
theorem idech_odd (s : ByteArray) (w : World) (hs : s.size ≤ 1048576) (ho : s.size % 2 = 1) :
    Calls Tryd.prog 16 #[.string s] w (PostHex s.data.toList w.heap.size w) := by
  have hn : ¬ IsHex s.data.toList := fun h => by have := h.1; rw [len_size] at this; omega
  have HN := Lib.hid hn
  have h1 : ((s.size : Int) % 2 != 0) = true := by simp; omega
  clear hn ho
  go_enter Tryd.func16, Tryd.ntmps16
  go_wp2
  go_ret2
  exact ⟨Below.refl _ _, Or.inr ⟨HN.out, rfl⟩⟩
theorem hv_some (c v : Nat) (h : hexV c = some v) (w : World) :
    Calls Tryd.prog 27 #[.int .i32 (c : Int)] w fun e w' => e = .returned (.tuple #[.int .u8 (v : Int), .bool true]) ∧ w = w' := by
  obtain ⟨_, h | h⟩ := hexV_some h
  · refine (hv_dig c w (by omega) (by omega)).mono fun e w' ⟨he, hw⟩ => ⟨?_, hw⟩
    rw [he, show (c : Int) - 48 = v by omega]
  · refine (hv_let c w (by omega) (by omega)).mono fun e w' ⟨he, hw⟩ => ⟨?_, hw⟩
    rw [he, show (c : Int) - 97 + 10 = v by omega]
theorem hv_none (c : Nat) (h : hexV c = none) (w : World) :
    Calls Tryd.prog 27 #[.int .i32 (c : Int)] w fun e w' => e = .returned (.tuple #[.int .u8 0, .bool false]) ∧ w = w' :=
  hv_no c w (by have := hexV_none h; omega)
theorem or_nib (x v : Nat) (hx : x < 16) (hv : v < 16) : bits .or .u8 ((x : Int) * 16) (v : Int) = ((16 * x + v : Nat) : Int) := by
  rw [bits_join .u8 8 (by decide) wraps_u8 4 _ _ (by omega) (by omega) (by omega) (by omega) (by omega) (by omega)]; omega
theorem iter_store (w : World) (s : ByteArray) (p g j : Nat) (v : Value) (h : g < w.heap.size) : (w.iter s p).setCell ⟨g, j, none⟩ v = (w.setCell ⟨g, j, none⟩ v).iter s p := World.setCell_alloc_past _ _ _ _ h
theorem iter_cell (w : World) (s : ByteArray) (p g j : Nat) (h : g < w.heap.size) : (w.iter s p).cell? ⟨g, j, none⟩ = w.cell? ⟨g, j, none⟩ := World.cell?_alloc_past _ _ _ h
theorem iter_frozen (w : World) (s : ByteArray) (p g j : Nat) (h : g < w.heap.size) : (w.iter s p).frozen? ⟨g, j, none⟩ = w.frozen? ⟨g, j, none⟩ := World.frozen?_alloc_past _ _ _ h
theorem iter_pos (w : World) (s : ByteArray) (p n : Nat) (h : w.heap.size = n) : (w.iter s p).iterPos n = p := by subst h; simp
set_option maxHeartbeats 1000000 in
set_option maxRecDepth 1000000 in
theorem idech_even (s : ByteArray) (w : World) (hs : s.size ≤ 1048576) (ho : s.size % 2 = 0) :
    Calls Tryd.prog 16 #[.string s] w (PostHex s.data.toList w.heap.size w) := by
  obtain ⟨i0, hi, hz0, hz1, hz2⟩ := info_parts byteInfo
  have h1 : ((s.size : Int) % 2 != 0) = false := by simp; omega
  have HO := Lib.hid ho
  clear ho
  obtain ⟨m, HM⟩ : ∃ m : Nat, Hid (m = s.size / 2) := ⟨_, Lib.hid rfl⟩
  go_enter Tryd.func16, Tryd.ntmps16
  go_wp2_with (at_make; refine wpList_make_full _ rfl _ _ 22 rfl w.heap.size 5 i0 (.int .u8 0) 1 Tryd.underlying22 hi hz0 hz1 .i64 .i64 _ _ m rfl rfl ?c0 ?c00 ?c1 ?c2 ?c3 ?_)
  case c0 => rw [HM.out]; omega
  case c00 => rw [HM.out]; omega
  case c1 => rw [hz2, HM.out]; omega
  case c2 => unfold maxLen; rw [HM.out]; omega
  case c3 => omega
  intro w1 hown hgrow
  have hrow : w1.ownsRow w.heap.size 5 1 (.slice (some ⟨w.heap.size, 0, none⟩) m m) m (rowH s.data.toList m 0) := by rw [rowH_zero]; simpa using hown
  have hbel1 : Below w.heap.size w w1 := (Below.refl _ w).grown hgrow (Nat.le_refl _) (fun q hq => by cases hq)
  have hsz1 : w.heap.size < w1.heap.size := (hown.lt _ rfl).2
  clear hown hgrow
  go_wp2
  go_loopw [5] (fun _ wr => ∃ (k : Nat) (wq : World), wr = wq.iter s k ∧ k ≤ s.size ∧ Hid (wq.heap.size = w1.heap.size) ∧ wq.ownsRow w.heap.size 5 1 (.slice (some ⟨w.heap.size, 0, none⟩) m m) m (rowH s.data.toList m k) ∧ Below w.heap.size w wq ∧ Hid (∀ q, q < k → hexV (s.data.toList.getD q 0).toNat ≠ none)) (fun _ wr => s.size - wr.iterPos w1.heap.size)
  case atStart => exact ⟨0, w1, rfl, Nat.zero_le _, Lib.hid rfl, hrow, hbel1, Lib.hid (fun q h => by omega)⟩
  case round =>
    obtain ⟨k, wq, rfl, hk, HQ, hr, hbel, HH⟩ := hrel
    have hsq : w.heap.size < wq.heap.size := by have := HQ.out; omega
    by_cases hp : k < s.size
    · by_cases ha : s[k].toNat < 128
      · have hnx : ∀ ty, (Instr.next (.pointer (some ⟨w1.heap.size, 0, none⟩)) true ty).run Tryd.prog (wq.iter s k) = .ok (.tuple #[.bool true, .int .i64 k, .int .i32 (s[k].toNat : Int)]) (wq.iter s (k + 1)) := fun ty => by
          have := run_next_ascii (P := Tryd.prog) wq s k ty hp ha
          rw [HQ.out] at this
          exact this
        cases hv : hexV s[k].toNat with
        | none =>
          have F1 := Lib.hid (hv_none s[k].toNat hv)
          have HN := Lib.hid (not_hex_at s k hp hv)
          clear hv
          go_wp2_with (go_at_call 27; ((with_reducible refine (F1.out _).mono ?_); rintro e w' ⟨rfl, rfl⟩))
          go_ret2
          exact ⟨hbel.alloc (by omega) _, Or.inr ⟨HN.out, rfl⟩⟩
        | some v =>
          have F1 := Lib.hid (hv_some s[k].toNat v hv)
          have hv16 := (hexV_some hv).1
          have hkm : k / 2 < m := by rw [HM.out]; have := HO.out; omega
          have hkm2 : (k : Int) / 2 < (m : Int) := by omega
          obtain ⟨x, HX⟩ : ∃ x : Nat, Hid (x = cellH s.data.toList k (k / 2)) := ⟨_, Lib.hid rfl⟩
          have hx16 : x < 16 := by rw [HX.out]; exact cellH_small _ _
          have hcell : (wq.iter s (k + 1)).cell? ⟨w.heap.size, k / 2, none⟩ = some (.int .u8 (x : Int)) := by
            rw [iter_cell _ _ _ _ _ hsq, hr.cellAt (k / 2) (by omega), rowH_at _ _ _ hkm, HX.out]
          have hfr : (wq.iter s (k + 1)).frozen? ⟨w.heap.size, k / 2, none⟩ = false := by
            rw [iter_frozen _ _ _ _ _ hsq]; exact hr.frozenAt _
          have hor := or_nib x v hx16 hv16
          have hst := (hr.stored (k / 2) (.int .u8 ((16 * x + v : Nat) : Int))).1
          have hnk : nib s.data.toList k = v := nib_of _ _ _ (by rw [getD_at s k hp]; exact hv)
          have hce : 16 * x + v = cellH s.data.toList (k + 1) (k / 2) := by rw [cellH_step, ← HX.out, hnk]
          have hst2 : (wq.setCell ⟨w.heap.size, k / 2, none⟩ (.int .u8 ((16 * x + v : Nat) : Int))).ownsRow w.heap.size 5 1 (.slice (some ⟨w.heap.size, 0, none⟩) m m) m (rowH s.data.toList m (k + 1)) := by
            rw [← rowH_set, ← hce]; exact hst
          rw [show ((16 * x + v : Nat) : Int) = 16 * (x : Int) + (v : Int) by omega] at hst2
          have HST := Lib.hid hst2
          have HH1 : Hid (∀ q, q < k + 1 → hexV (s.data.toList.getD q 0).toNat ≠ none) := Lib.hid (fun q hq => by
            rcases Nat.lt_or_ge q k with h | h
            · exact HH.out q h
            · rw [show q = k by omega, getD_at s k hp, hv]; simp)
          clear hst hst2 hnk hce hv
          go_wp2_with (go_at_call 27; ((with_reducible refine (F1.out _).mono ?_); rintro e w' ⟨rfl, rfl⟩))
          go_roundw
          case rel => exact ⟨k + 1, _, iter_store _ _ _ _ _ _ hsq, by omega, Lib.hid (by simp; exact HQ.out), HST.out, hbel.setCell (Nat.le_refl _) _, HH1⟩
          case measure =>
            rw [iter_store _ _ _ _ _ _ hsq, iter_pos _ _ _ _ (by simp; exact HQ.out), iter_pos _ _ _ _ HQ.out]; omega
      · have hd := (decode_high s k hp (by omega)).1
        have hnx : ∀ ty, (Instr.next (.pointer (some ⟨w1.heap.size, 0, none⟩)) true ty).run Tryd.prog (wq.iter s k) = .ok (.tuple #[.bool true, .int .i64 k, .int .i32 ((Utf8.decode s k).1 : Int)]) (wq.iter s (k + (Utf8.decode s k).2)) := fun ty => by
          have := run_next_any (P := Tryd.prog) wq s k ty hp
          rw [HQ.out] at this
          exact this
        have F1 := Lib.hid (hv_no ((Utf8.decode s k).1 : Int) · (by omega))
        have HN := Lib.hid (not_hex_at s k hp (by unfold hexV; rw [if_neg (by omega), if_neg (by omega)]))
        clear hd
        go_wp2_with (go_at_call 27; ((with_reducible refine (F1.out _).mono ?_); rintro e w' ⟨rfl, rfl⟩))
        go_ret2
        exact ⟨hbel.alloc (by omega) _, Or.inr ⟨HN.out, rfl⟩⟩
    · obtain rfl : k = s.size := by omega
      have hnx : ∀ ty, (Instr.next (.pointer (some ⟨w1.heap.size, 0, none⟩)) true ty).run Tryd.prog (wq.iter s s.size) = .ok (.tuple #[.bool false]) (wq.iter s s.size) := fun ty => by
        have := run_next_end (P := Tryd.prog) wq s s.size ty hp
        rw [HQ.out] at this
        exact this
      have HHX := Lib.hid (show IsHex s.data.toList from ⟨by rw [len_size]; exact HO.out, fun i hi => HH.out i (by rw [len_size] at hi; exact hi)⟩)
      have hm2 : s.size = 2 * m := by have := HM.out; have := HO.out; omega
      have hr2 : wq.ownsRow w.heap.size 5 1 (.slice (some ⟨w.heap.size, 0, none⟩) m m) (decL s.data.toList m).length ((decL s.data.toList m).map byteV) := by
        rw [← rowH_full, decL_len, ← hm2]; exact hr
      have hconv := conv_own (hr2.alloc (.stringIter s s.size))
      have hconv2 : (convert 22 9 (.slice (some ⟨w.heap.size, 0, none⟩) m m)).run Tryd.prog (wq.iter s s.size) = .ok (strV (decL s.data.toList m)) (wq.iter s s.size) := hconv
      have HE := Lib.hid (show m = s.data.toList.length / 2 by rw [len_size, hm2]; omega)
      clear hr hr2 hconv hm2 HH
      go_wp2
      go_ret2
      exact ⟨hbel.alloc (by omega) _, Or.inl ⟨HHX.out, by rw [← HE.out]; rfl⟩⟩
end Go.Proofs.YtlbijhfjlgafeaaDoor
