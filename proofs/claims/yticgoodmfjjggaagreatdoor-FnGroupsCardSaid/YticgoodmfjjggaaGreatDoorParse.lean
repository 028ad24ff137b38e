/- The contracts of impl.parseDigits, impl.ParseInt and spec.ParseInt: both parsers answer the number and true at a numeral of at most nine digits, else 0 and false. -/
import Derived.Test.YticgoodmfjjggaaGreatDoorNUMA
import Derived.Laws.RangeString
import Derived.Laws.RangeAny
import Derived.WalkLawsBesides
import Derived.WalkSpells
namespace Go.Proofs.YticgoodmfjjggaaGreatDoor
open Go.RowKit
theorem take_snoc' (s : ByteArray) (k : Nat) (h : k < s.size) : s.data.toList.take (k + 1) = s.data.toList.take k ++ [s[k]] := by
  rw [List.take_succ_eq_append_getElem (by simpa using h)]; rfl
theorem iter_posP (w : World) (s : ByteArray) (p n : Nat) (h : w.heap.size = n) : (w.iter s p).iterPos n = p := by subst h; simp
theorem all_snoc {l : List UInt8} {c : UInt8} (h : ∀ x ∈ l, isD x = true) (hc : isD c = true) : ∀ x ∈ l ++ [c], isD x = true := by
  intro x hx
  rcases List.mem_append.1 hx with h1 | h1
  · exact h x h1
  · rw [List.mem_singleton.1 h1]; exact hc
theorem pd_bad (s : ByteArray) (k : Nat) (h : k < s.size) (hc : isD s[k] = false) : pdB s.data.toList = false := by
  have : s.data.toList.all isD = false := by
    cases ha : s.data.toList.all isD with
    | false => rfl
    | true =>
      have hm : s[k] ∈ s.data.toList := by
        have : s.data.toList[k]'(by simpa using h) = s[k] := by rw [Array.getElem_toList]; rfl
        rw [← this]; exact List.getElem_mem _
      rw [List.all_eq_true.1 ha _ hm] at hc; cases hc
  unfold pdB; rw [this]; simp
/-- What the reader of digits answers. -/
def pdV (l : List UInt8) : Int := if pdB l then (sval l : Int) else 0
theorem sval9 (l : List UInt8) (h : l.length ≤ 8) : sval l < 100000000 := Nat.lt_of_lt_of_le (sval_lt l) (pow10_le _ 8 h)
set_option maxHeartbeats 1000000 in
set_option maxRecDepth 1000000 in
theorem pd_short (s : ByteArray) (w : World) (h : s.size < 1) :
    Calls Tryz.prog 142 #[.string s] w fun e w' => e = .returned (.tuple #[.int .i64 0, .bool false]) ∧ Below w.heap.size w w' := by
  go_enter Tryz.func142, Tryz.ntmps142
  go_wp2
  go_ret2
  exact ⟨rfl, Below.refl _ _⟩
set_option maxHeartbeats 1000000 in
set_option maxRecDepth 1000000 in
theorem pd_long (s : ByteArray) (w : World) (hs : s.size ≤ maxLen) (h : 9 < s.size) :
    Calls Tryz.prog 142 #[.string s] w fun e w' => e = .returned (.tuple #[.int .i64 0, .bool false]) ∧ Below w.heap.size w w' := by
  unfold maxLen at hs
  go_enter Tryz.func142, Tryz.ntmps142
  go_wp2
  go_ret2
  exact ⟨rfl, Below.refl _ _⟩
set_option maxHeartbeats 1000000 in
set_option maxRecDepth 1000000 in
theorem pd_mid (s : ByteArray) (w : World) (h1 : 1 ≤ s.size) (h9 : s.size ≤ 9) :
    Calls Tryz.prog 142 #[.string s] w fun e w' => e = .returned (.tuple #[.int .i64 (pdV s.data.toList), .bool (pdB s.data.toList)]) ∧ Below w.heap.size w w' := by
  go_enter Tryz.func142, Tryz.ntmps142
  go_wp2
  go_loopw [4, 6] (fun n _ wr => ∃ k : Nat, k ≤ s.size ∧ wr = w.iter s k ∧ n = .int .i64 (sval (s.data.toList.take k)) ∧ Hid (∀ x ∈ s.data.toList.take k, isD x = true)) (fun _ _ wr => s.size - wr.iterPos w.heap.size)
  case atStart => exact ⟨0, Nat.zero_le _, rfl, rfl, Lib.hid (by simp)⟩
  case round =>
    obtain ⟨k, hk, rfl, rfl, HH⟩ := hrel
    by_cases hp : k < s.size
    · have hv := sval9 (s.data.toList.take k) (by simp; omega)
      by_cases ha : s[k].toNat < 128
      · have hnx : ∀ ty, (Instr.next (.pointer (some ⟨w.heap.size, 0, none⟩)) true ty).run Tryz.prog (w.iter s k) = .ok (.tuple #[.bool true, .int .i64 k, .int .i32 (s[k].toNat : Int)]) (w.iter s (k + 1)) := fun ty => run_next_ascii (P := Tryz.prog) w s k ty hp ha
        by_cases hlo : s[k].toNat < 48
        · have HB := Lib.hid (pd_bad s k hp (by cases hd : isD s[k] with | false => rfl | true => have := (isD_iff _).1 hd; omega))
          have hlo' : (s[k].toNat : Int) < 48 := by omega
          clear ha
          go_wp2
          go_ret2
          exact ⟨by rw [pdV, HB.out]; rfl, (Below.refl _ _).alloc (Nat.le_refl _) _⟩
        · by_cases hhi : 57 < s[k].toNat
          · have HB := Lib.hid (pd_bad s k hp (by cases hd : isD s[k] with | false => rfl | true => have := (isD_iff _).1 hd; omega))
            have hlo' : (48 : Int) ≤ s[k].toNat := by omega
            have hhi' : (57 : Int) < s[k].toNat := by omega
            clear ha hlo
            go_wp2
            go_ret2
            exact ⟨by rw [pdV, HB.out]; rfl, (Below.refl _ _).alloc (Nat.le_refl _) _⟩
          · have hlo' : (48 : Int) ≤ s[k].toNat := by omega
            have hhi' : (s[k].toNat : Int) ≤ 57 := by omega
            have hd : isD s[k] = true := (isD_iff _).2 (by omega)
            have HH1 : Hid (∀ x ∈ s.data.toList.take (k + 1), isD x = true) := Lib.hid (by rw [take_snoc' s k hp]; exact all_snoc HH.out hd)
            have HS : Hid ((sval (s.data.toList.take (k + 1)) : Int) = 10 * (sval (s.data.toList.take k) : Int) + ((s[k].toNat : Int) - 48)) := Lib.hid (by
              rw [take_snoc' s k hp, sval_snoc]; unfold stepN; rw [if_pos hd]; omega)
            clear ha hlo hhi hd HH
            go_wp2
            go_roundw
            case rel => exact ⟨k + 1, by omega, rfl, by rw [HS.out], HH1⟩
            case measure => rw [iter_posP _ _ _ _ rfl, iter_posP _ _ _ _ rfl]; omega
      · have hd := (decode_high s k hp (by omega)).1
        have hnx : ∀ ty, (Instr.next (.pointer (some ⟨w.heap.size, 0, none⟩)) true ty).run Tryz.prog (w.iter s k) = .ok (.tuple #[.bool true, .int .i64 k, .int .i32 ((Utf8.decode s k).1 : Int)]) (w.iter s (k + (Utf8.decode s k).2)) := fun ty => run_next_any (P := Tryz.prog) w s k ty hp
        have hd1 : (48 : Int) ≤ ((Utf8.decode s k).1 : Int) := by omega
        have hd2 : (57 : Int) < ((Utf8.decode s k).1 : Int) := by omega
        have HB := Lib.hid (pd_bad s k hp (by cases hd : isD s[k] with | false => rfl | true => have := (isD_iff _).1 hd; omega))
        clear hd ha
        go_wp2
        go_ret2
        exact ⟨by rw [pdV, HB.out]; rfl, (Below.refl _ _).alloc (Nat.le_refl _) _⟩
    · obtain rfl : k = s.size := by omega
      have hnx : ∀ ty, (Instr.next (.pointer (some ⟨w.heap.size, 0, none⟩)) true ty).run Tryz.prog (w.iter s s.size) = .ok (.tuple #[.bool false]) (w.iter s s.size) := fun ty => run_next_end (P := Tryz.prog) w s s.size ty hp
      have hall : s.data.toList.take s.size = s.data.toList := List.take_of_length_le (by simp)
      have HB := Lib.hid (show pdB s.data.toList = true by
        unfold pdB
        rw [List.all_eq_true.2 (by have := HH.out; rw [hall] at this; exact this)]
        have e : s.data.toList.length = s.size := by simp
        rw [e]; simp [h1, h9])
      have HA := Lib.hid hall
      clear hall HH
      go_wp2
      go_ret2
      exact ⟨by rw [pdV, HB.out, HA.out]; rfl, (Below.refl _ _).alloc (Nat.le_refl _) _⟩
theorem pd_any (s : ByteArray) (w : World) (hs : s.size ≤ maxLen) :
    Calls Tryz.prog 142 #[.string s] w fun e w' => e = .returned (.tuple #[.int .i64 (pdV s.data.toList), .bool (pdB s.data.toList)]) ∧ Below w.heap.size w w' := by
  have e : s.data.toList.length = s.size := by simp
  by_cases h1 : s.size < 1
  · have hb : pdB s.data.toList = false := by unfold pdB; rw [e]; simp; omega
    rw [pdV, hb]; exact pd_short s w h1
  · by_cases h9 : 9 < s.size
    · have hb : pdB s.data.toList = false := by unfold pdB; rw [e]; simp; omega
      rw [pdV, hb]; exact pd_long s w hs h9
    · exact pd_mid s w (by omega) (by omega)
end Go.Proofs.YticgoodmfjjggaaGreatDoor
