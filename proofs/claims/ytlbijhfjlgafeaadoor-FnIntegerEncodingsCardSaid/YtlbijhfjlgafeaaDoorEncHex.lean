/- The contracts of spec.EncodeHex and impl.EncodeHex: two lowercase digits for each byte, the high half first. -/
import Derived.Test.YtlbijhfjlgafeaaDoorBytes
import Derived.Test.YtlbijhfjlgafeaaDoorDecFixed
import Derived.OwnWalk
import Derived.Deep.RegionWith
namespace Go.Proofs.YtlbijhfjlgafeaaDoor
open Go.RowKit
def hexD (k : Nat) : UInt8 := UInt8.ofNat (if k < 10 then 48 + k else 87 + k)
def hexL (l : List UInt8) : List UInt8 := l.flatMap fun b => [hexD (b.toNat / 16), hexD (b.toNat % 16)]
theorem hexL_len (l : List UInt8) : (hexL l).length = 2 * l.length := by
  induction l with
  | nil => rfl
  | cons b l ih => simp only [hexL, List.flatMap_cons, List.length_append, List.length_cons, List.length_nil] at ih ⊢; omega
theorem hexL_snoc (l : List UInt8) (b : UInt8) : hexL (l ++ [b]) = hexL l ++ [hexD (b.toNat / 16), hexD (b.toNat % 16)] := by simp [hexL]
theorem hexD_arr : ∀ k : Fin 16, (#[48, 49, 50, 51, 52, 53, 54, 55, 56, 57, 97, 98, 99, 100, 101, 102] : Array UInt8)[k] = hexD k := by decide
theorem hexD_lo (k : Nat) (h : k < 10) : ((hexD k).toNat : Int) = 48 + k := by
  unfold hexD; rw [if_pos h, UInt8.toNat_ofNat']; omega
theorem hexD_hi (k : Nat) (h : ¬ k < 10) (h2 : k < 16) : ((hexD k).toNat : Int) = 87 + k := by
  unfold hexD; rw [if_neg h, UInt8.toNat_ofNat']; omega
theorem ret_u8 {a b : Int} (h : a = b) : Ending.returned (.int .u8 a) = .returned (.int .u8 b) := by rw [h]
theorem wrap_b (c : Nat) (h : (c : Int) < 256) : IntKind.i64.wrap (c : Int) = c := by rw [IntKind.wrap_i64]; omega
theorem tdiv16 (c : Nat) : (c : Int).tdiv 16 = (c : Int) / 16 := Int.tdiv_eq_ediv_of_nonneg (by omega)
theorem wrap_q (c : Nat) (h : (c : Int) < 256) : IntKind.i64.wrap ((c : Int) / 16) = (c : Int) / 16 := by rw [IntKind.wrap_i64]; omega
theorem tmod16 (c : Nat) : (c : Int).tmod 16 = (c : Int) % 16 := Int.tmod_eq_emod_of_nonneg (by omega)
theorem hexDigit_any (x : Int) (k : Nat) (hx : x = k) (hk : k < 16) (w : World) :
    Calls Tryd.prog 26 #[.int .u8 x] w fun e w' => e = .returned (.int .u8 ((hexD k).toNat : Int)) ∧ w' = w := by
  subst hx
  by_cases h : k < 10
  · have hv := hexD_lo k h
    have HV := Lib.hid hv
    clear hv
    go_enter Tryd.func26, Tryd.ntmps26
    go_wp2
    go_ret
    exact ⟨by rw [HV.out]; rfl, rfl⟩
  · have hv := hexD_hi k h hk
    have HV := Lib.hid hv
    clear hv
    have h' : 10 ≤ k := by omega
    clear h
    go_enter Tryd.func26, Tryd.ntmps26
    go_wp2
    go_ret
    exact ⟨ret_u8 (a := 97 + (k : Int) - 10) (b := ((hexD k).toNat : Int)) (by have := HV.out; omega), rfl⟩
set_option maxHeartbeats 1000000 in
set_option maxRecDepth 1000000 in
theorem iench_any (s : ByteArray) (w : World) (hs : s.size ≤ 1048576) :
    Calls Tryd.prog 15 #[.string s] w fun e w' => e = .returned (strV (hexL s.data.toList)) ∧ Below w.heap.size w w' := by
  obtain ⟨i0, hi, hz0, hz1, hz2⟩ := info_parts byteInfo
  go_enter Tryd.func15, Tryd.ntmps15
  go_wp2_with (at_make; refine wpList_make_own _ rfl _ _ 22 rfl w.heap.size 5 i0 (.int .u8 0) 1 Tryd.underlying22 hi hz0 hz1 .i64 .i64 _ (2 * s.size) rfl rfl ?c0 ?c1 ?c2 ?c3 ?_)
  case c0 => omega
  case c1 => rw [hz2]; omega
  case c2 => unfold maxLen; omega
  case c3 => omega
  intro w1 hown hgrow
  have hbel1 : Below w.heap.size w w1 := (Below.refl _ w).grown hgrow (Nat.le_refl _) (fun q hq => by cases hq)
  have hsz1 := (hown.lt _ rfl).2
  clear hgrow
  go_wp2
  go_loopw [3, 4, 11] (fun v _ i wr => ∃ k : Nat, k ≤ s.size ∧ i = .int .i64 k ∧ wr.ownsRow w.heap.size 5 1 v (hexL (s.data.toList.take k)).length ((hexL (s.data.toList.take k)).map byteV) ∧ Below w.heap.size w wr) (fun _ _ i _ => s.size - (intOf i).toNat)
  case atStart => exact ⟨0, Nat.zero_le _, rfl, hown, hbel1⟩
  case round =>
    obtain ⟨k, hk, rfl, hown, hbel⟩ := hrel
    by_cases hlt : k < s.size
    · have hb : (s[k].toNat : Int) < 256 := by have := s[k].toNat_lt; omega
      go_wp2
      have hlen := hexL_len (s.data.toList.take k)
      have htl : (s.data.toList.take k).length ≤ k := List.length_take_le _ _
      have hle : (hexL (s.data.toList.take k)).length ≤ 2097152 := by omega
      clear hlen htl
      have hsize := hbel.size
      have e4 : bits .and .u8 (s[k].toNat : Int) 15 = (s[k].toNat : Int) % 16 := u8_and15 _ (by omega) hb
      have F1 := Lib.hid (hexDigit_any ((s[k].toNat : Int) / 16) (s[k].toNat / 16) (by omega) (by omega))
      have F2 := Lib.hid (hexDigit_any ((s[k].toNat : Int) % 16) (s[k].toNat % 16) (by omega) (by omega))
      go_region_law (first | (go_simp; go_at_call 26; ((with_reducible refine (F1.out _).mono ?_); rintro e w' ⟨rfl, rfl⟩)) | (go_simp; go_at_call 26; ((with_reducible refine (F2.out _).mono ?_); rintro e w' ⟨rfl, rfl⟩)) | (refine step_append_own rfl (.tmp 14) (.tmp 25) 22 rfl w.heap.size 5 i0 (.int .u8 0) 1 1 Tryd.underlying22 hi hz0 hz1 hz2 rfl (by decide) u3 (hexL (s.data.toList.take k)).length ((hexL (s.data.toList.take k)).map byteV) (by simp [Act.eval]) (hown.drew.alloc _) ⟨wr.heap.size, 0, none⟩ 2 2 [byteV (hexD (s[k].toNat / 16)), byteV (hexD (s[k].toNat % 16))] (by simp [Act.eval]) rfl (news2 wr.drew _ _ _) (one2 _ _) (by unfold maxLen; omega) (by omega) (by simp; omega) ?_; intro v' w1 hown' hgrow))
      all_goals
        have hown3 : w1.ownsRow w.heap.size 5 1 v' (hexL (s.data.toList.take (k + 1))).length ((hexL (s.data.toList.take (k + 1))).map byteV) := by
          rw [take_snoc s k hlt, hexL_snoc]; simpa using hown'
        have hbel3 : Below w.heap.size w w1 := (hbel.drew.alloc (by have := hbel.size; simp; omega) _).grown hgrow (by have := hbel.size; simp; omega) (fun q hq => (hown.lt q hq).1)
        clear hown' hgrow hown hbel F1 F2
        go_wp2
        go_roundw
        case rel => exact ⟨k + 1, by omega, by go_num, hown3, hbel3⟩
        case measure => simp [intOf]; omega
    · obtain rfl : k = s.size := by omega
      have hall : s.data.toList.take s.size = s.data.toList := List.take_of_length_le (by simp)
      rw [hall] at hown
      have hconv := conv_own hown
      clear hown hall
      go_wp2
      go_ret
      exact ⟨rfl, hbel⟩
end Go.Proofs.YtlbijhfjlgafeaaDoor
