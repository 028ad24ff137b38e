/- The contracts of spec.FormatInt and impl.FormatInt: both answer the decimal numeral, at every int. -/
import Derived.Test.YticgoodmfjjggaaGreatDoorBytes
import Derived.Test.YticgoodmfjjggaaGreatDoorShelf
import Derived.Lib.ItoaNum
import Derived.Lib.ItoaMem
import Derived.Lib.ItoaLen
import Derived.Lib.AppendIntMem
namespace Go.Proofs.YticgoodmfjjggaaGreatDoor
open Go.RowKit
def dgB (m : Nat) : UInt8 := UInt8.ofNat (48 + m % 10)
def digT (m : Nat) : List UInt8 := if m = 0 then [] else digT (m / 10) ++ [dgB m]
theorem dig_step (m : Nat) (h : m ≠ 0) : digT m = digT (m / 10) ++ [dgB m] := by rw [digT, if_neg h]
theorem dig_zero : digT 0 = [] := by rw [digT, if_pos rfl]
theorem dig_dec (m : Nat) (h : m ≠ 0) : digT m = Lib.decDigits m := by
  induction m using Nat.strongRecOn with
  | _ m ih =>
    rw [dig_step m h, Lib.decDigits]
    by_cases h10 : m < 10
    · rw [dif_pos h10, show m / 10 = 0 by omega, dig_zero, show dgB m = UInt8.ofNat (48 + m) by unfold dgB; rw [Nat.mod_eq_of_lt h10]]; rfl
    · rw [dif_neg h10, ih (m / 10) (by omega) (by omega)]; rfl
theorem dig_len (N m : Nat) (o : List UInt8) (h : digT N = digT m ++ o) (hN : N ≠ 0) (hb : N ≤ 9223372036854775808) : o.length ≤ 21 := by
  have h1 := congrArg List.length h
  rw [dig_dec N hN, List.length_append] at h1
  have h2 : (Lib.decDigits N).length ≤ 21 := by
    have := Lib.decDigits_length N
    have := Lib.nDigits_le20 N (by omega)
    omega
  omega
theorem digit_byte (m : Nat) : ((dgB m).toNat : Int) = 48 + (m : Int) % 10 := by
  unfold dgB; rw [UInt8.toNat_ofNat']; omega
set_option maxHeartbeats 1000000 in
set_option maxRecDepth 1000000 in
theorem sfmt_pos (N : Nat) (w : World) (h0 : 0 < N) (hN : N ≤ 9223372036854775807) :
    Calls Tryz.prog 85 #[.int .i64 N] w fun e w' => e = .returned (strV (Lib.itoa N)) ∧ Below w.heap.size w w' := by
  have hI := Lib.hid (show Lib.itoa (N : Int) = digT N by rw [Lib.itoa_nonneg, dig_dec N (by omega)])
  have hz : ((N : Int) == 0) = false := by simp; omega
  go_enter Tryz.func85, Tryz.ntmps85
  go_wp2
  go_loopw [0, 3, 5] (fun n s _ wr => ∃ (m : Nat) (o : List UInt8), m ≤ N ∧ n = .int .i64 m ∧ s = strV o ∧ Hid (digT N = digT m ++ o) ∧ Below w.heap.size w wr) (fun n _ _ _ => (intOf n).toNat)
  case atStart => exact ⟨N, [], Nat.le_refl _, rfl, rfl, Lib.hid (by simp), Below.refl _ _⟩
  case round =>
    obtain ⟨m, o, hm, rfl, rfl, HD, hbel⟩ := hrel
    by_cases hm0 : m = 0
    · subst hm0
      have HO := Lib.hid (show digT N = o by rw [HD.out, dig_zero]; rfl)
      go_wp2
      go_ret
      exact ⟨by rw [hI.out, HO.out]; rfl, hbel⟩
    · have hz2 : ((m : Int) != 0) = true := by simp; omega
      have hc1 := conv_one wr (dgB m) _ (digit_byte m)
      have hs1 : (bs [dgB m]).size ≤ 1 := Nat.le_refl _
      have hs2 : (bs o).size ≤ 21 := by rw [bs_size]; exact dig_len N m o HD.out (by omega) (by omega)
      go_wp2
      go_roundw
      case rel => exact ⟨m / 10, dgB m :: o, by omega, by go_num, by rw [bs_append]; rfl, Lib.hid (by rw [HD.out, dig_step m hm0]; simp), hbel.alloc (by have := hbel.size; omega) _⟩
      case measure => simp [intOf]; omega
set_option maxHeartbeats 1000000 in
set_option maxRecDepth 1000000 in
theorem sfmt_neg (N : Nat) (w : World) (h0 : 0 < N) (hN : N ≤ 9223372036854775808) :
    Calls Tryz.prog 85 #[.int .i64 (-(N : Int))] w fun e w' => e = .returned (strV (Lib.itoa (-(N : Int)))) ∧ Below w.heap.size w w' := by
  have hI := Lib.hid (show Lib.itoa (-(N : Int)) = 45 :: digT N by rw [Lib.itoa_neg N (by omega), dig_dec N (by omega)])
  have hz : (-(N : Int) == 0) = false := by simp; omega
  go_enter Tryz.func85, Tryz.ntmps85
  go_wp2
  go_loopw [0, 3, 5] (fun n s _ wr => ∃ (m : Nat) (o : List UInt8), m ≤ N ∧ n = .int .i64 (-(m : Int)) ∧ s = strV o ∧ Hid (digT N = digT m ++ o) ∧ Below w.heap.size w wr) (fun n _ _ _ => (-(intOf n)).toNat)
  case atStart => exact ⟨N, [], Nat.le_refl _, rfl, rfl, Lib.hid (by simp), Below.refl _ _⟩
  case round =>
    obtain ⟨m, o, hm, rfl, rfl, HD, hbel⟩ := hrel
    by_cases hm0 : m = 0
    · subst hm0
      have HO := Lib.hid (show digT N = o by rw [HD.out, dig_zero]; rfl)
      have hs2 : (bs o).size ≤ 21 := by rw [bs_size]; exact dig_len N 0 o HD.out (by omega) (by omega)
      go_wp2
      go_ret
      exact ⟨by rw [hI.out, HO.out]; exact congrArg (fun b => Ending.returned (.string b)) (bs_append [45] o), hbel⟩
    · have hz2 : (-(m : Int) != 0) = true := by simp; omega
      have hc1 := conv_one wr (dgB m) _ (digit_byte m)
      have hs1 : (bs [dgB m]).size ≤ 1 := Nat.le_refl _
      have hs2 : (bs o).size ≤ 21 := by rw [bs_size]; exact dig_len N m o HD.out (by omega) (by omega)
      by_cases hd : (m : Int) % 10 = 0
      · have hd' : (m : Int) % 10 ≤ 0 := by omega
        have hc2 := conv_one wr (dgB m) (48 + -((m : Int) % 10)) (by rw [digit_byte]; omega)
        clear hd hc1
        go_wp2
        go_roundw
        case rel => exact ⟨m / 10, dgB m :: o, by omega, by go_num, by rw [bs_append]; rfl, Lib.hid (by rw [HD.out, dig_step m hm0]; simp), hbel.alloc (by have := hbel.size; omega) _⟩
        case measure => simp [intOf]; omega
      · have hd' : 0 < (m : Int) % 10 := by omega
        clear hd
        go_wp2
        go_roundw
        case rel => exact ⟨m / 10, dgB m :: o, by omega, by go_num, by rw [bs_append]; rfl, Lib.hid (by rw [HD.out, dig_step m hm0]; simp), hbel.alloc (by have := hbel.size; omega) _⟩
        case measure => simp [intOf]; omega
theorem sfmt_zero (w : World) :
    Calls Tryz.prog 85 #[.int .i64 0] w fun e w' => e = .returned (strV (Lib.itoa 0)) ∧ Below w.heap.size w w' := by
  have hI := Lib.hid (show Lib.itoa 0 = [48] by simp [Lib.itoa, Lib.decDigits])
  go_enter Tryz.func85, Tryz.ntmps85
  go_wp2
  go_ret
  exact ⟨by rw [hI.out]; rfl, Below.refl _ _⟩
theorem sfmt_any (n : Int) (h0 : -9223372036854775808 ≤ n) (h1 : n ≤ 9223372036854775807) (w : World) :
    Calls Tryz.prog 85 #[.int .i64 n] w fun e w' => e = .returned (strV (Lib.itoa n)) ∧ Below w.heap.size w w' := by
  rcases Int.lt_trichotomy n 0 with h | h | h
  · obtain ⟨N, rfl⟩ : ∃ N : Nat, n = -(N : Int) := ⟨n.natAbs, by omega⟩
    exact sfmt_neg N w (by omega) (by omega)
  · subst h; exact sfmt_zero w
  · obtain ⟨N, rfl⟩ : ∃ N : Nat, n = (N : Int) := ⟨n.toNat, by omega⟩
    exact sfmt_pos N w (by omega) (by omega)
/-- The library's table of powers reads as it is laid, whatever is done from block B on. -/
def TabOn (B : Nat) (w : World) : Prop := Lib.TabBelow Tryz.prog B w "internal/strconv.uint64pow10" .u64 Lib.pow10Tab
theorem TabOn.on {B : Nat} {w w1 : World} (h : TabOn B w) (hb : Below B w w1) : TabOn B w1 := Lib.TabBelow.on h hb
theorem itoa_any (n : Int) (h0 : -9223372036854775808 ≤ n) (h1 : n ≤ 9223372036854775807) (B : Nat) (w : World) (hB : B ≤ w.heap.size) (ht : TabOn B w) :
    Calls Tryz.prog 137 #[.int .i64 n] w fun e w' => e = .returned (strV (Lib.itoa n)) ∧ Below B w w' :=
  (Tryz.strconv_Itoa n h0 h1 w ht.here).mono fun _ _ ⟨he, k, os, hw⟩ => ⟨he, by rw [hw]; exact Lib.below_grow B w hB k os⟩
theorem ifmt_any (n : Int) (h0 : -9223372036854775808 ≤ n) (h1 : n ≤ 9223372036854775807) (B : Nat) (w : World) (hB : B ≤ w.heap.size) (ht : TabOn B w) :
    Calls Tryz.prog 116 #[.int .i64 n] w fun e w' => e = .returned (strV (Lib.itoa n)) ∧ Below B w w' := by
  have HI := Lib.hid (itoa_any n h0 h1 B w hB ht)
  clear ht
  go_enter Tryz.func116, Tryz.ntmps116
  go_wp2_with (go_at_call 137; refine HI.out.mono ?_; rintro e w1 ⟨rfl, hb1⟩)
  go_ret
  exact ⟨rfl, by assumption⟩
end Go.Proofs.YticgoodmfjjggaaGreatDoor
