/- The contracts of spec.DecodeFixed and impl.DecodeFixed: both answer the number that the first width bytes read big-endian make, or 0 and false. At every string and width. -/
import Derived.Test.YtlbijhfjlgafeaaDoorRows
import Derived.WalkKit
import Derived.LoopTactic
import Derived.IntWalk
import Derived.Below
import Derived.Lib.Hide
import Derived.Laws.BitsAllLaws
import Derived.Laws.BitsLemmas
import Derived.Outline
namespace Go.Proofs.YtlbijhfjlgafeaaDoor
open Go.RowKit
theorem ret_int {k : IntKind} {a b : Int} (h : a = b) : Ending.returned (.int k a) = .returned (.int k b) := by rw [h]
def big (l : List UInt8) : Int := l.foldl (fun n c => n * 256 + (c.toNat : Int)) 0
theorem big_snoc (l : List UInt8) (c : UInt8) : big (l ++ [c]) = big l * 256 + (c.toNat : Int) := by simp [big]
theorem take_snoc (s : ByteArray) (k : Nat) (h : k < s.size) : s.data.toList.take (k + 1) = s.data.toList.take k ++ [s[k]] := by
  rw [List.take_succ_eq_append_getElem (by simpa using h)]; rfl
theorem big_bound (l : List UInt8) : 0 ≤ big l ∧ big l < 256 ^ l.length := by
  have aux : ∀ (l : List UInt8) (x : Int) (n : Nat), 0 ≤ x → x < 256 ^ n → 0 ≤ l.foldl (fun n c => n * 256 + (c.toNat : Int)) x ∧ l.foldl (fun n c => n * 256 + (c.toNat : Int)) x < 256 ^ (n + l.length) := by
    intro l
    induction l with
    | nil => intro x n h0 h1; simpa using ⟨h0, h1⟩
    | cons c l ih =>
      intro x n h0 h1
      have hc : (c.toNat : Int) < 256 := by have := c.toNat_lt; omega
      have := ih (x * 256 + (c.toNat : Int)) (n + 1) (by omega) (by rw [Int.pow_succ]; omega)
      simpa [Nat.add_assoc, Nat.add_comm 1] using this
  simpa [big] using aux l 0 0 (by omega) (by simp)
theorem pow_le7 (n : Nat) (h : n ≤ 7) : (256 : Int) ^ n ≤ 72057594037927936 := by
  have : n = 0 ∨ n = 1 ∨ n = 2 ∨ n = 3 ∨ n = 4 ∨ n = 5 ∨ n = 6 ∨ n = 7 := by omega
  rcases this with rfl | rfl | rfl | rfl | rfl | rfl | rfl | rfl <;> decide
theorem pow_le6 (n : Nat) (h : n ≤ 6) : (256 : Int) ^ n ≤ 281474976710656 := by
  have : n = 0 ∨ n = 1 ∨ n = 2 ∨ n = 3 ∨ n = 4 ∨ n = 5 ∨ n = 6 := by omega
  rcases this with rfl | rfl | rfl | rfl | rfl | rfl | rfl <;> decide
theorem i64_or8 (x y : Int) (hx₀ : 0 ≤ x) (hx₁ : x < 9223372036854775808) (hx : x % 256 = 0) (h₀ : 0 ≤ y) (h₁ : y < 256) : bits .or .i64 x y = x + y :=
  bits_join .i64 63 (by decide) (fun n h0 h1 => by rw [IntKind.wrap_i64]; omega) 8 x y hx₀ (by omega) (by omega) h₀ (by omega) (by omega)
theorem big_take (s : ByteArray) (k : Nat) (hk : k ≤ 7) : 0 ≤ big (s.data.toList.take k) ∧ big (s.data.toList.take k) < 72057594037927936 := by
  have h := big_bound (s.data.toList.take k)
  refine ⟨h.1, Int.lt_of_lt_of_le h.2 ?_⟩
  have hl : (s.data.toList.take k).length ≤ k := List.length_take_le _ _
  exact pow_le7 _ (by omega)
theorem big_take6 (s : ByteArray) (k : Nat) (hk : k ≤ 6) : 0 ≤ big (s.data.toList.take k) ∧ big (s.data.toList.take k) < 281474976710656 := by
  have h := big_bound (s.data.toList.take k)
  refine ⟨h.1, Int.lt_of_lt_of_le h.2 ?_⟩
  have hl : (s.data.toList.take k).length ≤ k := List.length_take_le _ _
  exact pow_le6 _ (by omega)
theorem in_yes (x lo hi : Int) (w : World) (h0 : lo ≤ x) (h1 : x ≤ hi) : Calls Tryd.prog 25 #[.int .i64 x, .int .i64 lo, .int .i64 hi] w fun e w' => e = .returned (.bool true) ∧ w = w' := by
  have g0 : decide (lo ≤ x) = true := by simpa using h0
  have g1 : decide (x ≤ hi) = true := by simpa using h1
  go_enter Tryd.func25, Tryd.ntmps25
  go_wp2
  go_ret
  exact ⟨rfl, rfl⟩
theorem in_no (x lo hi : Int) (w : World) (h : x < lo ∨ hi < x) : Calls Tryd.prog 25 #[.int .i64 x, .int .i64 lo, .int .i64 hi] w fun e w' => e = .returned (.bool false) ∧ w = w' := by
  by_cases h0 : x < lo
  · clear h
    go_enter Tryd.func25, Tryd.ntmps25
    go_wp2
    go_ret
    exact ⟨rfl, rfl⟩
  · have h0' : lo ≤ x := by omega
    have h1 : hi < x := by omega
    have g1 : decide (x ≤ hi) = false := by simpa using h1
    clear h h0
    go_enter Tryd.func25, Tryd.ntmps25
    go_wp2
    go_ret
    exact ⟨rfl, rfl⟩
theorem idec_no (s : ByteArray) (n : Int) (w : World) (h : n < 1 ∨ 7 < n ∨ (s.size : Int) < n) :
    Calls Tryd.prog 13 #[.string s, .int .i64 n] w fun e w' => e = .returned (.tuple #[.int .i64 0, .bool false]) ∧ w = w' := by
  by_cases h0 : n < 1
  · clear h
    go_enter Tryd.func13, Tryd.ntmps13
    go_wp2
    go_ret2
    exact ⟨rfl, rfl⟩
  · have h0' : 1 ≤ n := by omega
    by_cases h1 : 7 < n
    · clear h h0
      go_enter Tryd.func13, Tryd.ntmps13
      go_wp2
      go_ret2
      exact ⟨rfl, rfl⟩
    · have h1' : n ≤ 7 := by omega
      have h3 : (s.size : Int) < n := by omega
      clear h h0 h1
      go_enter Tryd.func13, Tryd.ntmps13
      go_wp2
      go_ret2
      exact ⟨rfl, rfl⟩
theorem idec_yes (s : ByteArray) (m : Nat) (w : World) (hs : s.size ≤ maxLen) (h1 : 1 ≤ m) (h2 : m ≤ 7) (h3 : m ≤ s.size) :
    Calls Tryd.prog 13 #[.string s, .int .i64 m] w fun e w' => e = .returned (.tuple #[.int .i64 (big (s.data.toList.take m)), .bool true]) ∧ w = w' := by
  unfold maxLen at hs
  go_enter Tryd.func13, Tryd.ntmps13
  go_wp2
  go_loop [6, 7, 21] (fun n _ i => ∃ k : Nat, k ≤ m ∧ i = .int .i64 k ∧ n = .int .i64 (big (s.data.toList.take k))) (fun _ _ i => m - (intOf i).toNat)
  case atStart => exact ⟨0, Nat.zero_le _, rfl, rfl⟩
  case round =>
    obtain ⟨k, hk, rfl, rfl⟩ := hrel
    by_cases hlt : k < m
    · have hb := big_take6 s k (by omega)
      have hks : k < s.size := by omega
      have hc : (s[k].toNat : Int) < 256 := by have := s[k].toNat_lt; omega
      have HS : Hid (big (s.data.toList.take (k + 1)) = big (s.data.toList.take k) * 256 + (s[k].toNat : Int)) := by rw [take_snoc s k hks]; exact big_snoc _ _
      go_wp2
      go_round
      case rel => exact ⟨k + 1, by omega, by go_num, by rw [HS.out, i64_or8 _ _ (by omega) (by omega) (by omega) (by omega) (by omega)]⟩
      case measure => simp [intOf]; omega
    · obtain rfl : k = m := by omega
      go_wp2
      go_ret2
      exact ⟨rfl, rfl⟩
end Go.Proofs.YtlbijhfjlgafeaaDoor
