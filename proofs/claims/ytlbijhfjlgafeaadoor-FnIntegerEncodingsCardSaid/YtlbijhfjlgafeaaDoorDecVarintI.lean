/- The contract of impl.DecodeVarint: the number and the length of the prefix that is a varint of at most seven bytes, or 0 and 0. -/
import Derived.Test.YtlbijhfjlgafeaaDoorDecVarint
import Derived.Laws.ShiftsVar
namespace Go.Proofs.YtlbijhfjlgafeaaDoor
open Go.RowKit
theorem u8_and127 (x : Int) (h₀ : 0 ≤ x) (h₁ : x < 256) : bits .and .u8 x 127 = x % 128 := bits_mask .u8 8 (by decide) wraps_u8 7 (by decide) x h₀ h₁
theorem i64_or_hi (n y : Int) (k : Nat) (hk : k ≤ 6) (h0 : 0 ≤ n) (h1 : n < 2 ^ (7 * k)) (hy0 : 0 ≤ y) (hy1 : y < 128) : bits .or .i64 n (y * 2 ^ (7 * k)) = n + y * 2 ^ (7 * k) := by
  have hp : (2 : Int) ^ (7 * k) ≤ 4398046511104 := by
    have : k = 0 ∨ k = 1 ∨ k = 2 ∨ k = 3 ∨ k = 4 ∨ k = 5 ∨ k = 6 := by omega
    rcases this with rfl | rfl | rfl | rfl | rfl | rfl | rfl <;> decide
  have hp0 : (0 : Int) < 2 ^ (7 * k) := Int.pow_pos (by decide)
  have hm0 : 0 ≤ y * 2 ^ (7 * k) := Int.mul_nonneg hy0 (by omega)
  have hm1 : y * 2 ^ (7 * k) ≤ 127 * 2 ^ (7 * k) := Int.mul_le_mul_of_nonneg_right (by omega) (by omega)
  rw [show bits .or .i64 n (y * 2 ^ (7 * k)) = bits .or .i64 (y * 2 ^ (7 * k)) n by simp only [bits, BitVec.or_comm]]
  rw [bits_join .i64 63 (by decide) (fun n h0 h1 => by rw [IntKind.wrap_i64]; omega) (7 * k) _ n hm0 (Int.mul_emod_left _ _) (by omega) h0 h1 (by omega)]
  omega
theorem wrap_shl (y : Int) (k : Nat) (hk : k ≤ 6) (hy0 : 0 ≤ y) (hy1 : y < 128) : wrap64 (y * 2 ^ (7 * k)) = y * 2 ^ (7 * k) := by
  have hp : (2 : Int) ^ (7 * k) ≤ 4398046511104 := by
    have : k = 0 ∨ k = 1 ∨ k = 2 ∨ k = 3 ∨ k = 4 ∨ k = 5 ∨ k = 6 := by omega
    rcases this with rfl | rfl | rfl | rfl | rfl | rfl | rfl <;> decide
  have hp0 : (0 : Int) < 2 ^ (7 * k) := Int.pow_pos (by decide)
  have hm0 : 0 ≤ y * 2 ^ (7 * k) := Int.mul_nonneg hy0 (by omega)
  have hm1 : y * 2 ^ (7 * k) ≤ 127 * 2 ^ (7 * k) := Int.mul_le_mul_of_nonneg_right (by omega) (by omega)
  exact IntWalk.wrap64_in _ ⟨by omega, by omega⟩
theorem val_snoc (s : ByteArray) (k : Nat) (h : k < s.size) : ((val (s.data.toList.take (k + 1)) : Nat) : Int) = (val (s.data.toList.take k) : Int) + (s[k].toNat : Int) % 128 * 2 ^ (7 * k) := by
  rw [take_snoc s k h, val_append]
  have e : (128 : Nat) ^ k = 2 ^ (7 * k) := by rw [Nat.pow_mul]
  have hl : (s.data.toList.take k).length = k := by simp; omega
  rw [hl, e]
  simp [val, Int.mul_comm]
theorem val_lt2 (s : ByteArray) (k : Nat) : ((val (s.data.toList.take k) : Nat) : Int) < 2 ^ (7 * k) := by
  have h := val_lt (s.data.toList.take k)
  have hl : (s.data.toList.take k).length ≤ k := List.length_take_le _ _
  have e : (128 : Nat) ^ k = 2 ^ (7 * k) := by rw [Nat.pow_mul]
  have h2 : 128 ^ (s.data.toList.take k).length ≤ 128 ^ k := Nat.pow_le_pow_right (by decide) hl
  have h3 : val (s.data.toList.take k) < 2 ^ (7 * k) := by omega
  exact_mod_cast h3
theorem high_snoc (s : ByteArray) (k : Nat) (h : k < s.size) (hh : ∀ x ∈ s.data.toList.take k, 128 ≤ x.toNat) (hc : 128 ≤ s[k].toNat) : ∀ x ∈ s.data.toList.take (k + 1), 128 ≤ x.toNat := by
  rw [take_snoc s k h]
  intro x hx
  rcases List.mem_append.1 hx with h1 | h1
  · exact hh x h1
  · simp at h1; rw [h1]; exact hc
/-- No byte of the first seven ends a varint. -/
theorem res_none (s : ByteArray) (k : Nat) (hk : k = 7 ∨ s.size ≤ k) (hh : ∀ x ∈ s.data.toList.take k, 128 ≤ x.toNat) : Res s.data.toList 0 0 := by
  refine Or.inl ⟨rfl, rfl, fun q h1 h7 hq => canon_high _ (fun x hx => hh x ?_)⟩
  have hq' : q ≤ s.size := by simpa using hq
  have : q ≤ k := by omega
  have e : s.data.toList.take q = (s.data.toList.take k).take q := by rw [List.take_take]; congr 1; omega
  rw [e] at hx
  exact List.mem_of_mem_take hx
/-- The first byte that ends one is a needless 0. -/
theorem res_zero (s : ByteArray) (k : Nat) (h : k < s.size) (h0 : 0 < k) (hh : ∀ x ∈ s.data.toList.take k, 128 ≤ x.toNat) (hc : s[k].toNat = 0) : Res s.data.toList 0 0 := by
  refine Or.inl ⟨rfl, rfl, fun q h1 h7 hq => ?_⟩
  rcases Nat.lt_or_ge k q with hkq | hkq
  · have e : s.data.toList.take q = s.data.toList.take (k + 1) ++ (s.data.toList.drop (k + 1)).take (q - (k + 1)) := by rw [← List.take_add]; congr 1; omega
    rw [e, take_snoc s k h]
    cases hm : (s.data.toList.drop (k + 1)).take (q - (k + 1)) with
    | nil =>
      rw [List.append_nil, canon_snoc _ _ hh]
      have hne : (s.data.toList.take k).isEmpty = false := by
        cases hl : s.data.toList.take k with
        | nil =>
          exfalso
          have h5 := congrArg List.length hl
          have h6 : s.data.toList.length = s.size := by simp
          rw [List.length_take, h6, List.length_nil] at h5
          omega
        | cons _ _ => rfl
      simp [hne, hc]
    | cons c m => simpa using canon_mid s[k] c m (by omega) (s.data.toList.take k)
  · apply canon_high
    intro x hx
    have e : s.data.toList.take q = (s.data.toList.take k).take q := by rw [List.take_take]; congr 1; omega
    rw [e] at hx
    exact hh x (List.mem_of_mem_take hx)
theorem res_some (s : ByteArray) (k : Nat) (h : k < s.size) (h7 : k < 7) (hh : ∀ x ∈ s.data.toList.take k, 128 ≤ x.toNat) (hc : s[k].toNat < 128) (hz : s[k].toNat ≠ 0 ∨ k = 0) : Res s.data.toList (val (s.data.toList.take (k + 1))) (k + 1) := by
  refine Or.inr ⟨by omega, by omega, by simp; omega, rfl, ?_⟩
  rw [take_snoc s k h, canon_snoc _ _ hh]
  rcases hz with hz | rfl
  · simp [hc, hz]
  · simp [hc]
set_option maxHeartbeats 1000000 in
set_option maxRecDepth 1000000 in
theorem idecv_any (s : ByteArray) (w : World) (hs : s.size ≤ maxLen) :
    Calls Tryd.prog 10 #[.string s] w (TwoInts s.data.toList w.heap.size w) := by
  unfold maxLen at hs
  by_cases hM : s.size ≤ 7
  · go_enter Tryd.func10, Tryd.ntmps10
    go_wp2
    go_loop [4, 5, 9] (fun n _ i => ∃ k : Nat, k ≤ s.size ∧ i = .int .i64 k ∧ n = .int .i64 (val (s.data.toList.take k)) ∧ Hid (∀ x ∈ s.data.toList.take k, 128 ≤ x.toNat)) (fun _ _ i => s.size - (intOf i).toNat)
    case atStart => exact ⟨0, Nat.zero_le _, rfl, rfl, Lib.hid (by simp)⟩
    case round =>
      obtain ⟨k, hk, rfl, rfl, HH⟩ := hrel
      by_cases hlt : k < s.size
      · have hks : k < s.size := by omega
        have h7 : k < 7 := by omega
        have hb : (s[k].toNat : Int) < 256 := by have := s[k].toNat_lt; omega
        have hv := val_lt2 s k
        have hvs := val_snoc s k hks
        have e1 : bits .and .u8 (s[k].toNat : Int) 127 = (s[k].toNat : Int) % 128 := u8_and127 _ (by omega) hb
        have e3 : bits .or .i64 (val (s.data.toList.take k) : Int) (wrap64 ((s[k].toNat : Int) % 128 * 2 ^ (7 * k))) = (val (s.data.toList.take (k + 1)) : Int) := by
          rw [wrap_shl _ k (by omega) (by omega) (by omega), hvs]; exact i64_or_hi _ _ k (by omega) (by omega) hv (by omega) (by omega)
        have HVS := Lib.hid hvs
        clear hv hvs
        by_cases h128 : 128 ≤ s[k].toNat
        · have HH1 := Lib.hid (high_snoc s k hks HH.out h128)
          go_wp2
          go_round
          case rel => exact ⟨k + 1, by omega, by go_num, rfl, HH1⟩
          case measure => simp [intOf]; omega
        · have hc128 : (s[k].toNat : Int) < 128 := by omega
          by_cases hz : s[k].toNat = 0 ∧ 0 < k
          · have HR := Lib.hid (res_zero s k hks hz.2 HH.out hz.1)
            have hz1 : ((s[k].toNat : Int) == 0) = true := by simp [hz.1]
            have hz2 : 0 < k := hz.2
            clear hz h128
            go_wp2
            go_ret2
            exact ⟨0, 0, rfl, HR.out, Below.refl _ _⟩
          · have HR := Lib.hid (res_some s k hks h7 HH.out (by omega) (by omega))
            by_cases hz0 : s[k].toNat = 0
            · have hk0 : ¬ 0 < k := fun h => hz ⟨hz0, h⟩
              have hz1 : ((s[k].toNat : Int) == 0) = true := by simp [hz0]
              have hz2 : decide (0 < k) = false := by simpa using hk0
              clear hz hz0 hk0 h128
              go_wp2
              go_ret2
              exact ⟨_, k + 1, rfl, HR.out, Below.refl _ _⟩
            · have hz1 : ((s[k].toNat : Int) == 0) = false := by simp; omega
              clear hz hz0 h128
              go_wp2
              go_ret2
              exact ⟨_, k + 1, rfl, HR.out, Below.refl _ _⟩
      · have HR := Lib.hid (res_none s k (by omega) HH.out)
        go_wp2
        go_ret2
        exact ⟨0, 0, rfl, HR.out, Below.refl _ _⟩
  · have hM7 : 7 < s.size := by omega
    clear hM
    go_enter Tryd.func10, Tryd.ntmps10
    go_wp2
    go_loop [4, 5, 9] (fun n _ i => ∃ k : Nat, k ≤ 7 ∧ i = .int .i64 k ∧ n = .int .i64 (val (s.data.toList.take k)) ∧ Hid (∀ x ∈ s.data.toList.take k, 128 ≤ x.toNat)) (fun _ _ i => 7 - (intOf i).toNat)
    case atStart => exact ⟨0, Nat.zero_le _, rfl, rfl, Lib.hid (by simp)⟩
    case round =>
      obtain ⟨k, hk, rfl, rfl, HH⟩ := hrel
      by_cases hlt : k < 7
      · have hks : k < s.size := by omega
        have h7 : k < 7 := by omega
        have hb : (s[k].toNat : Int) < 256 := by have := s[k].toNat_lt; omega
        have hv := val_lt2 s k
        have hvs := val_snoc s k hks
        have e1 : bits .and .u8 (s[k].toNat : Int) 127 = (s[k].toNat : Int) % 128 := u8_and127 _ (by omega) hb
        have e3 : bits .or .i64 (val (s.data.toList.take k) : Int) (wrap64 ((s[k].toNat : Int) % 128 * 2 ^ (7 * k))) = (val (s.data.toList.take (k + 1)) : Int) := by
          rw [wrap_shl _ k (by omega) (by omega) (by omega), hvs]; exact i64_or_hi _ _ k (by omega) (by omega) hv (by omega) (by omega)
        have HVS := Lib.hid hvs
        clear hv hvs
        by_cases h128 : 128 ≤ s[k].toNat
        · have HH1 := Lib.hid (high_snoc s k hks HH.out h128)
          go_wp2
          go_round
          case rel => exact ⟨k + 1, by omega, by go_num, rfl, HH1⟩
          case measure => simp [intOf]; omega
        · have hc128 : (s[k].toNat : Int) < 128 := by omega
          by_cases hz : s[k].toNat = 0 ∧ 0 < k
          · have HR := Lib.hid (res_zero s k hks hz.2 HH.out hz.1)
            have hz1 : ((s[k].toNat : Int) == 0) = true := by simp [hz.1]
            have hz2 : 0 < k := hz.2
            clear hz h128
            go_wp2
            go_ret2
            exact ⟨0, 0, rfl, HR.out, Below.refl _ _⟩
          · have HR := Lib.hid (res_some s k hks h7 HH.out (by omega) (by omega))
            by_cases hz0 : s[k].toNat = 0
            · have hk0 : ¬ 0 < k := fun h => hz ⟨hz0, h⟩
              have hz1 : ((s[k].toNat : Int) == 0) = true := by simp [hz0]
              have hz2 : decide (0 < k) = false := by simpa using hk0
              clear hz hz0 hk0 h128
              go_wp2
              go_ret2
              exact ⟨_, k + 1, rfl, HR.out, Below.refl _ _⟩
            · have hz1 : ((s[k].toNat : Int) == 0) = false := by simp; omega
              clear hz hz0 h128
              go_wp2
              go_ret2
              exact ⟨_, k + 1, rfl, HR.out, Below.refl _ _⟩
      · have HR := Lib.hid (res_none s k (by omega) HH.out)
        go_wp2
        go_ret2
        exact ⟨0, 0, rfl, HR.out, Below.refl _ _⟩
end Go.Proofs.YtlbijhfjlgafeaaDoor
