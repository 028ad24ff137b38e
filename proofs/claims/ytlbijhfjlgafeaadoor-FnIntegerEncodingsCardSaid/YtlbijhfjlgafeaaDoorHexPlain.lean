/- Plain mathematics of hexadecimal digits: what a byte stands for, what a list of digits decodes to. -/
import Derived.Test.YtlbijhfjlgafeaaDoorEncHex
namespace Go.Proofs.YtlbijhfjlgafeaaDoor
open Go.RowKit
def hexV (c : Nat) : Option Nat := if 48 ≤ c ∧ c ≤ 57 then some (c - 48) else if 97 ≤ c ∧ c ≤ 102 then some (c - 87) else none
theorem hexV_some {c v : Nat} (h : hexV c = some v) : v < 16 ∧ ((48 ≤ c ∧ c ≤ 57 ∧ c = 48 + v) ∨ (97 ≤ c ∧ c ≤ 102 ∧ c = 87 + v)) := by
  unfold hexV at h
  split at h
  · have := Option.some.inj h; omega
  · split at h
    · have := Option.some.inj h; omega
    · cases h
theorem hexV_none {c : Nat} (h : hexV c = none) : c < 48 ∨ (57 < c ∧ c < 97) ∨ 102 < c := by
  unfold hexV at h
  split at h
  · cases h
  · split at h
    · cases h
    · omega
theorem hexD_nat (k : Nat) (h : k < 16) : (hexD k).toNat = if k < 10 then 48 + k else 87 + k := by
  unfold hexD
  split <;> (rw [UInt8.toNat_ofNat']; omega)
theorem hexV_hexD (k : Nat) (h : k < 16) : hexV (hexD k).toNat = some k := by
  rw [hexD_nat k h]; unfold hexV
  split <;> split
  · congr 1; omega
  · omega
  · omega
  · rw [if_pos (by omega)]; congr 1; omega
theorem hexD_of {c k : Nat} (h : hexV c = some k) : (hexD k).toNat = c := by
  obtain ⟨h16, h⟩ := hexV_some h
  rw [hexD_nat k h16]
  rcases h with h | h
  · rw [if_pos (by omega)]; omega
  · rw [if_neg (by omega)]; omega
/-- What byte number i of the list stands for (0 where it is no digit). -/
def nib (l : List UInt8) (i : Nat) : Nat := (hexV (l.getD i 0).toNat).getD 0
theorem nib_lt (l : List UInt8) (i : Nat) : nib l i < 16 := by
  unfold nib
  cases h : hexV (l.getD i 0).toNat with
  | none => simp
  | some v => exact (hexV_some h).1
theorem nib_of (l : List UInt8) (i v : Nat) (h : hexV (l.getD i 0).toNat = some v) : nib l i = v := by unfold nib; rw [h]; rfl
def decL (l : List UInt8) (m : Nat) : List UInt8 := (List.range m).map fun q => UInt8.ofNat (16 * nib l (2 * q) + nib l (2 * q + 1))
theorem decL_len (l : List UInt8) (m : Nat) : (decL l m).length = m := by simp [decL]
theorem decL_succ (l : List UInt8) (m : Nat) : decL l (m + 1) = decL l m ++ [UInt8.ofNat (16 * nib l (2 * m) + nib l (2 * m + 1))] := by simp [decL, List.range_succ]
/-- The list is the hexadecimal text of a string. -/
def IsHex (l : List UInt8) : Prop := l.length % 2 = 0 ∧ ∀ i, i < l.length → hexV (l.getD i 0).toNat ≠ none
/-- What both texts answer. -/
def PostHex (l : List UInt8) (W : Nat) (w : World) (e : Ending) (w' : World) : Prop :=
  Below W w w' ∧ ((IsHex l ∧ e = .returned (.tuple #[strV (decL l (l.length / 2)), .bool true])) ∨ (¬ IsHex l ∧ e = .returned (.tuple #[strV [], .bool false])))
theorem getD_at (s : ByteArray) (k : Nat) (h : k < s.size) : s.data.toList.getD k 0 = s[k] := by
  simp only [List.getD, List.getElem?_eq_getElem (show k < s.data.toList.length by simpa using h), Option.getD_some]
  rw [Array.getElem_toList]; rfl
theorem not_hex_at (s : ByteArray) (k : Nat) (h : k < s.size) (hc : hexV s[k].toNat = none) : ¬ IsHex s.data.toList := by
  intro hh
  have := hh.2 k (by simpa using h)
  rw [getD_at s k h] at this
  exact this hc
theorem len_size (s : ByteArray) : s.data.toList.length = s.size := by simp
/-- What cell q of the new row holds after k digits. -/
def cellH (l : List UInt8) (k q : Nat) : Nat := if 2 * q + 2 ≤ k then 16 * nib l (2 * q) + nib l (2 * q + 1) else if 2 * q + 1 = k then nib l (2 * q) else 0
def rowH (l : List UInt8) (m k : Nat) : List Value := (List.range m).map fun q => .int .u8 (cellH l k q : Int)
theorem rowH_zero (l : List UInt8) (m : Nat) : rowH l m 0 = (madeCells #[Value.int .u8 0] m).toList := by
  rw [toList_madeCells_one]
  unfold rowH cellH
  apply List.ext_getElem <;> simp
theorem rowH_full (l : List UInt8) (m : Nat) : rowH l m (2 * m) = (decL l m).map byteV := by
  unfold rowH decL
  rw [List.map_map]
  apply List.map_congr_left
  intro q hq
  have hq' : q < m := by simpa using hq
  have h1 := nib_lt l (2 * q)
  have h2 := nib_lt l (2 * q + 1)
  have e : cellH l (2 * m) q = 16 * nib l (2 * q) + nib l (2 * q + 1) := by unfold cellH; rw [if_pos (by omega)]
  simp only [Function.comp_apply, byteV, e, UInt8.toNat_ofNat']
  congr 2
  omega
theorem rowH_at (l : List UInt8) (m k : Nat) (h : k / 2 < m) : (rowH l m k)[k / 2]? = some (.int .u8 (cellH l k (k / 2) : Int)) := by
  unfold rowH; simp [h]
theorem cellH_step (l : List UInt8) (k : Nat) : cellH l (k + 1) (k / 2) = 16 * cellH l k (k / 2) + nib l k := by
  unfold cellH
  by_cases h : k % 2 = 0
  · rw [if_neg (by omega), if_pos (by omega), if_neg (by omega), if_neg (by omega)]
    simp; congr 1; omega
  · rw [if_pos (by omega), if_neg (by omega), if_pos (by omega)]
    congr 2; omega
theorem cellH_small (l : List UInt8) (k : Nat) : cellH l k (k / 2) < 16 := by
  unfold cellH
  have := nib_lt l (2 * (k / 2))
  split
  · omega
  · split <;> omega
theorem rowH_set (l : List UInt8) (m k : Nat) : (rowH l m k).set (k / 2) (.int .u8 (cellH l (k + 1) (k / 2) : Int)) = rowH l m (k + 1) := by
  unfold rowH
  apply List.ext_getElem
  · simp
  · intro q h1 h2
    by_cases e : k / 2 = q
    · subst e; simp
    · have : cellH l (k + 1) q = cellH l k q := by
        unfold cellH
        by_cases h : 2 * q + 2 ≤ k
        · rw [if_pos h, if_pos (by omega)]
        · rw [if_neg h, if_neg (by omega), if_neg (by omega), if_neg (by omega)]
      simp [e, this]
end Go.Proofs.YtlbijhfjlgafeaaDoor
