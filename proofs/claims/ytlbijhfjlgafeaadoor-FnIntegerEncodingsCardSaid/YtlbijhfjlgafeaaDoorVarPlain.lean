/- Plain mathematics of varints: which lists of bytes are the varint of the number that their groups make, and that of two prefixes of one list at most one is. -/
import Derived.Test.YtlbijhfjlgafeaaDoorEncVarint
namespace Go.Proofs.YtlbijhfjlgafeaaDoor
def val : List UInt8 → Nat
  | [] => 0
  | b :: l => b.toNat % 128 + 128 * val l
def tailL : List UInt8 → Bool
  | [] => false
  | [b] => decide (b.toNat < 128) && decide (b.toNat ≠ 0)
  | b :: c :: l => decide (128 ≤ b.toNat) && tailL (c :: l)
def canonL : List UInt8 → Bool
  | [] => false
  | [b] => decide (b.toNat < 128)
  | b :: c :: l => decide (128 ≤ b.toNat) && tailL (c :: l)
theorem val_append (l m : List UInt8) : val (l ++ m) = val l + 128 ^ l.length * val m := by
  induction l with
  | nil => simp [val]
  | cons b l ih => simp only [List.cons_append, val, ih, List.length_cons, Nat.pow_succ, Nat.mul_add]; rw [Nat.mul_comm (128 ^ l.length) 128, Nat.mul_assoc]; omega
theorem val_lt (l : List UInt8) : val l < 128 ^ l.length := by
  induction l with
  | nil => simp [val]
  | cons b l ih => simp only [val, List.length_cons, Nat.pow_succ]; have := Nat.mod_lt b.toNat (by decide : 128 > 0); omega
theorem tail_pos : ∀ l : List UInt8, tailL l = true → 1 ≤ val l
  | [], h => by simp [tailL] at h
  | [b], h => by simp [tailL, val] at h ⊢; omega
  | b :: c :: l, h => by
    simp [tailL] at h
    have := tail_pos (c :: l) h.2
    have e : val (b :: c :: l) = b.toNat % 128 + 128 * val (c :: l) := rfl
    omega
theorem u8_eq {a b : UInt8} (h : a.toNat = b.toNat) : a = b := UInt8.toNat_inj.1 h
theorem ofNat_big (b : UInt8) (h : 128 ≤ b.toNat) : UInt8.ofNat (128 + b.toNat % 128) = b := by
  apply u8_eq; have := b.toNat_lt; rw [UInt8.toNat_ofNat']; omega
theorem vint_cons (b : UInt8) (n : Nat) (h : 128 ≤ b.toNat) (hn : 1 ≤ n) : vint (b.toNat % 128 + 128 * n) = b :: vint n := by
  rw [vint_step _ (by omega), show (b.toNat % 128 + 128 * n) % 128 = b.toNat % 128 by omega, show (b.toNat % 128 + 128 * n) / 128 = n by omega, ofNat_big b h]
theorem vint_tail : ∀ l : List UInt8, tailL l = true → vint (val l) = l
  | [], h => by simp [tailL] at h
  | [b], h => by
    simp [tailL] at h
    simp only [val, Nat.mul_zero, Nat.add_zero, Nat.mod_eq_of_lt h.1]
    rw [vint_small _ h.1]; simp
  | b :: c :: l, h => by
    simp [tailL] at h
    have e : val (b :: c :: l) = b.toNat % 128 + 128 * val (c :: l) := rfl
    rw [e, vint_cons b _ h.1 (tail_pos _ h.2), vint_tail (c :: l) h.2]
theorem vint_canon : ∀ l : List UInt8, canonL l = true → vint (val l) = l
  | [], h => by simp [canonL] at h
  | [b], h => by
    simp [canonL] at h
    simp only [val, Nat.mul_zero, Nat.add_zero, Nat.mod_eq_of_lt h]
    rw [vint_small _ h]; simp
  | b :: c :: l, h => by
    simp [canonL] at h
    have e : val (b :: c :: l) = b.toNat % 128 + 128 * val (c :: l) := rfl
    rw [e, vint_cons b _ h.1 (tail_pos _ h.2), vint_tail (c :: l) h.2]
theorem vint_is_tail (n : Nat) (h : 1 ≤ n) : tailL (vint n) = true := by
  induction n using Nat.strongRecOn with
  | _ n ih =>
    by_cases hs : n < 128
    · rw [vint_small n hs]; simp [tailL, UInt8.toNat_ofNat']; omega
    · rw [vint_step n hs]
      have h2 := ih (n / 128) (by omega) (by omega)
      cases hv : vint (n / 128) with
      | nil => rw [hv] at h2; simp [tailL] at h2
      | cons c l => rw [hv] at h2; simp [tailL, h2, UInt8.toNat_ofNat']; omega
theorem vint_is_canon (n : Nat) : canonL (vint n) = true := by
  by_cases hs : n < 128
  · rw [vint_small n hs]; simp [canonL, UInt8.toNat_ofNat']; omega
  · rw [vint_step n hs]
    have h2 := vint_is_tail (n / 128) (by omega)
    cases hv : vint (n / 128) with
    | nil => rw [hv] at h2; simp [tailL] at h2
    | cons c l => rw [hv] at h2; simp [canonL, h2, UInt8.toNat_ofNat']; omega
theorem val_vint (n : Nat) : val (vint n) = n := by
  induction n using Nat.strongRecOn with
  | _ n ih =>
    by_cases hs : n < 128
    · rw [vint_small n hs]; simp [val, UInt8.toNat_ofNat']; omega
    · rw [vint_step n hs]
      simp only [val, ih (n / 128) (by omega), UInt8.toNat_ofNat']; omega
theorem canon_iff (l : List UInt8) : vint (val l) = l ↔ canonL l = true :=
  ⟨fun h => by rw [← h]; exact vint_is_canon _, vint_canon l⟩
/-- All groups so far go on, one more byte. -/
theorem tail_snoc (b : UInt8) : ∀ l : List UInt8, (∀ x ∈ l, 128 ≤ x.toNat) → tailL (l ++ [b]) = (decide (b.toNat < 128) && decide (b.toNat ≠ 0))
  | [], _ => rfl
  | [x], h => by have := h x (by simp); simp [tailL, this]
  | x :: c :: l, h => by
    have h1 := h x (by simp)
    have h2 := tail_snoc b (c :: l) (fun y hy => h y (by simp at hy ⊢; right; exact hy))
    have e : tailL (x :: c :: l ++ [b]) = (decide (128 ≤ x.toNat) && tailL (c :: l ++ [b])) := rfl
    rw [e, h2]; simp [h1]
theorem canon_snoc (b : UInt8) : ∀ l : List UInt8, (∀ x ∈ l, 128 ≤ x.toNat) → canonL (l ++ [b]) = (decide (b.toNat < 128) && (l.isEmpty || decide (b.toNat ≠ 0)))
  | [], _ => by simp [canonL]
  | x :: l, h => by
    have h1 := h x (by simp)
    have h2 := tail_snoc b l (fun y hy => h y (by simp [hy]))
    cases l with
    | nil => simp [canonL, tailL, h1]
    | cons c l =>
      have e : canonL (x :: c :: l ++ [b]) = (decide (128 ≤ x.toNat) && tailL (c :: l ++ [b])) := rfl
      rw [e, h2]; simp [h1]
theorem tail_mid (b c : UInt8) (m : List UInt8) (hb : b.toNat < 128) : ∀ l : List UInt8, tailL (l ++ b :: c :: m) = false
  | [] => by simp [tailL]; omega
  | [x] => by simp [tailL]; omega
  | x :: y :: l => by
    have h := tail_mid b c m hb (y :: l)
    have e : tailL (x :: y :: l ++ b :: c :: m) = (decide (128 ≤ x.toNat) && tailL (y :: l ++ b :: c :: m)) := rfl
    rw [e, h]; simp
theorem canon_mid (b c : UInt8) (m : List UInt8) (hb : b.toNat < 128) : ∀ l : List UInt8, canonL (l ++ b :: c :: m) = false
  | [] => by simp [canonL]; omega
  | [x] => by simp [canonL, tailL]; omega
  | x :: y :: l => by
    have h := tail_mid b c m hb (y :: l)
    have e : canonL (x :: y :: l ++ b :: c :: m) = (decide (128 ≤ x.toNat) && tailL (y :: l ++ b :: c :: m)) := rfl
    rw [e, h]; simp
theorem tail_last : ∀ l : List UInt8, tailL l = true → ∃ p b, l = p ++ [b] ∧ b.toNat < 128
  | [], h => by simp [tailL] at h
  | [b], h => by simp [tailL] at h; exact ⟨[], b, rfl, h.1⟩
  | x :: c :: l, h => by
    simp [tailL] at h
    obtain ⟨p, b, e, hb⟩ := tail_last (c :: l) h.2
    exact ⟨x :: p, b, by rw [e]; rfl, hb⟩
theorem canon_last : ∀ l : List UInt8, canonL l = true → ∃ p b, l = p ++ [b] ∧ b.toNat < 128
  | [], h => by simp [canonL] at h
  | [b], h => by simp [canonL] at h; exact ⟨[], b, rfl, h⟩
  | x :: c :: l, h => by
    simp [canonL] at h
    obtain ⟨p, b, e, hb⟩ := tail_last (c :: l) h.2
    exact ⟨x :: p, b, by rw [e]; rfl, hb⟩
/-- A proper prefix of a varint is none. -/
theorem canon_prefix (l m : List UInt8) (h : canonL l = true) (hm : m ≠ []) : canonL (l ++ m) = false := by
  obtain ⟨p, b, e, hb⟩ := canon_last l h
  subst e
  cases m with
  | nil => exact absurd rfl hm
  | cons c m => simpa using canon_mid b c m hb p
theorem canon_unique (l : List UInt8) (j k : Nat) (hj : canonL (l.take j) = true) (hk : canonL (l.take k) = true) (hjl : j ≤ l.length) (hkl : k ≤ l.length) : j = k := by
  have aux : ∀ j k : Nat, j < k → k ≤ l.length → canonL (l.take j) = true → canonL (l.take k) = true → False := by
    intro j k hlt hkl h1 h2
    have e : l.take k = l.take j ++ (l.drop j).take (k - j) := by
      rw [← List.take_add]; congr 1; omega
    rw [e, canon_prefix _ _ h1 (by intro h; have := congrArg List.length h; simp at this; omega)] at h2
    cases h2
  rcases Nat.lt_trichotomy j k with h | h | h
  · exact (aux j k h hkl hj hk).elim
  · exact h
  · exact (aux k j h hjl hk hj).elim
/-- What both texts answer: the number and the length of the prefix that is a varint of at most seven bytes, or 0 and 0 where none is. -/
def Res (l : List UInt8) (n k : Nat) : Prop :=
  (k = 0 ∧ n = 0 ∧ ∀ q, 1 ≤ q → q ≤ 7 → q ≤ l.length → canonL (l.take q) = false) ∨ (1 ≤ k ∧ k ≤ 7 ∧ k ≤ l.length ∧ n = val (l.take k) ∧ canonL (l.take k) = true)
theorem Res.unique {l : List UInt8} {n k n' k' : Nat} (h : Res l n k) (h' : Res l n' k') : n = n' ∧ k = k' := by
  rcases h with ⟨rfl, rfl, h⟩ | ⟨h1, h7, hl, rfl, hc⟩ <;> rcases h' with ⟨rfl, rfl, h'⟩ | ⟨h1', h7', hl', rfl, hc'⟩
  · exact ⟨rfl, rfl⟩
  · rw [h _ h1' h7' hl'] at hc'; cases hc'
  · rw [h' _ h1 h7 hl] at hc; cases hc
  · obtain rfl := canon_unique l k k' hc hc' hl hl'; exact ⟨rfl, rfl⟩
theorem canon_high (l : List UInt8) (h : ∀ x ∈ l, 128 ≤ x.toNat) : canonL l = false := by
  cases hc : canonL l with
  | false => rfl
  | true =>
    obtain ⟨p, b, e, hb⟩ := canon_last l hc
    have := h b (by rw [e]; simp)
    omega
end Go.Proofs.YtlbijhfjlgafeaaDoor
