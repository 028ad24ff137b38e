/- Plain mathematics of decimal numerals: which strings are read back, and as what. -/
import Derived.Test.YthoiabdndaoflabDoorItoa
namespace Go.Proofs.YthoiabdndaoflabDoor
open Go.RowKit
def isD (c : UInt8) : Bool := decide (48 ≤ c.toNat) && decide (c.toNat ≤ 57)
def stepN (a : Nat) (c : UInt8) : Nat := if isD c then a * 10 + (c.toNat - 48) else a
def sval (l : List UInt8) : Nat := l.foldl stepN 0
def cnt (l : List UInt8) : Nat := (l.filter isD).length
theorem sval_snoc (l : List UInt8) (c : UInt8) : sval (l ++ [c]) = stepN (sval l) c := by simp [sval]
theorem cnt_snoc (l : List UInt8) (c : UInt8) : cnt (l ++ [c]) = cnt l + (if isD c then 1 else 0) := by
  unfold cnt; rw [List.filter_append]; cases h : isD c <;> simp [h]
theorem cnt_le (l : List UInt8) : cnt l ≤ l.length := List.length_filter_le _ _
theorem isD_iff (c : UInt8) : isD c = true ↔ 48 ≤ c.toNat ∧ c.toNat ≤ 57 := by simp [isD]
theorem step_lt (a b : Nat) (c : UInt8) (h : a < b) : stepN a c < b * 10 := by
  unfold stepN
  split
  · rename_i hd; have := (isD_iff c).1 hd; omega
  · omega
theorem sval_lt (l : List UInt8) : sval l < 10 ^ l.length := by
  have aux : ∀ (l : List UInt8) (a n : Nat), a < 10 ^ n → l.foldl stepN a < 10 ^ (n + l.length) := by
    intro l
    induction l with
    | nil => intro a n h; simpa using h
    | cons c l ih =>
      intro a n h
      have := ih (stepN a c) (n + 1) (by rw [Nat.pow_succ]; exact step_lt a _ c h)
      simpa [Nat.add_assoc, Nat.add_comm 1] using this
  simpa [sval] using aux l 0 0 (by simp)
theorem pow10_le (a b : Nat) (h : a ≤ b) : 10 ^ a ≤ 10 ^ b := Nat.pow_le_pow_right (by decide) h
theorem dig_isD (u : Nat) (h : u < 10) : isD (UInt8.ofNat (48 + u)) = true ∧ (UInt8.ofNat (48 + u)).toNat = 48 + u := by
  have e : (UInt8.ofNat (48 + u)).toNat = 48 + u := by rw [UInt8.toNat_ofNat']; omega
  exact ⟨(isD_iff _).2 (by omega), e⟩
theorem dec_facts (u : Nat) : sval (Lib.decDigits u) = u ∧ (∀ c ∈ Lib.decDigits u, isD c = true) := by
  induction u using Nat.strongRecOn with
  | _ u ih =>
    by_cases h : u < 10
    · rw [Lib.decDigits_one h]
      obtain ⟨h1, h2⟩ := dig_isD u h
      refine ⟨?_, by intro c hc; simp at hc; rw [hc]; simpa using h1⟩
      have e : sval [UInt8.ofNat (48 + u)] = stepN 0 (UInt8.ofNat (48 + u)) := rfl
      rw [e]; unfold stepN; rw [if_pos h1, h2]; omega
    · have e : Lib.decDigits u = Lib.decDigits (u / 10) ++ [UInt8.ofNat (48 + u % 10)] := by rw [Lib.decDigits, dif_neg h]
      obtain ⟨i1, i2⟩ := ih (u / 10) (by omega)
      obtain ⟨h1, h2⟩ := dig_isD (u % 10) (by omega)
      rw [e, sval_snoc, i1]
      refine ⟨by unfold stepN; rw [if_pos h1, h2]; omega, fun c hc => ?_⟩
      rcases List.mem_append.1 hc with hc | hc
      · exact i2 c hc
      · rw [List.mem_singleton.1 hc]; exact h1
theorem cnt_all (l : List UInt8) (h : ∀ c ∈ l, isD c = true) : cnt l = l.length := by
  unfold cnt; rw [List.filter_eq_self.2 h]
def negL : List UInt8 → Bool
  | [] => false
  | c :: _ => c == 45
def vOf (l : List UInt8) : Int := if negL l then -(sval l : Int) else (sval l : Int)
def digL (l : List UInt8) : List UInt8 := if negL l then l.tail else l
theorem isD45 : isD 45 = false := by decide
theorem sval_neg (l : List UInt8) : sval (45 :: l) = sval l := rfl
theorem cnt_neg (l : List UInt8) : cnt (45 :: l) = cnt l := by unfold cnt; simp [isD45]
theorem negL_cons {l : List UInt8} (h : negL l = true) : l = 45 :: l.tail := by
  cases l with
  | nil => cases h
  | cons c l => simp [negL] at h; rw [h]; rfl
theorem sval_digL (l : List UInt8) : sval (digL l) = sval l := by
  unfold digL
  cases h : negL l with
  | true =>
    have := negL_cons h
    rw [if_pos rfl]
    conv => rhs; rw [this]
    rw [sval_neg]
  | false => rfl
theorem cnt_digL (l : List UInt8) : cnt (digL l) = cnt l := by
  unfold digL
  cases h : negL l with
  | true =>
    have := negL_cons h
    rw [if_pos rfl]
    conv => rhs; rw [this]
    rw [cnt_neg]
  | false => rfl
theorem dec_head (u : Nat) : negL (Lib.decDigits u) = false := by
  cases h : Lib.decDigits u with
  | nil => rfl
  | cons c l =>
    have := (dec_facts u).2 c (by rw [h]; simp)
    simp only [negL, beq_eq_false_iff_ne, ne_eq]
    intro e; rw [e] at this; revert this; decide
theorem itoa_shape (n : Int) : vOf (Lib.itoa n) = n ∧ digL (Lib.itoa n) = Lib.decDigits n.natAbs := by
  by_cases hn : n < 0
  · obtain ⟨u, rfl⟩ : ∃ u : Nat, n = -(u : Int) := ⟨n.natAbs, by omega⟩
    rw [Lib.itoa_neg u (by omega)]
    have h45 : negL (45 :: Lib.decDigits u) = true := rfl
    unfold vOf digL
    rw [h45, if_pos rfl, if_pos rfl, sval_neg, (dec_facts u).1]
    refine ⟨rfl, ?_⟩
    show Lib.decDigits u = _
    congr 1; omega
  · obtain ⟨u, rfl⟩ : ∃ u : Nat, n = (u : Int) := ⟨n.toNat, by omega⟩
    rw [Lib.itoa_nonneg u]
    unfold vOf digL
    rw [dec_head u, (dec_facts u).1]
    exact ⟨rfl, by simp⟩
/-- What the reader of digits takes. -/
def pdB (l : List UInt8) : Bool := decide (1 ≤ l.length) && decide (l.length ≤ 9) && l.all isD
/-- What both texts take. -/
def accB (l : List UInt8) : Bool := decide (cnt l ≤ 9) && decide (l.length ≤ 10) && (Lib.itoa (vOf l) == l)
def resV (l : List UInt8) : Int := if accB l then vOf l else 0
theorem len_digL (l : List UInt8) : l.length ≤ (digL l).length + 1 := by
  unfold digL; split
  · cases l <;> simp
  · omega
theorem acc_iff (l : List UInt8) : accB l = (pdB (digL l) && (Lib.itoa (vOf l) == l)) := by
  cases he : (Lib.itoa (vOf l) == l) with
  | false => simp [accB, he]
  | true =>
    have e : Lib.itoa (vOf l) = l := by simpa using he
    have hd : digL l = Lib.decDigits (vOf l).natAbs := by
      have h := (itoa_shape (vOf l)).2
      rw [e] at h
      exact h
    have hall := (dec_facts (vOf l).natAbs).2
    have hc : cnt l = (digL l).length := by rw [← cnt_digL, hd, cnt_all _ hall]
    have h1 : 1 ≤ (digL l).length := by rw [hd, Lib.decDigits_length]; exact Lib.nDigits_pos _
    have h2 := len_digL l
    have hA : (digL l).all isD = true := by rw [hd]; exact List.all_eq_true.2 hall
    unfold accB pdB
    rw [he, hA, hc]
    by_cases h9 : (digL l).length ≤ 9
    · have h10 : l.length ≤ 10 := by omega
      simp [h9, h10, h1]
    · simp [h9]
end Go.Proofs.YthoiabdndaoflabDoor
