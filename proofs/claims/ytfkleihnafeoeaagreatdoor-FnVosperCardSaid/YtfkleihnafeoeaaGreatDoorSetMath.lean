/- Plain mathematics of sets as numbers: the bits of a number in ascending order, the lowest bit taken away, numbers built bit by bit. -/
import Derived.Test.YtfkleihnafeoeaaGreatDoorGrpMath2
import Derived.Lib.TrailingZeros
namespace Go.Proofs.YtfkleihnafeoeaaGreatDoor
/-- The bits of a below k, in ascending order. -/
def upK (a k : Nat) : List Nat := (List.range k).filter (fun i => a.testBit i)
theorem upK_zero (a : Nat) : upK a 0 = [] := rfl
theorem upK_succ (a k : Nat) : upK a (k + 1) = if a.testBit k = true then upK a k ++ [k] else upK a k := by
  unfold upK
  rw [List.range_succ, List.filter_append]
  cases h : a.testBit k <;> simp [h]
theorem upK_yes {a k : Nat} (h : a.testBit k = true) : upK a (k + 1) = upK a k ++ [k] := by rw [upK_succ, if_pos h]
theorem upK_no {a k : Nat} (h : a.testBit k = false) : upK a (k + 1) = upK a k := by rw [upK_succ, if_neg (by simp [h])]
theorem upK_same {a k : Nat} : ∀ m, (∀ i, k ≤ i → i < k + m → a.testBit i = false) → upK a (k + m) = upK a k
  | 0, _ => rfl
  | m + 1, h => by
    rw [show k + (m + 1) = k + m + 1 by omega, upK_no (h (k + m) (by omega) (by omega)), upK_same m (fun i h1 h2 => h i h1 (by omega))]
theorem upK_len (a k : Nat) : (upK a k).length ≤ k := by
  unfold upK
  exact Nat.le_trans (List.length_filter_le _ _) (by simp)
theorem upK_mem {a k x : Nat} (h : x ∈ upK a k) : x < k ∧ a.testBit x = true := by
  unfold upK at h
  rw [List.mem_filter, List.mem_range] at h
  exact h
theorem bit_iff (a k : Nat) : a.testBit k = true ↔ a / 2 ^ k % 2 = 1 := by
  rw [Nat.testBit_eq_decide_div_mod_eq]; simp
theorem bit_no {a k : Nat} (h : a < 2 ^ k) : ∀ i, k ≤ i → a.testBit i = false := fun i hi =>
  Nat.testBit_lt_two_pow (Nat.lt_of_lt_of_le h (Nat.pow_le_pow_right (by decide) hi))
/-- The bits of a number below 2^24. -/
def bitsN (a : Nat) : List Nat := upK a 24
theorem upK_full {a k : Nat} (h : a < 2 ^ k) (hk : k ≤ 24) : upK a k = bitsN a := by
  unfold bitsN
  obtain ⟨m, hm⟩ : ∃ m, 24 = k + m := ⟨24 - k, by omega⟩
  rw [hm, upK_same m (fun i h1 _ => bit_no h i h1)]
theorem div_zero {a k : Nat} (h : a / 2 ^ k = 0) : a < 2 ^ k := by
  rcases Nat.lt_or_ge a (2 ^ k) with h1 | h1
  · exact h1
  · have := Nat.div_pos h1 (Nat.two_pow_pos k); omega
/-- The bits from k on, in their places. -/
def restK (a k : Nat) : Nat := a / 2 ^ k * 2 ^ k
theorem restK_zero (a : Nat) : restK a 0 = a := by simp [restK]
theorem restK_le (a k : Nat) : restK a k ≤ a := Nat.div_mul_le_self a (2 ^ k)
theorem restK_bit (a k i : Nat) : (restK a k).testBit i = (decide (k ≤ i) && a.testBit i) := by
  unfold restK
  rw [Nat.testBit_mul_two_pow]
  by_cases h : k ≤ i
  · simp only [h, decide_true, Bool.true_and]
    rw [Nat.testBit_div_two_pow]
    congr 1; omega
  · simp [h]
/-- The lowest bit of what is left. -/
theorem rest_step {a k : Nat} (ha : a < 2 ^ 24) (h0 : restK a k ≠ 0) :
    ∃ t, Lib.ctz 64 (restK a k) = t ∧ k ≤ t ∧ t < 24 ∧ upK a (t + 1) = upK a k ++ [t] ∧ restK a k &&& (restK a k - 1) = restK a (t + 1) ∧ restK a (t + 1) < restK a k := by
  have hlt : restK a k < 2 ^ 64 := Nat.lt_of_le_of_lt (restK_le a k) (Nat.lt_of_lt_of_le ha (by decide))
  obtain ⟨m, hm, ht⟩ := Lib.ctzFrom_spec 64 (restK a k) (by omega) hlt
  have e : Lib.ctz 64 (restK a k) = Lib.ctzFrom 64 (restK a k) := by unfold Lib.ctz; rw [if_neg h0]
  rw [e]
  generalize Lib.ctzFrom 64 (restK a k) = t at hm ht
  have b1 : (restK a k).testBit t = true := by
    rw [hm, Nat.mul_comm, Nat.testBit_mul_two_pow]; simp
  have b0 : ∀ i, i < t → (restK a k).testBit i = false := fun i hi => by
    rw [hm, Nat.mul_comm, Nat.testBit_mul_two_pow]
    have : decide (t ≤ i) = false := by simp; omega
    rw [this]; rfl
  rw [restK_bit] at b1
  simp only [Bool.and_eq_true, decide_eq_true_eq] at b1
  obtain ⟨hk, hb⟩ := b1
  have ht24 : t < 24 := by
    rcases Nat.lt_or_ge t 24 with h | h
    · exact h
    · rw [bit_no ha t h] at hb; cases hb
  have hz : ∀ i, k ≤ i → i < t → a.testBit i = false := fun i h1 h2 => by
    have := b0 i h2
    rw [restK_bit] at this
    simpa [h1] using this
  have hu : upK a t = upK a k := by
    obtain ⟨d, hd⟩ : ∃ d, t = k + d := ⟨t - k, by omega⟩
    rw [hd, upK_same d (fun i h1 h2 => hz i h1 (by omega))]
  have hand : restK a k &&& (restK a k - 1) = restK a (t + 1) := by
    apply Nat.eq_of_testBit_eq
    intro i
    rw [Nat.testBit_and, restK_bit a (t + 1)]
    have e1 : restK a k - 1 = 2 ^ t * (2 * m) + (2 ^ t - 1) := by
      rw [hm, Nat.mul_add, Nat.mul_one]
      have := Nat.two_pow_pos t
      omega
    rcases Nat.lt_trichotomy i t with h | h | h
    · rw [b0 i h]
      have : decide (t + 1 ≤ i) = false := by simp; omega
      rw [this]; rfl
    · subst h
      have : decide (i + 1 ≤ i) = false := by simp
      rw [this, e1, Nat.testBit_two_pow_mul_add _ (by have := Nat.two_pow_pos i; omega), if_neg (by omega)]
      simp
    · have h1 : decide (t + 1 ≤ i) = true := by simp; omega
      have h2 : (restK a k - 1).testBit i = (restK a k).testBit i := by
        rw [e1, hm, Nat.testBit_two_pow_mul_add _ (by have := Nat.two_pow_pos t; omega), if_neg (by omega), Nat.mul_comm (2 ^ t) (2 * m + 1), Nat.testBit_mul_two_pow]
        have h3 : decide (t ≤ i) = true := by simp; omega
        rw [h3, Bool.true_and]
        obtain ⟨j, hj⟩ : ∃ j, i - t = j + 1 := ⟨i - t - 1, by omega⟩
        rw [hj, Nat.testBit_succ, Nat.testBit_succ]
        congr 1; omega
      rw [h1, h2, Bool.and_self, restK_bit]
      have h4 : decide (k ≤ i) = true := by simp; omega
      rw [h4]
  refine ⟨t, rfl, hk, ht24, by rw [upK_yes hb, hu], hand, ?_⟩
  rw [← hand]
  have := Nat.and_le_right (n := restK a k) (m := restK a k - 1)
  omega
theorem restK_end {a k : Nat} (h : restK a k = 0) (hk : k ≤ 24) : upK a k = bitsN a := by
  refine upK_full (div_zero ?_) hk
  unfold restK at h
  rcases Nat.mul_eq_zero.1 h with h | h
  · exact h
  · have := Nat.two_pow_pos k; omega
/-- A number with the bits f of the elements of a list. -/
def orF (f : Nat → Int) (L : List Nat) : Nat := L.foldl (fun s x => s ||| 2 ^ (f x).toNat) 0
theorem orF_nil (f : Nat → Int) : orF f [] = 0 := rfl
theorem orF_snoc (f : Nat → Int) (L : List Nat) (x : Nat) : orF f (L ++ [x]) = orF f L ||| 2 ^ (f x).toNat := by simp [orF]
theorem orF_lt (f : Nat → Int) (L : List Nat) (k : Nat) (h : ∀ x ∈ L, (f x).toNat < k) : orF f L < 2 ^ k := by
  unfold orF
  have : ∀ (L : List Nat) (s : Nat), s < 2 ^ k → (∀ x ∈ L, (f x).toNat < k) → L.foldl (fun s x => s ||| 2 ^ (f x).toNat) s < 2 ^ k := by
    intro L
    induction L with
    | nil => intro s hs _; exact hs
    | cons x t ih =>
      intro s hs hx
      rw [List.foldl_cons]
      exact ih _ (Nat.or_lt_two_pow hs (Nat.pow_lt_pow_right (by decide) (hx x (by simp)))) (fun y hy => hx y (by simp [hy]))
  exact this L 0 (Nat.two_pow_pos k) h
theorem orF_congr (f g : Nat → Int) (L : List Nat) (h : ∀ x ∈ L, f x = g x) : orF f L = orF g L := by
  unfold orF
  have : ∀ (L : List Nat) (s : Nat), (∀ x ∈ L, f x = g x) → L.foldl (fun s x => s ||| 2 ^ (f x).toNat) s = L.foldl (fun s x => s ||| 2 ^ (g x).toNat) s := by
    intro L
    induction L with
    | nil => intro s _; rfl
    | cons x t ih =>
      intro s hx
      rw [List.foldl_cons, List.foldl_cons, hx x (by simp)]
      exact ih _ (fun y hy => hx y (by simp [hy]))
  exact this L 0 h
/-- The number of the full set. -/
def fullN (l : List Int) : Int := 2 ^ (prodI l).toNat - 1
/-- Whether a is the number of a set of elements. -/
def isS (l : List Int) (a : Int) : Bool := grpB l && (decide (0 ≤ a) && decide (a ≤ fullN l))
theorem pow_nat (k : Nat) : (2 : Int) ^ k = ((2 ^ k : Nat) : Int) := by simp
theorem pow_le24 {k : Nat} (h : k ≤ 24) : 2 ^ k ≤ 16777216 := by
  have h2 : 2 ^ k ≤ 2 ^ 24 := Nat.pow_le_pow_right (by decide) h
  exact Nat.le_trans h2 (by decide)
theorem fullN_nat (l : List Int) : fullN l = ((2 ^ (prodI l).toNat : Nat) : Int) - 1 := by unfold fullN; rw [pow_nat]
theorem isS_true {l : List Int} {a : Int} (h : isS l a = true) : grpB l = true ∧ ∃ n : Nat, a = (n : Int) ∧ n < 2 ^ (prodI l).toNat ∧ n < 2 ^ 24 := by
  simp only [isS, Bool.and_eq_true, decide_eq_true_eq, fullN_nat] at h
  obtain ⟨hg, h0, h1⟩ := h
  have hp := (grpB_true hg).2.2
  have h2 := pow_le24 (k := (prodI l).toNat) (by omega)
  have h3 : (2 : Nat) ^ 24 = 16777216 := by decide
  rw [h3]
  generalize 2 ^ (prodI l).toNat = N at *
  exact ⟨hg, a.toNat, by omega, by omega, by omega⟩
end Go.Proofs.YtfkleihnafeoeaaGreatDoor
