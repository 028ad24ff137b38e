/- What chapter 6 says of the numbers: stabilizers, core parts, quotients. -/
import Derived.Test.YtfkleihnafeoeaaGreatDoorCosSpec
import Derived.Test.YtfkleihnafeoeaaGreatDoorExtMath
namespace Go.Proofs.YtfkleihnafeoeaaGreatDoor
open Go.RowKit
/-- Those of the first k elements that shift s onto itself. -/
def stK (l : List Int) (s k : Nat) : Nat := orF (fun x : Nat => (x : Int)) ((List.range k).filter fun y => movN l s y == s)
theorem stK_zero (l : List Int) (s : Nat) : stK l s 0 = 0 := rfl
theorem stK_yes {l : List Int} {s k : Nat} (h : movN l s k = s) : stK l s (k + 1) = stK l s k ||| 2 ^ k := by
  unfold stK
  rw [List.range_succ, List.filter_append]
  have : [k].filter (fun y => movN l s y == s) = [k] := by simp [h]
  rw [this, orF_snoc, Int.toNat_natCast]
theorem stK_no {l : List Int} {s k : Nat} (h : movN l s k ≠ s) : stK l s (k + 1) = stK l s k := by
  unfold stK
  rw [List.range_succ, List.filter_append]
  have : [k].filter (fun y => movN l s y == s) = [] := by simp [h]
  rw [this, List.append_nil]
theorem stK_bit (l : List Int) (s k y : Nat) : (stK l s k).testBit y = true ↔ y < k ∧ movN l s y = s := by
  unfold stK
  rw [orF_bit]
  constructor
  · rintro ⟨x, hx, rfl⟩
    rw [List.mem_filter, List.mem_range, beq_iff_eq] at hx
    rw [Int.toNat_natCast]
    exact hx
  · rintro ⟨h1, h2⟩
    exact ⟨y, by rw [List.mem_filter, List.mem_range, beq_iff_eq]; exact ⟨h1, h2⟩, Int.toNat_natCast y⟩
theorem stK_lt (l : List Int) (s k : Nat) : stK l s k < 2 ^ k := by
  unfold stK
  refine orF_lt _ _ k fun x hx => ?_
  rw [List.mem_filter, List.mem_range] at hx
  rw [Int.toNat_natCast]
  exact hx.1
/-- The stabilizer. -/
def stN (l : List Int) (s : Nat) : Nat := stK l s (prodI l).toNat
/-- The union of the cosets, of those that R lists, that are parts of a. -/
def coreK (l : List Int) (h a : Nat) (R : List Nat) : Nat := orG (fun y => movN l h y) (R.filter fun y => a &&& movN l h y == movN l h y)
/-- How many elements of a are in each of the cosets that R lists. -/
def quoK (l : List Int) (h a : Nat) (R : List Nat) : List Nat := R.map fun y => (bitsN (movN l h y &&& a)).length
theorem stN_lt24 {l : List Int} (hg : grpB l = true) (s : Nat) : stN l s < 2 ^ 24 := grp_pow hg (stK_lt l s _)
theorem stK_lt24 (l : List Int) (s : Nat) {k : Nat} (hk : k ≤ 24) : stK l s k < 2 ^ 24 := Nat.lt_of_lt_of_le (stK_lt l s k) (Nat.pow_le_pow_right (by decide) hk)
theorem stN_bit0 {l : List Int} (hg : grpB l = true) {s : Nat} (hs : s < 2 ^ (prodI l).toNat) : (stN l s).testBit 0 = true := by
  have hP := (ords_grp hg).prod
  exact (stK_bit _ _ _ _).2 ⟨by omega, movN_zero hg hs⟩
theorem bit0_pos {t : Nat} (h : t.testBit 0 = true) : 1 ≤ t := by
  rcases Nat.eq_zero_or_pos t with h0 | h0
  · rw [h0] at h; simp at h
  · exact h0
theorem bit0_wo {t : Nat} (h : t.testBit 0 = true) : woN t 0 = t - 1 := by
  have h1 : t % 2 = 1 := by simpa using h
  apply Nat.eq_of_testBit_eq
  intro i
  rw [woN_bit]
  rcases Nat.eq_zero_or_pos i with h0 | h0
  · subst h0
    have h2 : (t - 1) % 2 = 0 := by omega
    simp [h2]
  · obtain ⟨j, rfl⟩ : ∃ j, i = j + 1 := ⟨i - 1, by omega⟩
    have h2 : (t - 1) / 2 = t / 2 := by omega
    rw [Nat.testBit_succ, Nat.testBit_succ, h2]
    simp
theorem take_at {R : List Nat} {k : Nat} (h : k < R.length) : R.take (k + 1) = R.take k ++ [R.getD k 0] := by
  rw [List.take_add_one, List.getElem?_eq_getElem h]
  simp [List.getD, List.getElem?_eq_getElem h]
theorem core_yes {l : List Int} {h a : Nat} {R : List Nat} {k : Nat} (hk : k < R.length) (hp : a &&& movN l h (R.getD k 0) = movN l h (R.getD k 0)) : coreK l h a (R.take (k + 1)) = coreK l h a (R.take k) ||| movN l h (R.getD k 0) := by
  rw [take_at hk]
  unfold coreK
  rw [List.filter_append]
  have : [R.getD k 0].filter (fun y => a &&& movN l h y == movN l h y) = [R.getD k 0] := by
    rw [List.filter_cons, if_pos (by rw [beq_iff_eq]; exact hp)]
    rfl
  rw [this, orG_snoc]
theorem core_no {l : List Int} {h a : Nat} {R : List Nat} {k : Nat} (hk : k < R.length) (hp : a &&& movN l h (R.getD k 0) ≠ movN l h (R.getD k 0)) : coreK l h a (R.take (k + 1)) = coreK l h a (R.take k) := by
  rw [take_at hk]
  unfold coreK
  rw [List.filter_append]
  have : [R.getD k 0].filter (fun y => a &&& movN l h y == movN l h y) = [] := by
    rw [List.filter_cons, if_neg (by rw [beq_iff_eq]; exact hp)]
    rfl
  rw [this, List.append_nil]
theorem core_lt24 {l : List Int} (hg : grpB l = true) (h a : Nat) (R : List Nat) : coreK l h a R < 2 ^ 24 := grp_pow hg (orG_lt _ _ _ (fun x _ => movN_lt hg h x))
theorem quo_len (l : List Int) (h a : Nat) (R : List Nat) : (quoK l h a R).length = R.length := by simp [quoK]
theorem quo_next {l : List Int} {h a : Nat} {R : List Nat} {k : Nat} (hk : k < R.length) : quoK l h a (R.take (k + 1)) = quoK l h a (R.take k) ++ [(bitsN (movN l h (R.getD k 0) &&& a)).length] := by
  rw [take_at hk]
  simp [quoK]
/-- The functions of chapter 6 on any numbers. -/
def stE (l : List Int) (s : Int) : Int := if isS l s = true then ((stN l s.toNat : Nat) : Int) else -1
def perB (l : List Int) (s : Int) : Bool := isS l s && decide (1 < stN l s.toNat)
def perE (l : List Int) (s : Int) : List Int := if isS l s = true then LI (stN l s.toNat - 1) else []
def fillE (l : List Int) (h s : Int) : Int := if sgB l h = true ∧ isS l s = true then ((sumN l s.toNat h.toNat : Nat) : Int) else -1
def coreE (l : List Int) (h s : Int) : Int := if sgB l h = true ∧ isS l s = true then ((coreK l h.toNat s.toNat (repsK l h.toNat (prodI l).toNat) : Nat) : Int) else -1
def quoB (l : List Int) (h s : Int) : Bool := sgB l h && isS l s
def quoE (l : List Int) (h s : Int) : List Int := if quoB l h s = true then (quoK l h.toNat s.toNat (repsK l h.toNat (prodI l).toNat)).map (fun (x : Nat) => (x : Int)) else []
end Go.Proofs.YtfkleihnafeoeaaGreatDoor
