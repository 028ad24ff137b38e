/- The contracts of spec.FormatGroup and impl.FormatGroup: both answer the orders' numerals, separated by the letter x; 1 for the trivial group, nothing for no group. -/
import Derived.Test.YtkejpikhlejmaaaGreatDoorGrpIs
import Derived.Test.YtkejpikhlejmaaaGreatDoorItoa
namespace Go.Proofs.YtkejpikhlejmaaaGreatDoor
open Go.RowKit
set_option maxRecDepth 1000000
/-- The text of the first k orders. -/
def txtK (l : List Int) (k : Nat) : List UInt8 := Lib.join ((l.take k).map Lib.itoa) [120]
theorem tail_snoc (r : List (List UInt8)) (y sep : List UInt8) : Lib.joinTail sep (r ++ [y]) = Lib.joinTail sep r ++ (sep ++ y) := by simp [Lib.joinTail]
theorem txt_zero (l : List Int) : txtK l 0 = [] := by simp [txtK, Lib.join]
theorem txt_one (l : List Int) (h : 0 < l.length) : txtK l 1 = Lib.itoa (l.getD 0 0) := by
  match l, h with
  | x :: t, _ => simp [txtK, Lib.join]
theorem txt_succ (l : List Int) (k : Nat) (hk : 0 < k) (h : k < l.length) : txtK l (k + 1) = txtK l k ++ [120] ++ Lib.itoa (l.getD k 0) := by
  unfold txtK
  rw [List.take_succ_eq_append_getElem h, List.map_append, List.map_cons, List.map_nil]
  have hg : l.getD k 0 = l[k] := by simp [List.getD, h]
  rw [hg]
  match hq : (l.take k).map Lib.itoa with
  | [] =>
    have hlen : ((l.take k).map Lib.itoa).length = k := by rw [List.length_map, List.length_take]; omega
    rw [hq] at hlen
    simp at hlen
    omega
  | x :: r => rw [List.cons_append, Lib.join_cons, Lib.join_cons, tail_snoc]; simp
/-- The document's text of a group. -/
def fmtG (l : List Int) : List UInt8 := if grpB l = true then (if l = [] then [49] else txtK l l.length) else []
theorem txt_len {l : List Int} (h : grpB l = true) (k : Nat) (hk : k ≤ l.length) : (txtK l k).length ≤ 22 * k := by
  induction k with
  | zero => rw [txt_zero]; simp
  | succ k ih =>
    have ho := ord_at h (k := k) (by omega)
    have hi := Lib.itoa_length_le (l.getD k 0) (by omega) (by omega)
    by_cases h0 : k = 0
    · subst h0; rw [txt_one _ (by omega)]; omega
    · rw [txt_succ _ _ (by omega) (by omega), List.length_append, List.length_append]
      have := ih (by omega)
      simp only [List.length_cons, List.length_nil]
      omega
theorem itoa_ne (n : Int) : Lib.itoa n ≠ [] := by
  unfold Lib.itoa
  split
  · simp
  · intro h
    have := congrArg List.length h
    rw [Lib.decDigits_length] at this
    have h2 := Lib.nDigits_pos n.toNat
    simp at this
    omega
theorem txt_ne {l : List Int} (k : Nat) (hk : 0 < k) (hl : k ≤ l.length) : txtK l k ≠ [] := by
  cases k with
  | zero => omega
  | succ k =>
    by_cases h0 : k = 0
    · subst h0; rw [txt_one _ (by omega)]; exact itoa_ne _
    · rw [txt_succ _ _ (by omega) (by omega)]; simp
end Go.Proofs.YtkejpikhlejmaaaGreatDoor
