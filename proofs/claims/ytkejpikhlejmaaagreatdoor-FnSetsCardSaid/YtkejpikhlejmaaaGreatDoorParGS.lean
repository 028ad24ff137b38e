/- The contract of spec.ParseGroup: it answers the orders of the text's group, or none. -/
import Derived.Test.YtkejpikhlejmaaaGreatDoorParGI
import Derived.Test.YtkejpikhlejmaaaGreatDoorParseS
namespace Go.Proofs.YtkejpikhlejmaaaGreatDoor
open Go.RowKit
set_option maxRecDepth 1000000
theorem drop_at (s : ByteArray) (k : Nat) (h : k < s.size) : s.data.toList.drop k = s[k] :: s.data.toList.drop (k + 1) := by
  rw [List.drop_eq_getElem_cons (by simpa using h)]
  rfl
theorem ext_one (s : ByteArray) (k : Nat) (h : k < s.size) : s.extract k (k + 1) = bs [s[k]] := by
  apply ByteArray.ext
  apply Array.ext'
  rw [Lib.extract_data]
  rw [drop_at s k h, Nat.add_sub_cancel_left]
  simp [bs]
theorem bs_list2 (x : List UInt8) : (bs x).data.toList = x := by simp [bs]
/-- What the document's reading does behind its loop. -/
def specFin (s : List UInt8) : Option (List Int) → Option (List Int)
  | none => none
  | some acc => if s = [] then none else if fmtG acc = s then some acc else none
theorem spec_fin (s : List UInt8) (h1 : s ≠ [49]) (h2 : ¬ 10 < s.length) : specR s = specFin s (specLoop [] [] s) := by
  unfold specR
  rw [if_neg h1, if_neg h2]
  cases specLoop [] [] s <;> rfl
theorem spec_end (cur : List UInt8) (acc : List Int) : specLoop cur acc [] = if accB cur = true then some (acc ++ [resV cur]) else none := rfl
theorem spec_x (cur r : List UInt8) (acc : List Int) (c : UInt8) (h : c = 120) : specLoop cur acc (c :: r) = if accB cur = true then specLoop [] (acc ++ [resV cur]) r else none := by
  rw [specLoop, if_pos h]
theorem spec_o (cur r : List UInt8) (acc : List Int) (c : UInt8) (h : c ≠ 120) : specLoop cur acc (c :: r) = specLoop (cur ++ [c]) acc r := by
  rw [specLoop, if_neg h]
end Go.Proofs.YtkejpikhlejmaaaGreatDoor
