/- Sums of sets by the document's reading: the sum, the difference, multiples, the sums of parts. -/
import Derived.Test.YtfkleihnafeoeaaSumMath
import Derived.Test.YtfkleihnafeoeaaDilSpec
namespace Go.Proofs.Ytfkleihnafeoeaa
open Go.RowKit
set_option maxRecDepth 1000000
theorem take_nextG (G : Nat → Nat) (s k : Nat) (h : k < (bitsN s).length) : orG G ((bitsN s).take (k + 1)) = orG G ((bitsN s).take k) ||| G ((bitsN s).getD k 0) := by
  rw [List.take_add_one, List.getElem?_eq_getElem h]
  simp only [Option.toList_some]
  rw [orG_snoc]
  simp [List.getD, List.getElem?_eq_getElem h]
theorem lt24 {x : Nat} (h : x < 2 ^ 24) : x < 16777216 := h
theorem movN_lt24 {l : List Int} (hg : grpB l = true) (a x : Nat) : movN l a x < 2 ^ 24 := grp_pow hg (movN_lt hg a x)
theorem subK_next (l : List Int) (s k : Nat) (h : k < (bitsN s).length) : subK l ((bitsN s).take (k + 1)) = subK l ((bitsN s).take k) ||| movN l (subK l ((bitsN s).take k)) ((bitsN s).getD k 0) := by
  rw [List.take_add_one, List.getElem?_eq_getElem h]
  simp only [Option.toList_some]
  rw [subK_snoc]
  simp [List.getD, List.getElem?_eq_getElem h]
end Go.Proofs.Ytfkleihnafeoeaa
