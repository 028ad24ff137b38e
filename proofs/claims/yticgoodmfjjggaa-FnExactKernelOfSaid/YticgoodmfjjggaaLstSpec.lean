/- The list of the elements of a set: spec.l3List, and ListOf of the document's reading and of the program. -/
import Derived.Test.YticgoodmfjjggaaLstN
import Derived.Test.YticgoodmfjjggaaSetIn
import Derived.Test.YticgoodmfjjggaaGrpSpec6
namespace Go.Proofs.Yticgoodmfjjggaa
open Go.RowKit
set_option maxRecDepth 1000000
/-- The document's list of a set; empty of what is none. -/
def lstE (l : List Int) (s : Int) : List Int := if isS l s = true then (bitsN s.toNat).map fun (x : Nat) => (x : Int) else []
theorem lstE_no {l : List Int} {s : Int} (h : isS l s = false) : lstE l s = [] := by unfold lstE; rw [if_neg (by simp [h])]
theorem lstE_yes {l : List Int} {m : Nat} (h : isS l (m : Int) = true) : (lstE l m).length = (bitsN m).length ∧ (lstE l m).map (Value.int .i64) = lstN (bitsN m) := by
  unfold lstE lstN; rw [if_pos h]; simp
theorem lstE_len (l : List Int) (s : Int) : (lstE l s).length ≤ 24 := by
  unfold lstE
  split
  · simpa using bits_le s.toNat
  · simp
end Go.Proofs.Yticgoodmfjjggaa
