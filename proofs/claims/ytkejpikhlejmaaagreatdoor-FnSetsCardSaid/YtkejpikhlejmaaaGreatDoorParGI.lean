/- The contract of impl.ParseGroup: it answers the orders of the text's group, or none. -/
import Derived.Test.YtkejpikhlejmaaaGreatDoorSplitI
import Derived.Test.YtkejpikhlejmaaaGreatDoorOwnP
import Derived.Test.YtkejpikhlejmaaaGreatDoorGrpIs
namespace Go.Proofs.YtkejpikhlejmaaaGreatDoor
open Go.RowKit
set_option maxRecDepth 1000000
/-- What ParseGroup answers. -/
def ParsePost (r : Option (List Int)) (w : World) (e : Ending) (w' : World) : Prop :=
  ∃ u, e = .returned (.tuple #[.agg #[u], .bool r.isSome]) ∧ w'.ownsRow w.heap.size 3 1 u (r.getD []).length ((r.getD []).map (Value.int .i64)) ∧ Below w.heap.size w w'
theorem implR_split (s : List UInt8) : implR s = if s = [49] then some [] else (match splR 120 3 s with
    | none => none
    | some vals => if grpB vals = true then some vals else none) := by
  unfold implR splR
  by_cases h : s = [49]
  · rw [if_pos h, if_pos h]
  · rw [if_neg h, if_neg h]
    generalize Lib.splitK [120] 0 3 s = P
    by_cases hl : P.length ≤ 3
    · rw [if_pos hl]
      cases allAcc P <;> rfl
    · rw [if_neg hl]
      have hg : grpB (P.map resV) = false := grpB_long (by rw [List.length_map]; omega)
      rw [hg]
      cases allAcc P <;> rfl
end Go.Proofs.YtkejpikhlejmaaaGreatDoor
