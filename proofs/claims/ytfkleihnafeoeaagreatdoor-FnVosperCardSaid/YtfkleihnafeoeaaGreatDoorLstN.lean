/- The elements of a set, as ints. -/
import Derived.Test.YtfkleihnafeoeaaGreatDoorSetMath
import Derived.Test.YtfkleihnafeoeaaGreatDoorGrpBase
namespace Go.Proofs.YtfkleihnafeoeaaGreatDoor
open Go.RowKit
/-- The elements of a set, as ints. -/
def lstN (L : List Nat) : List Value := L.map fun (x : Nat) => Value.int .i64 (x : Int)
theorem lstN_snoc (L : List Nat) (x : Nat) : lstN (L ++ [x]) = lstN L ++ [.int .i64 (x : Nat)] := by simp [lstN]
theorem bits_le (s : Nat) : (bitsN s).length ≤ 24 := upK_len s 24
end Go.Proofs.YtfkleihnafeoeaaGreatDoor
