/- The contracts of the two texts' digit readers and of spec.DecodeHex. -/
import Derived.Test.YtlbijhfjlgafeaaDoorHexPlain
namespace Go.Proofs.YtlbijhfjlgafeaaDoor
open Go.RowKit
/-- The number that the reader answers: the digit's, or -1. -/
def fromH (c : Nat) : Int := match hexV c with | some v => v | none => -1
theorem hv_dig (r : Int) (w : World) (h0 : 48 ≤ r) (h1 : r ≤ 57) :
    Calls Tryd.prog 27 #[.int .i32 r] w fun e w' => e = .returned (.tuple #[.int .u8 (r - 48), .bool true]) ∧ w = w' := by
  have g0 : decide ((48 : Int) ≤ r) = true := by simpa using h0
  have g1 : decide (r ≤ (57 : Int)) = true := by simpa using h1
  go_enter Tryd.func27, Tryd.ntmps27
  go_wp2
  go_ret2
  exact ⟨rfl, rfl⟩
theorem hv_let (r : Int) (w : World) (h0 : 97 ≤ r) (h1 : r ≤ 102) :
    Calls Tryd.prog 27 #[.int .i32 r] w fun e w' => e = .returned (.tuple #[.int .u8 (r - 97 + 10), .bool true]) ∧ w = w' := by
  have g0 : decide (r ≤ (57 : Int)) = false := by simp; omega
  have g1 : decide (r ≤ (102 : Int)) = true := by simpa using h1
  have g2 : decide ((97 : Int) ≤ r) = true := by simpa using h0
  have g3 : decide ((48 : Int) ≤ r) = true := by simp; omega
  go_enter Tryd.func27, Tryd.ntmps27
  go_wp2
  go_ret2
  exact ⟨rfl, rfl⟩
theorem hv_no (r : Int) (w : World) (h : r < 48 ∨ (57 < r ∧ r < 97) ∨ 102 < r) :
    Calls Tryd.prog 27 #[.int .i32 r] w fun e w' => e = .returned (.tuple #[.int .u8 0, .bool false]) ∧ w = w' := by
  rcases h with h | ⟨h, h'⟩ | h
  · go_enter Tryd.func27, Tryd.ntmps27
    go_wp2
    go_ret2
    exact ⟨rfl, rfl⟩
  · have g3 : (48 : Int) ≤ r := by omega
    have g0 : decide (r ≤ (57 : Int)) = false := by simp; omega
    go_enter Tryd.func27, Tryd.ntmps27
    go_wp2
    go_ret2
    exact ⟨rfl, rfl⟩
  · have g3 : (97 : Int) ≤ r := by omega
    have g0 : decide (r ≤ (57 : Int)) = false := by simp; omega
    have g4 : decide (r ≤ (102 : Int)) = false := by simp; omega
    go_enter Tryd.func27, Tryd.ntmps27
    go_wp2
    go_ret2
    exact ⟨rfl, rfl⟩
theorem fromH_none {c : Nat} (h : hexV c = none) : fromH c = -1 := by unfold fromH; rw [h]
theorem fromH_some {c v : Nat} (h : hexV c = some v) : fromH c = v := by unfold fromH; rw [h]
end Go.Proofs.YtlbijhfjlgafeaaDoor
