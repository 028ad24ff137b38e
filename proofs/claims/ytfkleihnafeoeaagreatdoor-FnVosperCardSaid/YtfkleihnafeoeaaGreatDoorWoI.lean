/- The contract of the program's own set without an element. -/
import Derived.Test.YtfkleihnafeoeaaGreatDoorShiftN
import Derived.Test.YtfkleihnafeoeaaGreatDoorSumMath
namespace Go.Proofs.YtfkleihnafeoeaaGreatDoor
open Go.RowKit
attribute [local go_sem] Oper.semAt_some
set_option maxRecDepth 1000000
theorem iWithout (w : World) (s x : Nat) (hs : s < 16777216) (hx : x ≤ 23) :
    Calls Tryz.prog 69 #[.int .u64 s, .int .i64 x] w fun e w' => e = .returned (.int .u64 (woN s x : Nat)) ∧ w = w' := by
  have hp := pow_le24 (k := x) (by omega)
  have hw : IntKind.u64.wrap (2 ^ x) = ((2 ^ x : Nat) : Int) := by
    rw [pow_nat, IntKind.wrap_u64]
    generalize 2 ^ x = N at *
    omega
  have hb : bits .andNot .u64 (s : Int) ((2 ^ x : Nat) : Int) = ((woN s x : Nat) : Int) := bits_andNot s (2 ^ x) (by omega) (by omega)
  obtain ⟨r, hr⟩ : ∃ r, woN s x = r := ⟨_, rfl⟩
  rw [hr] at hb
  rw [hr]
  rw [← hw] at hb
  clear hr hw hp
  go_enter Tryz.func69, Tryz.ntmps69
  go_wp2
  go_ret
  exact ⟨rfl, rfl⟩
end Go.Proofs.YtfkleihnafeoeaaGreatDoor
