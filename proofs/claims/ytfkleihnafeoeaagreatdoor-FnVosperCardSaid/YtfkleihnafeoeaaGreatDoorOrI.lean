/- A set with one element more, as the document's reading reckons it: a number with one bit more. -/
import Derived.Test.YtfkleihnafeoeaaGreatDoorSetSpec
namespace Go.Proofs.YtfkleihnafeoeaaGreatDoor
open Go.RowKit
set_option maxRecDepth 1000000
theorem orI (a b : Nat) (ha : a < 16777216) (hb : b ≤ 16777216) : bits .or .i64 (a : Int) (b : Int) = ((a ||| b : Nat) : Int) := by
  have h1 : (BitVec.ofInt 64 (a : Int)).toNat = a := by
    rw [BitVec.ofInt_natCast, BitVec.toNat_ofNat]; exact Nat.mod_eq_of_lt (by omega)
  have h2 : (BitVec.ofInt 64 (b : Int)).toNat = b := by
    rw [BitVec.ofInt_natCast, BitVec.toNat_ofNat]; exact Nat.mod_eq_of_lt (by omega)
  show IntKind.i64.wrap ((BitVec.ofInt 64 (a : Int) ||| BitVec.ofInt 64 (b : Int)).toNat : Int) = _
  rw [BitVec.toNat_or, h1, h2]
  have h3 : a ||| b < 2 ^ 25 := Nat.or_lt_two_pow (Nat.lt_trans ha (by decide)) (Nat.lt_of_le_of_lt hb (by decide))
  have h4 : (2 : Nat) ^ 25 = 33554432 := by decide
  rw [h4] at h3
  generalize a ||| b = c at *
  simp [IntKind.wrap, IntKind.signed, IntKind.bits]
  omega
theorem or_step {O : Nat} {V : Int} (hO : O < 16777216) (h0 : 0 ≤ V) (h1 : V ≤ 23) : bits .or .i64 (O : Int) (wrap64 (2 ^ V.toNat)) = ((O ||| 2 ^ V.toNat : Nat) : Int) := by
  rw [wrap_pow (by omega), orI _ _ hO (pow_le24 (by omega))]
end Go.Proofs.YtfkleihnafeoeaaGreatDoor
