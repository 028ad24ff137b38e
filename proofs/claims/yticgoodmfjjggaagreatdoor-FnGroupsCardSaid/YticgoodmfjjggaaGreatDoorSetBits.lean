/- The contracts of the program's own functions on sets: whether an element is in a set, a set with an element more, the count, the full set. -/
import Derived.Test.YticgoodmfjjggaaGreatDoorOnes
import Derived.Test.YticgoodmfjjggaaGreatDoorGrpTri
import Derived.Laws.Bits64b
namespace Go.Proofs.YticgoodmfjjggaaGreatDoor
open Go.RowKit
set_option maxRecDepth 1000000
theorem andU (a b A : Nat) (ha : a < 16777216) (hb : b < 18446744073709551616) (h : a &&& b = A) : bits .and .u64 (a : Int) (b : Int) = (A : Int) := by
  rw [bits_and_u64_nat a b (Nat.lt_trans ha (by decide)) hb, h]
theorem andI (a b : Nat) (ha : a < 9223372036854775808) (hb : b < 9223372036854775808) : bits .and .i64 (a : Int) (b : Int) = ((a &&& b : Nat) : Int) := by
  have h1 : (BitVec.ofInt 64 (a : Int)).toNat = a := by
    rw [BitVec.ofInt_natCast, BitVec.toNat_ofNat]; exact Nat.mod_eq_of_lt (by omega)
  have h2 : (BitVec.ofInt 64 (b : Int)).toNat = b := by
    rw [BitVec.ofInt_natCast, BitVec.toNat_ofNat]; exact Nat.mod_eq_of_lt (by omega)
  show IntKind.i64.wrap ((BitVec.ofInt 64 (a : Int) &&& BitVec.ofInt 64 (b : Int)).toNat : Int) = _
  rw [BitVec.toNat_and, h1, h2]
  have h3 : a &&& b ≤ a := Nat.and_le_left
  generalize a &&& b = c at *
  simp [IntKind.wrap, IntKind.signed, IntKind.bits]
  omega
theorem iWith (w : World) (s x : Nat) (hs : s < 16777216) (hx : x ≤ 23) :
    Calls Tryz.prog 145 #[.int .u64 s, .int .i64 x] w fun e w' => e = .returned (.int .u64 (s ||| 2 ^ x : Nat)) ∧ w = w' := by
  have hp := pow_le24 (k := x) (by omega)
  have hw : IntKind.u64.wrap (2 ^ x) = ((2 ^ x : Nat) : Int) := by
    rw [pow_nat, IntKind.wrap_u64]
    generalize 2 ^ x = N at *
    omega
  have hb := bits_or_u64_nat s (2 ^ x) (Nat.lt_trans hs (by decide)) (by omega)
  obtain ⟨r, hr⟩ : ∃ r, (s ||| 2 ^ x) = r := ⟨_, rfl⟩
  rw [hr] at hb
  rw [hr]
  rw [← hw] at hb
  clear hr hw hp
  go_enter Tryz.func145, Tryz.ntmps145
  go_wp2
  go_ret
  exact ⟨rfl, rfl⟩
theorem iFull (w : World) (p q r N : Int) (h : Tri p q r) (hN : N = ((2 ^ (p * q * r).toNat : Nat) : Int) - 1) :
    Calls Tryz.prog 125 #[tV p q r] w fun e w' => e = .returned (.int .u64 N) ∧ Below w.heap.size w w' := by
  have HT := Lib.hid h
  obtain ⟨_, _, _, _, _, _, _, _, h1, h2⟩ := h
  have hp := pow_le24 (k := (p * q * r).toNat) (by omega)
  have h0 := Nat.two_pow_pos (p * q * r).toNat
  have hw : IntKind.u64.wrap (IntKind.u64.wrap (2 ^ (p * q * r).toNat) - 1) = N := by
    rw [hN, pow_nat, IntKind.wrap_u64, IntKind.wrap_u64]
    generalize 2 ^ (p * q * r).toNat = M at *
    omega
  clear hp h0 hN
  go_enter Tryz.func125, Tryz.ntmps125
  go_wp2_with (go_at_call 70; refine (iProduct _ _ _ _ HT.out).mono ?_; rintro e w2 ⟨rfl, hb2⟩)
  go_ret
  exact ⟨by rw [← hw]; rfl, (Joins.below_alloc1 w _).trans (hb2.mono (by simp))⟩
end Go.Proofs.YticgoodmfjjggaaGreatDoor
