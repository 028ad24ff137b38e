/- The contracts of the document's reading of sets (spec): IsSet, FullSet, CountSet. -/
import Derived.Test.YtiponiflebmooaaSetMath
import Derived.Test.YtiponiflebmooaaGRPB
namespace Go.Proofs.Ytiponiflebmooaa
open Go.RowKit
set_option maxRecDepth 1000000
theorem wrap_pow {k : Nat} (h : k ≤ 24) : wrap64 ((2 : Int) ^ k) = ((2 ^ k : Nat) : Int) := by
  have := pow_le24 h
  rw [pow_nat]
  generalize 2 ^ k = N at *
  unfold wrap64; omega
theorem wrap_full {l : List Int} (h : grpB l = true) : wrap64 (wrap64 (2 ^ (prodI l).toNat) - 1) = fullN l := by
  have hp := (ords_grp h).prod
  rw [wrap_pow (by omega), fullN_nat]
  have := pow_le24 (k := (prodI l).toNat) (by omega)
  have h1 := Nat.two_pow_pos (prodI l).toNat
  generalize 2 ^ (prodI l).toNat = N at *
  unfold wrap64; omega
theorem full_bnd {l : List Int} (h : grpB l = true) : 1 ≤ fullN l ∧ fullN l ≤ 16777215 := by
  have hp := (ords_grp h).prod
  rw [fullN_nat]
  have := pow_le24 (k := (prodI l).toNat) (by omega)
  have h1 : 2 ^ 1 ≤ 2 ^ (prodI l).toNat := Nat.pow_le_pow_right (by decide) (by omega)
  generalize 2 ^ (prodI l).toNat = N at *
  omega
theorem and1 (a : Nat) (h : a < 9223372036854775808) : bits .and .i64 (a : Int) 1 = ((a % 2 : Nat) : Int) := by
  have h1 : (BitVec.ofInt 64 (a : Int)).toNat = a := by
    rw [BitVec.ofInt_natCast, BitVec.toNat_ofNat]; exact Nat.mod_eq_of_lt (by omega)
  show IntKind.i64.wrap ((BitVec.ofInt 64 (a : Int) &&& BitVec.ofInt 64 1).toNat : Int) = _
  rw [BitVec.toNat_and, h1, show (BitVec.ofInt 64 1).toNat = 1 by decide, Nat.and_one_is_mod]
  simp [IntKind.wrap, IntKind.signed, IntKind.bits]
  omega
/-- The document's count. -/
def cntE (l : List Int) (s : Int) : Int := if isS l s = true then ((bitsN s.toNat).length : Nat) else -1
end Go.Proofs.Ytiponiflebmooaa
