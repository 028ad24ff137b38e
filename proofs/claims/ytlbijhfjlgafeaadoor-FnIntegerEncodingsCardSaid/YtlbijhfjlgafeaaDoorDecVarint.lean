/- The contracts of spec.DecodeVarint and impl.DecodeVarint: both answer the number and the length of the prefix that is a varint of at most seven bytes. -/
import Derived.Test.YtlbijhfjlgafeaaDoorVarPlain
import Derived.Deep.RegionWith
import Derived.Lib.Strings
namespace Go.Proofs.YtlbijhfjlgafeaaDoor
open Go.RowKit
theorem val7 (l : List UInt8) (h : l.length ≤ 7) : val l ≤ 562949953421311 := by
  have h1 := val_lt l
  have h2 : 128 ^ l.length ≤ 128 ^ 7 := Nat.pow_le_pow_right (by decide) h
  have h3 : (128 : Nat) ^ 7 = 562949953421312 := by decide
  omega
theorem val_drop (l : List UInt8) (q : Nat) (h : q < l.length) : val (l.drop q) = l[q].toNat % 128 + 128 * val (l.drop (q + 1)) := by
  rw [List.drop_eq_getElem_cons h]; rfl
theorem same_text (s : ByteArray) (k : Nat) (L : List UInt8) (hL : L = s.data.toList.take k) : ((bs (vint (val L))).toList == (s.extract 0 k).toList) = canonL L := by
  have e1 : (bs (vint (val L))).toList = vint (val L) := Lib.toList_data _
  have e2 : (s.extract 0 k).toList = L := by rw [Lib.toList_data, Lib.extract_data, hL]; simp
  rw [e1, e2, Bool.eq_iff_iff, beq_iff_eq]
  exact canon_iff L
def TwoInts (l : List UInt8) (W : Nat) (w : World) (e : Ending) (w' : World) : Prop := ∃ n k : Nat, e = .returned (.tuple #[.int .i64 n, .int .i64 k]) ∧ Res l n k ∧ Below W w w'
end Go.Proofs.YtlbijhfjlgafeaaDoor
