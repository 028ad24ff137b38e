/- Sums of sets by the document's reading: the sum, the difference, multiples, the sums of parts. -/
import Derived.Test.YtehdneppleifdaaSumMath
import Derived.Test.YtehdneppleifdaaDilSpec
namespace Go.Proofs.Ytehdneppleifdaa
open Go.RowKit
set_option maxRecDepth 1000000
theorem take_nextG (G : Nat → Nat) (s k : Nat) (h : k < (bitsN s).length) : orG G ((bitsN s).take (k + 1)) = orG G ((bitsN s).take k) ||| G ((bitsN s).getD k 0) := by
  rw [List.take_add_one, List.getElem?_eq_getElem h]
  simp only [Option.toList_some]
  rw [orG_snoc]
  simp [List.getD, List.getElem?_eq_getElem h]
theorem lt24 {x : Nat} (h : x < 2 ^ 24) : x < 16777216 := h
theorem movN_lt24 {l : List Int} (hg : grpB l = true) (a x : Nat) : movN l a x < 2 ^ 24 := grp_pow hg (movN_lt hg a x)
theorem sMov (w : World) (a : Option Addr) (l : List Int) (n cap : Nat) (s y : Nat) (hs : s < 2 ^ 24) (hy : (y : Int) ≤ 23) (hn : n = l.length) (hg : grpB l = true) (hi : Ints w a l) :
    Calls Try.prog 22 #[.agg #[.slice a n cap], .int .i64 s, .int .i64 (y : Nat)] w fun e w' => e = .returned (.int .i64 (movN l s y : Nat)) ∧ Below w.heap.size w w' :=
  sShiftL w a l n cap s y hs (by omega) hy hn hg hi
theorem subK_next (l : List Int) (s k : Nat) (h : k < (bitsN s).length) : subK l ((bitsN s).take (k + 1)) = subK l ((bitsN s).take k) ||| movN l (subK l ((bitsN s).take k)) ((bitsN s).getD k 0) := by
  rw [List.take_add_one, List.getElem?_eq_getElem h]
  simp only [Option.toList_some]
  rw [subK_snoc]
  simp [List.getD, List.getElem?_eq_getElem h]
end Go.Proofs.Ytehdneppleifdaa
