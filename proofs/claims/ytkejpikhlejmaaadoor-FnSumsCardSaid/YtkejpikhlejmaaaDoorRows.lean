/-
  NARROWER THAN 'FOR EVERY INPUT', by the rows' own cells (each row's printed sentence says how): FnSums: laid · FnExactListOf: laid · FnExactNegateSet: laid · FnExactDilateSet: laid · FnExactFormatSet: laid · FnExactSumOfSets: laid · FnExactDifferenceOfSets: laid · FnExactMultipleSum: laid · FnExactRestrictedSum: laid · FnExactCountSums: laid · FnExactSumTable: laid · FnExactSubsetSums: laid.
  DERIVED. THE GIVEN ROWS OF THIS SEAT. 12 by the template 'for every input the law returns true; each argument reads behind the call as it read before'; 0 by the template 'total and deterministic' (their statements: YtkejpikhlejmaaaDoorTotals.lean).
  GIVEN WITH THE SEED: the statements are not yours to turn. If you find one false, say at which input.
  Laid BY PROGRAM, IN A SANDBOX (cutbox-rows.mjs): the forced cells as the released guide's own fill.sh prints them over the translation b49982754d97c5df… (all of the seat's roots in one cut). By AI agents, Wed Nov 11 2026. No macro, syntax, notation, axiom, sorry.
-/
import Derived.Test.YtkejpikhlejmaaaDoorChecked
import GoSem.Claim
import GoSem.ClaimJoined
import GoSem.ClaimMapViews
import Derived.JoinedTies
import Derived.KernelRfl
namespace Go.Proofs.YtkejpikhlejmaaaDoor
/- THE CELL 'sum', in the pinned program and in every row, IS THE sha256 OF THE DUMP (.gsa) THAT YtkejpikhlejmaaaDoorProg.lean LOADS. Nothing in Lean hashes anything: it is a label: what it is worth is what the hold of that sum in a sandbox is worth. -/
noncomputable def Tryd.pinned : Pinned := { name := "ytkejpikhlejmaaadoor", sum := "b49982754d97c5df639a27bea47344a5d3b4846bfcca31f960a1e4ddd3eee1d2", checked := Tryd.checked }
namespace Rows
def none {H : Type} : Left H := { results := [], args := [] }

/- WHAT THE LISTED PACKAGE-LEVEL VARIABLES READ AS WHEN THE CALL BEGINS. Each datum BY PROGRAM (the guide's laid-datum.mjs) off the statement by which the dump's own 'gosem.cut.vars' lays the variable. In a bare row this is a premise. The card (YtkejpikhlejmaaaDoorCards.lean) ties it to the program's text. -/
def laid_math_bits_deBruijn32tab {H : Type} : DataW H := .agg [.lit (.int .u8 0), .lit (.int .u8 1), .lit (.int .u8 28), .lit (.int .u8 2), .lit (.int .u8 29), .lit (.int .u8 14), .lit (.int .u8 24), .lit (.int .u8 3), .lit (.int .u8 30), .lit (.int .u8 22), .lit (.int .u8 20), .lit (.int .u8 15), .lit (.int .u8 25), .lit (.int .u8 17), .lit (.int .u8 4), .lit (.int .u8 8), .lit (.int .u8 31), .lit (.int .u8 27), .lit (.int .u8 13), .lit (.int .u8 23), .lit (.int .u8 21), .lit (.int .u8 19), .lit (.int .u8 16), .lit (.int .u8 7), .lit (.int .u8 26), .lit (.int .u8 12), .lit (.int .u8 18), .lit (.int .u8 6), .lit (.int .u8 11), .lit (.int .u8 5), .lit (.int .u8 10), .lit (.int .u8 9)]
def laid_math_bits_deBruijn64tab {H : Type} : DataW H := .agg [.lit (.int .u8 0), .lit (.int .u8 1), .lit (.int .u8 56), .lit (.int .u8 2), .lit (.int .u8 57), .lit (.int .u8 49), .lit (.int .u8 28), .lit (.int .u8 3), .lit (.int .u8 61), .lit (.int .u8 58), .lit (.int .u8 42), .lit (.int .u8 50), .lit (.int .u8 38), .lit (.int .u8 29), .lit (.int .u8 17), .lit (.int .u8 4), .lit (.int .u8 62), .lit (.int .u8 47), .lit (.int .u8 59), .lit (.int .u8 36), .lit (.int .u8 45), .lit (.int .u8 43), .lit (.int .u8 51), .lit (.int .u8 22), .lit (.int .u8 53), .lit (.int .u8 39), .lit (.int .u8 33), .lit (.int .u8 30), .lit (.int .u8 24), .lit (.int .u8 18), .lit (.int .u8 12), .lit (.int .u8 5), .lit (.int .u8 63), .lit (.int .u8 55), .lit (.int .u8 48), .lit (.int .u8 27), .lit (.int .u8 60), .lit (.int .u8 41), .lit (.int .u8 37), .lit (.int .u8 16), .lit (.int .u8 46), .lit (.int .u8 35), .lit (.int .u8 44), .lit (.int .u8 21), .lit (.int .u8 52), .lit (.int .u8 32), .lit (.int .u8 23), .lit (.int .u8 11), .lit (.int .u8 54), .lit (.int .u8 26), .lit (.int .u8 40), .lit (.int .u8 15), .lit (.int .u8 34), .lit (.int .u8 20), .lit (.int .u8 31), .lit (.int .u8 10), .lit (.int .u8 25), .lit (.int .u8 14), .lit (.int .u8 19), .lit (.int .u8 9), .lit (.int .u8 13), .lit (.int .u8 8), .lit (.int .u8 7), .lit (.int .u8 6)]
def laid_internal_strconv_uint64pow10 {H : Type} : DataW H := .agg [.lit (.int .u64 1), .lit (.int .u64 10), .lit (.int .u64 100), .lit (.int .u64 1000), .lit (.int .u64 10000), .lit (.int .u64 100000), .lit (.int .u64 1000000), .lit (.int .u64 10000000), .lit (.int .u64 100000000), .lit (.int .u64 1000000000), .lit (.int .u64 10000000000), .lit (.int .u64 100000000000), .lit (.int .u64 1000000000000), .lit (.int .u64 10000000000000), .lit (.int .u64 100000000000000), .lit (.int .u64 1000000000000000), .lit (.int .u64 10000000000000000), .lit (.int .u64 100000000000000000), .lit (.int .u64 1000000000000000000), .lit (.int .u64 10000000000000000000)]

/-- 'laws.FnSums': WHATEVER THE INPUT: true; the input reads as it did. -/
def fnSumsSpec : ChangeSpec := { name := "fnSums", fn := fun _ => fun
  | [d] => { results := [.lit (.bool true)], args := [d] }
  | _ => none }
def fnSumsRow : OpenClaim := { program := "ytkejpikhlejmaaadoor", sum := "b49982754d97c5df639a27bea47344a5d3b4846bfcca31f960a1e4ddd3eee1d2", func := "loop.example/g03402/laws.FnSums", spec := "fnSums", unfollowed := true, recurses := true, named := ["math/bits.deBruijn32tab", "math/bits.deBruijn64tab"], apart := false, laid := [("math/bits.deBruijn32tab", laid_math_bits_deBruijn32tab), ("math/bits.deBruijn64tab", laid_math_bits_deBruijn64tab)] }
def FnSumsSaid : Prop := fnSumsRow.holds Tryd.pinned (OpenSpec.ofChange fnSumsSpec)

/-- ITS FALSE NEIGHBOUR: 'it returns false'. Refute it at one input. -/
def fnSumsWrong : ChangeSpec := { name := "fnSums", fn := fun _ => fun
  | [d] => { results := [.lit (.bool false)], args := [d] }
  | _ => none }
def FnSumsWrongFalsely : Prop := fnSumsRow.holds Tryd.pinned (OpenSpec.ofChange fnSumsWrong)

/-- 'laws.FnExactListOf': WHATEVER THE INPUT: true; the input reads as it did. -/
def fnExactListOfSpec : ChangeSpec := { name := "fnExactListOf", fn := fun _ => fun
  | [d1, d2] => { results := [.lit (.bool true)], args := [d1, d2] }
  | _ => none }
def fnExactListOfRow : OpenClaim := { program := "ytkejpikhlejmaaadoor", sum := "b49982754d97c5df639a27bea47344a5d3b4846bfcca31f960a1e4ddd3eee1d2", func := "loop.example/g03402/laws.FnExactListOf", spec := "fnExactListOf", unfollowed := true, recurses := true, named := ["math/bits.deBruijn32tab", "math/bits.deBruijn64tab"], apart := false, laid := [("math/bits.deBruijn32tab", laid_math_bits_deBruijn32tab), ("math/bits.deBruijn64tab", laid_math_bits_deBruijn64tab)] }
def FnExactListOfSaid : Prop := fnExactListOfRow.holds Tryd.pinned (OpenSpec.ofChange fnExactListOfSpec)

/-- ITS FALSE NEIGHBOUR: 'it returns false'. Refute it at one input. -/
def fnExactListOfWrong : ChangeSpec := { name := "fnExactListOf", fn := fun _ => fun
  | [d1, d2] => { results := [.lit (.bool false)], args := [d1, d2] }
  | _ => none }
def FnExactListOfWrongFalsely : Prop := fnExactListOfRow.holds Tryd.pinned (OpenSpec.ofChange fnExactListOfWrong)

/-- 'laws.FnExactNegateSet': WHATEVER THE INPUT: true; the input reads as it did. -/
def fnExactNegateSetSpec : ChangeSpec := { name := "fnExactNegateSet", fn := fun _ => fun
  | [d1, d2] => { results := [.lit (.bool true)], args := [d1, d2] }
  | _ => none }
def fnExactNegateSetRow : OpenClaim := { program := "ytkejpikhlejmaaadoor", sum := "b49982754d97c5df639a27bea47344a5d3b4846bfcca31f960a1e4ddd3eee1d2", func := "loop.example/g03402/laws.FnExactNegateSet", spec := "fnExactNegateSet", unfollowed := true, recurses := true, named := ["math/bits.deBruijn32tab", "math/bits.deBruijn64tab"], apart := false, laid := [("math/bits.deBruijn32tab", laid_math_bits_deBruijn32tab), ("math/bits.deBruijn64tab", laid_math_bits_deBruijn64tab)] }
def FnExactNegateSetSaid : Prop := fnExactNegateSetRow.holds Tryd.pinned (OpenSpec.ofChange fnExactNegateSetSpec)

/-- ITS FALSE NEIGHBOUR: 'it returns false'. Refute it at one input. -/
def fnExactNegateSetWrong : ChangeSpec := { name := "fnExactNegateSet", fn := fun _ => fun
  | [d1, d2] => { results := [.lit (.bool false)], args := [d1, d2] }
  | _ => none }
def FnExactNegateSetWrongFalsely : Prop := fnExactNegateSetRow.holds Tryd.pinned (OpenSpec.ofChange fnExactNegateSetWrong)

/-- 'laws.FnExactDilateSet': WHATEVER THE INPUT: true; the input reads as it did. -/
def fnExactDilateSetSpec : ChangeSpec := { name := "fnExactDilateSet", fn := fun _ => fun
  | [d1, d2, d3] => { results := [.lit (.bool true)], args := [d1, d2, d3] }
  | _ => none }
def fnExactDilateSetRow : OpenClaim := { program := "ytkejpikhlejmaaadoor", sum := "b49982754d97c5df639a27bea47344a5d3b4846bfcca31f960a1e4ddd3eee1d2", func := "loop.example/g03402/laws.FnExactDilateSet", spec := "fnExactDilateSet", unfollowed := true, recurses := true, named := ["math/bits.deBruijn32tab", "math/bits.deBruijn64tab"], apart := false, laid := [("math/bits.deBruijn32tab", laid_math_bits_deBruijn32tab), ("math/bits.deBruijn64tab", laid_math_bits_deBruijn64tab)] }
def FnExactDilateSetSaid : Prop := fnExactDilateSetRow.holds Tryd.pinned (OpenSpec.ofChange fnExactDilateSetSpec)

/-- ITS FALSE NEIGHBOUR: 'it returns false'. Refute it at one input. -/
def fnExactDilateSetWrong : ChangeSpec := { name := "fnExactDilateSet", fn := fun _ => fun
  | [d1, d2, d3] => { results := [.lit (.bool false)], args := [d1, d2, d3] }
  | _ => none }
def FnExactDilateSetWrongFalsely : Prop := fnExactDilateSetRow.holds Tryd.pinned (OpenSpec.ofChange fnExactDilateSetWrong)

/-- 'laws.FnExactFormatSet': WHATEVER THE INPUT: true; the input reads as it did. -/
def fnExactFormatSetSpec : ChangeSpec := { name := "fnExactFormatSet", fn := fun _ => fun
  | [d1, d2] => { results := [.lit (.bool true)], args := [d1, d2] }
  | _ => none }
def fnExactFormatSetRow : OpenClaim := { program := "ytkejpikhlejmaaadoor", sum := "b49982754d97c5df639a27bea47344a5d3b4846bfcca31f960a1e4ddd3eee1d2", func := "loop.example/g03402/laws.FnExactFormatSet", spec := "fnExactFormatSet", inPlace := ["internal/abi.NoEscape", "internal/bytealg.MakeNoZero"], unfollowed := true, recurses := true, named := ["math/bits.deBruijn32tab", "math/bits.deBruijn64tab", "internal/strconv.uint64pow10"], apart := false, laid := [("math/bits.deBruijn32tab", laid_math_bits_deBruijn32tab), ("math/bits.deBruijn64tab", laid_math_bits_deBruijn64tab), ("internal/strconv.uint64pow10", laid_internal_strconv_uint64pow10)] }
def FnExactFormatSetSaid : Prop := fnExactFormatSetRow.holds Tryd.pinned (OpenSpec.ofChange fnExactFormatSetSpec)

/-- ITS FALSE NEIGHBOUR: 'it returns false'. Refute it at one input. -/
def fnExactFormatSetWrong : ChangeSpec := { name := "fnExactFormatSet", fn := fun _ => fun
  | [d1, d2] => { results := [.lit (.bool false)], args := [d1, d2] }
  | _ => none }
def FnExactFormatSetWrongFalsely : Prop := fnExactFormatSetRow.holds Tryd.pinned (OpenSpec.ofChange fnExactFormatSetWrong)

/-- 'laws.FnExactSumOfSets': WHATEVER THE INPUT: true; the input reads as it did. -/
def fnExactSumOfSetsSpec : ChangeSpec := { name := "fnExactSumOfSets", fn := fun _ => fun
  | [d1, d2, d3] => { results := [.lit (.bool true)], args := [d1, d2, d3] }
  | _ => none }
def fnExactSumOfSetsRow : OpenClaim := { program := "ytkejpikhlejmaaadoor", sum := "b49982754d97c5df639a27bea47344a5d3b4846bfcca31f960a1e4ddd3eee1d2", func := "loop.example/g03402/laws.FnExactSumOfSets", spec := "fnExactSumOfSets", unfollowed := true, recurses := true, named := ["math/bits.deBruijn32tab", "math/bits.deBruijn64tab"], apart := false, laid := [("math/bits.deBruijn32tab", laid_math_bits_deBruijn32tab), ("math/bits.deBruijn64tab", laid_math_bits_deBruijn64tab)] }
def FnExactSumOfSetsSaid : Prop := fnExactSumOfSetsRow.holds Tryd.pinned (OpenSpec.ofChange fnExactSumOfSetsSpec)

/-- ITS FALSE NEIGHBOUR: 'it returns false'. Refute it at one input. -/
def fnExactSumOfSetsWrong : ChangeSpec := { name := "fnExactSumOfSets", fn := fun _ => fun
  | [d1, d2, d3] => { results := [.lit (.bool false)], args := [d1, d2, d3] }
  | _ => none }
def FnExactSumOfSetsWrongFalsely : Prop := fnExactSumOfSetsRow.holds Tryd.pinned (OpenSpec.ofChange fnExactSumOfSetsWrong)

/-- 'laws.FnExactDifferenceOfSets': WHATEVER THE INPUT: true; the input reads as it did. -/
def fnExactDifferenceOfSetsSpec : ChangeSpec := { name := "fnExactDifferenceOfSets", fn := fun _ => fun
  | [d1, d2, d3] => { results := [.lit (.bool true)], args := [d1, d2, d3] }
  | _ => none }
def fnExactDifferenceOfSetsRow : OpenClaim := { program := "ytkejpikhlejmaaadoor", sum := "b49982754d97c5df639a27bea47344a5d3b4846bfcca31f960a1e4ddd3eee1d2", func := "loop.example/g03402/laws.FnExactDifferenceOfSets", spec := "fnExactDifferenceOfSets", unfollowed := true, recurses := true, named := ["math/bits.deBruijn32tab", "math/bits.deBruijn64tab"], apart := false, laid := [("math/bits.deBruijn32tab", laid_math_bits_deBruijn32tab), ("math/bits.deBruijn64tab", laid_math_bits_deBruijn64tab)] }
def FnExactDifferenceOfSetsSaid : Prop := fnExactDifferenceOfSetsRow.holds Tryd.pinned (OpenSpec.ofChange fnExactDifferenceOfSetsSpec)

/-- ITS FALSE NEIGHBOUR: 'it returns false'. Refute it at one input. -/
def fnExactDifferenceOfSetsWrong : ChangeSpec := { name := "fnExactDifferenceOfSets", fn := fun _ => fun
  | [d1, d2, d3] => { results := [.lit (.bool false)], args := [d1, d2, d3] }
  | _ => none }
def FnExactDifferenceOfSetsWrongFalsely : Prop := fnExactDifferenceOfSetsRow.holds Tryd.pinned (OpenSpec.ofChange fnExactDifferenceOfSetsWrong)

/-- 'laws.FnExactMultipleSum': WHATEVER THE INPUT: true; the input reads as it did. -/
def fnExactMultipleSumSpec : ChangeSpec := { name := "fnExactMultipleSum", fn := fun _ => fun
  | [d1, d2, d3] => { results := [.lit (.bool true)], args := [d1, d2, d3] }
  | _ => none }
def fnExactMultipleSumRow : OpenClaim := { program := "ytkejpikhlejmaaadoor", sum := "b49982754d97c5df639a27bea47344a5d3b4846bfcca31f960a1e4ddd3eee1d2", func := "loop.example/g03402/laws.FnExactMultipleSum", spec := "fnExactMultipleSum", unfollowed := true, recurses := true, named := ["math/bits.deBruijn32tab", "math/bits.deBruijn64tab"], apart := false, laid := [("math/bits.deBruijn32tab", laid_math_bits_deBruijn32tab), ("math/bits.deBruijn64tab", laid_math_bits_deBruijn64tab)] }
def FnExactMultipleSumSaid : Prop := fnExactMultipleSumRow.holds Tryd.pinned (OpenSpec.ofChange fnExactMultipleSumSpec)

/-- ITS FALSE NEIGHBOUR: 'it returns false'. Refute it at one input. -/
def fnExactMultipleSumWrong : ChangeSpec := { name := "fnExactMultipleSum", fn := fun _ => fun
  | [d1, d2, d3] => { results := [.lit (.bool false)], args := [d1, d2, d3] }
  | _ => none }
def FnExactMultipleSumWrongFalsely : Prop := fnExactMultipleSumRow.holds Tryd.pinned (OpenSpec.ofChange fnExactMultipleSumWrong)

/-- 'laws.FnExactRestrictedSum': WHATEVER THE INPUT: true; the input reads as it did. -/
def fnExactRestrictedSumSpec : ChangeSpec := { name := "fnExactRestrictedSum", fn := fun _ => fun
  | [d1, d2, d3] => { results := [.lit (.bool true)], args := [d1, d2, d3] }
  | _ => none }
def fnExactRestrictedSumRow : OpenClaim := { program := "ytkejpikhlejmaaadoor", sum := "b49982754d97c5df639a27bea47344a5d3b4846bfcca31f960a1e4ddd3eee1d2", func := "loop.example/g03402/laws.FnExactRestrictedSum", spec := "fnExactRestrictedSum", unfollowed := true, recurses := true, named := ["math/bits.deBruijn32tab", "math/bits.deBruijn64tab"], apart := false, laid := [("math/bits.deBruijn32tab", laid_math_bits_deBruijn32tab), ("math/bits.deBruijn64tab", laid_math_bits_deBruijn64tab)] }
def FnExactRestrictedSumSaid : Prop := fnExactRestrictedSumRow.holds Tryd.pinned (OpenSpec.ofChange fnExactRestrictedSumSpec)

/-- ITS FALSE NEIGHBOUR: 'it returns false'. Refute it at one input. -/
def fnExactRestrictedSumWrong : ChangeSpec := { name := "fnExactRestrictedSum", fn := fun _ => fun
  | [d1, d2, d3] => { results := [.lit (.bool false)], args := [d1, d2, d3] }
  | _ => none }
def FnExactRestrictedSumWrongFalsely : Prop := fnExactRestrictedSumRow.holds Tryd.pinned (OpenSpec.ofChange fnExactRestrictedSumWrong)

/-- 'laws.FnExactCountSums': WHATEVER THE INPUT: true; the input reads as it did. -/
def fnExactCountSumsSpec : ChangeSpec := { name := "fnExactCountSums", fn := fun _ => fun
  | [d1, d2, d3, d4] => { results := [.lit (.bool true)], args := [d1, d2, d3, d4] }
  | _ => none }
def fnExactCountSumsRow : OpenClaim := { program := "ytkejpikhlejmaaadoor", sum := "b49982754d97c5df639a27bea47344a5d3b4846bfcca31f960a1e4ddd3eee1d2", func := "loop.example/g03402/laws.FnExactCountSums", spec := "fnExactCountSums", unfollowed := true, recurses := true, named := ["math/bits.deBruijn32tab", "math/bits.deBruijn64tab"], apart := false, laid := [("math/bits.deBruijn32tab", laid_math_bits_deBruijn32tab), ("math/bits.deBruijn64tab", laid_math_bits_deBruijn64tab)] }
def FnExactCountSumsSaid : Prop := fnExactCountSumsRow.holds Tryd.pinned (OpenSpec.ofChange fnExactCountSumsSpec)

/-- ITS FALSE NEIGHBOUR: 'it returns false'. Refute it at one input. -/
def fnExactCountSumsWrong : ChangeSpec := { name := "fnExactCountSums", fn := fun _ => fun
  | [d1, d2, d3, d4] => { results := [.lit (.bool false)], args := [d1, d2, d3, d4] }
  | _ => none }
def FnExactCountSumsWrongFalsely : Prop := fnExactCountSumsRow.holds Tryd.pinned (OpenSpec.ofChange fnExactCountSumsWrong)

/-- 'laws.FnExactSumTable': WHATEVER THE INPUT: true; the input reads as it did. -/
def fnExactSumTableSpec : ChangeSpec := { name := "fnExactSumTable", fn := fun _ => fun
  | [d1, d2, d3] => { results := [.lit (.bool true)], args := [d1, d2, d3] }
  | _ => none }
def fnExactSumTableRow : OpenClaim := { program := "ytkejpikhlejmaaadoor", sum := "b49982754d97c5df639a27bea47344a5d3b4846bfcca31f960a1e4ddd3eee1d2", func := "loop.example/g03402/laws.FnExactSumTable", spec := "fnExactSumTable", unfollowed := true, recurses := true, named := ["math/bits.deBruijn32tab", "math/bits.deBruijn64tab"], apart := false, laid := [("math/bits.deBruijn32tab", laid_math_bits_deBruijn32tab), ("math/bits.deBruijn64tab", laid_math_bits_deBruijn64tab)] }
def FnExactSumTableSaid : Prop := fnExactSumTableRow.holds Tryd.pinned (OpenSpec.ofChange fnExactSumTableSpec)

/-- ITS FALSE NEIGHBOUR: 'it returns false'. Refute it at one input. -/
def fnExactSumTableWrong : ChangeSpec := { name := "fnExactSumTable", fn := fun _ => fun
  | [d1, d2, d3] => { results := [.lit (.bool false)], args := [d1, d2, d3] }
  | _ => none }
def FnExactSumTableWrongFalsely : Prop := fnExactSumTableRow.holds Tryd.pinned (OpenSpec.ofChange fnExactSumTableWrong)

/-- 'laws.FnExactSubsetSums': WHATEVER THE INPUT: true; the input reads as it did. -/
def fnExactSubsetSumsSpec : ChangeSpec := { name := "fnExactSubsetSums", fn := fun _ => fun
  | [d1, d2] => { results := [.lit (.bool true)], args := [d1, d2] }
  | _ => none }
def fnExactSubsetSumsRow : OpenClaim := { program := "ytkejpikhlejmaaadoor", sum := "b49982754d97c5df639a27bea47344a5d3b4846bfcca31f960a1e4ddd3eee1d2", func := "loop.example/g03402/laws.FnExactSubsetSums", spec := "fnExactSubsetSums", unfollowed := true, recurses := true, named := ["math/bits.deBruijn32tab", "math/bits.deBruijn64tab"], apart := false, laid := [("math/bits.deBruijn32tab", laid_math_bits_deBruijn32tab), ("math/bits.deBruijn64tab", laid_math_bits_deBruijn64tab)] }
def FnExactSubsetSumsSaid : Prop := fnExactSubsetSumsRow.holds Tryd.pinned (OpenSpec.ofChange fnExactSubsetSumsSpec)

/-- ITS FALSE NEIGHBOUR: 'it returns false'. Refute it at one input. -/
def fnExactSubsetSumsWrong : ChangeSpec := { name := "fnExactSubsetSums", fn := fun _ => fun
  | [d1, d2] => { results := [.lit (.bool false)], args := [d1, d2] }
  | _ => none }
def FnExactSubsetSumsWrongFalsely : Prop := fnExactSubsetSumsRow.holds Tryd.pinned (OpenSpec.ofChange fnExactSubsetSumsWrong)

/- THE SECOND FORM. 'bulk': how many values and letters a reading holds, each counted each time it is reached (what is shared counts as often as it is met; a slice's spare places count too). A statement '..UptoSaid' is the law's where the arguments, and the package variables that the reading takes, are together of bulk at most 1048576: NARROWER than '..Said'. Prove '..Said' where nothing that the law and all that it calls make is longer than what came in: it says more and counts as full. Else prove '..UptoSaid'. A law counts once. -/
mutual
def uptoBulk {H : Type} : DataW H → Nat
  | .lit (.string bytes) => bytes.length + 1
  | .lit _ => 1
  | .nil => 1
  | .ptr d => uptoBulk d + 1
  | .slice elems spare => uptoBulkAll elems + uptoBulkAll spare + 1
  | .agg parts => uptoBulkAll parts + 1
  | .iface _ d => uptoBulk d + 1
  | .map entries => uptoBulkEntries entries + 1
  | .held _ => 1
def uptoBulkAll {H : Type} : List (DataW H) → Nat
  | [] => 0
  | d :: r => uptoBulk d + uptoBulkAll r
def uptoBulkEntries {H : Type} : List (Lit × DataW H) → Nat
  | [] => 0
  | x :: r => uptoBulkEntry x + uptoBulkEntries r
def uptoBulkEntry {H : Type} : Lit × DataW H → Nat
  | (.string bytes, d) => bytes.length + uptoBulk d + 1
  | (_, d) => uptoBulk d + 1
 end
def uptoSmall : (H : Type) → List (DataW H) → Bool := fun _ ds => decide (uptoBulkAll ds ≤ 1048576)
def OpenSpec.upto (s : _root_.Go.ChangeSpec) : _root_.Go.OpenSpec := { _root_.Go.OpenSpec.ofChange s with cond := some uptoSmall }

/-- 'laws.FnSums', WHERE WHAT IT READS IS OF BULK AT MOST 1048576: true; the input reads as it did. -/
def fnSumsUptoRow : OpenClaim := { program := "ytkejpikhlejmaaadoor", sum := "b49982754d97c5df639a27bea47344a5d3b4846bfcca31f960a1e4ddd3eee1d2", func := "loop.example/g03402/laws.FnSums", spec := "fnSums", unfollowed := true, recurses := true, named := ["math/bits.deBruijn32tab", "math/bits.deBruijn64tab"], apart := false, laid := [("math/bits.deBruijn32tab", laid_math_bits_deBruijn32tab), ("math/bits.deBruijn64tab", laid_math_bits_deBruijn64tab)], narrowed := true }
def FnSumsUptoSaid : Prop := fnSumsUptoRow.holds Tryd.pinned (OpenSpec.upto fnSumsSpec)

/-- 'laws.FnExactListOf', WHERE WHAT IT READS IS OF BULK AT MOST 1048576: true; the input reads as it did. -/
def fnExactListOfUptoRow : OpenClaim := { program := "ytkejpikhlejmaaadoor", sum := "b49982754d97c5df639a27bea47344a5d3b4846bfcca31f960a1e4ddd3eee1d2", func := "loop.example/g03402/laws.FnExactListOf", spec := "fnExactListOf", unfollowed := true, recurses := true, named := ["math/bits.deBruijn32tab", "math/bits.deBruijn64tab"], apart := false, laid := [("math/bits.deBruijn32tab", laid_math_bits_deBruijn32tab), ("math/bits.deBruijn64tab", laid_math_bits_deBruijn64tab)], narrowed := true }
def FnExactListOfUptoSaid : Prop := fnExactListOfUptoRow.holds Tryd.pinned (OpenSpec.upto fnExactListOfSpec)

/-- 'laws.FnExactNegateSet', WHERE WHAT IT READS IS OF BULK AT MOST 1048576: true; the input reads as it did. -/
def fnExactNegateSetUptoRow : OpenClaim := { program := "ytkejpikhlejmaaadoor", sum := "b49982754d97c5df639a27bea47344a5d3b4846bfcca31f960a1e4ddd3eee1d2", func := "loop.example/g03402/laws.FnExactNegateSet", spec := "fnExactNegateSet", unfollowed := true, recurses := true, named := ["math/bits.deBruijn32tab", "math/bits.deBruijn64tab"], apart := false, laid := [("math/bits.deBruijn32tab", laid_math_bits_deBruijn32tab), ("math/bits.deBruijn64tab", laid_math_bits_deBruijn64tab)], narrowed := true }
def FnExactNegateSetUptoSaid : Prop := fnExactNegateSetUptoRow.holds Tryd.pinned (OpenSpec.upto fnExactNegateSetSpec)

/-- 'laws.FnExactDilateSet', WHERE WHAT IT READS IS OF BULK AT MOST 1048576: true; the input reads as it did. -/
def fnExactDilateSetUptoRow : OpenClaim := { program := "ytkejpikhlejmaaadoor", sum := "b49982754d97c5df639a27bea47344a5d3b4846bfcca31f960a1e4ddd3eee1d2", func := "loop.example/g03402/laws.FnExactDilateSet", spec := "fnExactDilateSet", unfollowed := true, recurses := true, named := ["math/bits.deBruijn32tab", "math/bits.deBruijn64tab"], apart := false, laid := [("math/bits.deBruijn32tab", laid_math_bits_deBruijn32tab), ("math/bits.deBruijn64tab", laid_math_bits_deBruijn64tab)], narrowed := true }
def FnExactDilateSetUptoSaid : Prop := fnExactDilateSetUptoRow.holds Tryd.pinned (OpenSpec.upto fnExactDilateSetSpec)

/-- 'laws.FnExactFormatSet', WHERE WHAT IT READS IS OF BULK AT MOST 1048576: true; the input reads as it did. -/
def fnExactFormatSetUptoRow : OpenClaim := { program := "ytkejpikhlejmaaadoor", sum := "b49982754d97c5df639a27bea47344a5d3b4846bfcca31f960a1e4ddd3eee1d2", func := "loop.example/g03402/laws.FnExactFormatSet", spec := "fnExactFormatSet", inPlace := ["internal/abi.NoEscape", "internal/bytealg.MakeNoZero"], unfollowed := true, recurses := true, named := ["math/bits.deBruijn32tab", "math/bits.deBruijn64tab", "internal/strconv.uint64pow10"], apart := false, laid := [("math/bits.deBruijn32tab", laid_math_bits_deBruijn32tab), ("math/bits.deBruijn64tab", laid_math_bits_deBruijn64tab), ("internal/strconv.uint64pow10", laid_internal_strconv_uint64pow10)], narrowed := true }
def FnExactFormatSetUptoSaid : Prop := fnExactFormatSetUptoRow.holds Tryd.pinned (OpenSpec.upto fnExactFormatSetSpec)

/-- 'laws.FnExactSumOfSets', WHERE WHAT IT READS IS OF BULK AT MOST 1048576: true; the input reads as it did. -/
def fnExactSumOfSetsUptoRow : OpenClaim := { program := "ytkejpikhlejmaaadoor", sum := "b49982754d97c5df639a27bea47344a5d3b4846bfcca31f960a1e4ddd3eee1d2", func := "loop.example/g03402/laws.FnExactSumOfSets", spec := "fnExactSumOfSets", unfollowed := true, recurses := true, named := ["math/bits.deBruijn32tab", "math/bits.deBruijn64tab"], apart := false, laid := [("math/bits.deBruijn32tab", laid_math_bits_deBruijn32tab), ("math/bits.deBruijn64tab", laid_math_bits_deBruijn64tab)], narrowed := true }
def FnExactSumOfSetsUptoSaid : Prop := fnExactSumOfSetsUptoRow.holds Tryd.pinned (OpenSpec.upto fnExactSumOfSetsSpec)

/-- 'laws.FnExactDifferenceOfSets', WHERE WHAT IT READS IS OF BULK AT MOST 1048576: true; the input reads as it did. -/
def fnExactDifferenceOfSetsUptoRow : OpenClaim := { program := "ytkejpikhlejmaaadoor", sum := "b49982754d97c5df639a27bea47344a5d3b4846bfcca31f960a1e4ddd3eee1d2", func := "loop.example/g03402/laws.FnExactDifferenceOfSets", spec := "fnExactDifferenceOfSets", unfollowed := true, recurses := true, named := ["math/bits.deBruijn32tab", "math/bits.deBruijn64tab"], apart := false, laid := [("math/bits.deBruijn32tab", laid_math_bits_deBruijn32tab), ("math/bits.deBruijn64tab", laid_math_bits_deBruijn64tab)], narrowed := true }
def FnExactDifferenceOfSetsUptoSaid : Prop := fnExactDifferenceOfSetsUptoRow.holds Tryd.pinned (OpenSpec.upto fnExactDifferenceOfSetsSpec)

/-- 'laws.FnExactMultipleSum', WHERE WHAT IT READS IS OF BULK AT MOST 1048576: true; the input reads as it did. -/
def fnExactMultipleSumUptoRow : OpenClaim := { program := "ytkejpikhlejmaaadoor", sum := "b49982754d97c5df639a27bea47344a5d3b4846bfcca31f960a1e4ddd3eee1d2", func := "loop.example/g03402/laws.FnExactMultipleSum", spec := "fnExactMultipleSum", unfollowed := true, recurses := true, named := ["math/bits.deBruijn32tab", "math/bits.deBruijn64tab"], apart := false, laid := [("math/bits.deBruijn32tab", laid_math_bits_deBruijn32tab), ("math/bits.deBruijn64tab", laid_math_bits_deBruijn64tab)], narrowed := true }
def FnExactMultipleSumUptoSaid : Prop := fnExactMultipleSumUptoRow.holds Tryd.pinned (OpenSpec.upto fnExactMultipleSumSpec)

/-- 'laws.FnExactRestrictedSum', WHERE WHAT IT READS IS OF BULK AT MOST 1048576: true; the input reads as it did. -/
def fnExactRestrictedSumUptoRow : OpenClaim := { program := "ytkejpikhlejmaaadoor", sum := "b49982754d97c5df639a27bea47344a5d3b4846bfcca31f960a1e4ddd3eee1d2", func := "loop.example/g03402/laws.FnExactRestrictedSum", spec := "fnExactRestrictedSum", unfollowed := true, recurses := true, named := ["math/bits.deBruijn32tab", "math/bits.deBruijn64tab"], apart := false, laid := [("math/bits.deBruijn32tab", laid_math_bits_deBruijn32tab), ("math/bits.deBruijn64tab", laid_math_bits_deBruijn64tab)], narrowed := true }
def FnExactRestrictedSumUptoSaid : Prop := fnExactRestrictedSumUptoRow.holds Tryd.pinned (OpenSpec.upto fnExactRestrictedSumSpec)

/-- 'laws.FnExactCountSums', WHERE WHAT IT READS IS OF BULK AT MOST 1048576: true; the input reads as it did. -/
def fnExactCountSumsUptoRow : OpenClaim := { program := "ytkejpikhlejmaaadoor", sum := "b49982754d97c5df639a27bea47344a5d3b4846bfcca31f960a1e4ddd3eee1d2", func := "loop.example/g03402/laws.FnExactCountSums", spec := "fnExactCountSums", unfollowed := true, recurses := true, named := ["math/bits.deBruijn32tab", "math/bits.deBruijn64tab"], apart := false, laid := [("math/bits.deBruijn32tab", laid_math_bits_deBruijn32tab), ("math/bits.deBruijn64tab", laid_math_bits_deBruijn64tab)], narrowed := true }
def FnExactCountSumsUptoSaid : Prop := fnExactCountSumsUptoRow.holds Tryd.pinned (OpenSpec.upto fnExactCountSumsSpec)

/-- 'laws.FnExactSumTable', WHERE WHAT IT READS IS OF BULK AT MOST 1048576: true; the input reads as it did. -/
def fnExactSumTableUptoRow : OpenClaim := { program := "ytkejpikhlejmaaadoor", sum := "b49982754d97c5df639a27bea47344a5d3b4846bfcca31f960a1e4ddd3eee1d2", func := "loop.example/g03402/laws.FnExactSumTable", spec := "fnExactSumTable", unfollowed := true, recurses := true, named := ["math/bits.deBruijn32tab", "math/bits.deBruijn64tab"], apart := false, laid := [("math/bits.deBruijn32tab", laid_math_bits_deBruijn32tab), ("math/bits.deBruijn64tab", laid_math_bits_deBruijn64tab)], narrowed := true }
def FnExactSumTableUptoSaid : Prop := fnExactSumTableUptoRow.holds Tryd.pinned (OpenSpec.upto fnExactSumTableSpec)

/-- 'laws.FnExactSubsetSums', WHERE WHAT IT READS IS OF BULK AT MOST 1048576: true; the input reads as it did. -/
def fnExactSubsetSumsUptoRow : OpenClaim := { program := "ytkejpikhlejmaaadoor", sum := "b49982754d97c5df639a27bea47344a5d3b4846bfcca31f960a1e4ddd3eee1d2", func := "loop.example/g03402/laws.FnExactSubsetSums", spec := "fnExactSubsetSums", unfollowed := true, recurses := true, named := ["math/bits.deBruijn32tab", "math/bits.deBruijn64tab"], apart := false, laid := [("math/bits.deBruijn32tab", laid_math_bits_deBruijn32tab), ("math/bits.deBruijn64tab", laid_math_bits_deBruijn64tab)], narrowed := true }
def FnExactSubsetSumsUptoSaid : Prop := fnExactSubsetSumsUptoRow.holds Tryd.pinned (OpenSpec.upto fnExactSubsetSumsSpec)

end Rows
end Go.Proofs.YtkejpikhlejmaaaDoor
