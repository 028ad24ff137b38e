/-
  NARROWER THAN 'FOR EVERY INPUT', by the rows' own cells (each row's printed sentence says how): FnSums: laid · FnEnergies: laid · FnExactSumTable: laid · FnExactCorrelationOf: laid · FnExactEnergyOf: laid · FnExactQuadruplesOf: laid · FnExactPopularSums: laid · FnExactTripleCount: laid.
  DERIVED. THE GIVEN ROWS OF THIS SEAT. 8 by the template 'for every input the law returns true; each argument reads behind the call as it read before'; 0 by the template 'total and deterministic' (their statements: YthlpjiibjlaebaaDoorTotals.lean).
  GIVEN WITH THE SEED: the statements are not yours to turn. If you find one false, say at which input.
  Laid BY PROGRAM, IN A SANDBOX (cutbox-rows.mjs): the forced cells as the released guide's own fill.sh prints them over the translation 2beeee47933e0718… (all of the seat's roots in one cut). By AI agents, Wed Nov 11 2026. No macro, syntax, notation, axiom, sorry.
-/
import Derived.Test.YthlpjiibjlaebaaDoorChecked
import GoSem.Claim
import GoSem.ClaimJoined
import GoSem.ClaimMapViews
import Derived.JoinedTies
import Derived.KernelRfl
namespace Go.Proofs.YthlpjiibjlaebaaDoor
/- THE CELL 'sum', in the pinned program and in every row, IS THE sha256 OF THE DUMP (.gsa) THAT YthlpjiibjlaebaaDoorProg.lean LOADS. Nothing in Lean hashes anything: it is a label: what it is worth is what the hold of that sum in a sandbox is worth. -/
noncomputable def Tryd.pinned : Pinned := { name := "ythlpjiibjlaebaadoor", sum := "2beeee47933e071812a2e6d1bf9bf920e10b516cf81dccf0e799fbf03cde05c7", checked := Tryd.checked }
namespace Rows
def none {H : Type} : Left H := { results := [], args := [] }

/- WHAT THE LISTED PACKAGE-LEVEL VARIABLES READ AS WHEN THE CALL BEGINS. Each datum BY PROGRAM (the guide's laid-datum.mjs) off the statement by which the dump's own 'gosem.cut.vars' lays the variable. In a bare row this is a premise. The card (YthlpjiibjlaebaaDoorCards.lean) ties it to the program's text. -/
def laid_math_bits_deBruijn32tab {H : Type} : DataW H := .agg [.lit (.int .u8 0), .lit (.int .u8 1), .lit (.int .u8 28), .lit (.int .u8 2), .lit (.int .u8 29), .lit (.int .u8 14), .lit (.int .u8 24), .lit (.int .u8 3), .lit (.int .u8 30), .lit (.int .u8 22), .lit (.int .u8 20), .lit (.int .u8 15), .lit (.int .u8 25), .lit (.int .u8 17), .lit (.int .u8 4), .lit (.int .u8 8), .lit (.int .u8 31), .lit (.int .u8 27), .lit (.int .u8 13), .lit (.int .u8 23), .lit (.int .u8 21), .lit (.int .u8 19), .lit (.int .u8 16), .lit (.int .u8 7), .lit (.int .u8 26), .lit (.int .u8 12), .lit (.int .u8 18), .lit (.int .u8 6), .lit (.int .u8 11), .lit (.int .u8 5), .lit (.int .u8 10), .lit (.int .u8 9)]
def laid_math_bits_deBruijn64tab {H : Type} : DataW H := .agg [.lit (.int .u8 0), .lit (.int .u8 1), .lit (.int .u8 56), .lit (.int .u8 2), .lit (.int .u8 57), .lit (.int .u8 49), .lit (.int .u8 28), .lit (.int .u8 3), .lit (.int .u8 61), .lit (.int .u8 58), .lit (.int .u8 42), .lit (.int .u8 50), .lit (.int .u8 38), .lit (.int .u8 29), .lit (.int .u8 17), .lit (.int .u8 4), .lit (.int .u8 62), .lit (.int .u8 47), .lit (.int .u8 59), .lit (.int .u8 36), .lit (.int .u8 45), .lit (.int .u8 43), .lit (.int .u8 51), .lit (.int .u8 22), .lit (.int .u8 53), .lit (.int .u8 39), .lit (.int .u8 33), .lit (.int .u8 30), .lit (.int .u8 24), .lit (.int .u8 18), .lit (.int .u8 12), .lit (.int .u8 5), .lit (.int .u8 63), .lit (.int .u8 55), .lit (.int .u8 48), .lit (.int .u8 27), .lit (.int .u8 60), .lit (.int .u8 41), .lit (.int .u8 37), .lit (.int .u8 16), .lit (.int .u8 46), .lit (.int .u8 35), .lit (.int .u8 44), .lit (.int .u8 21), .lit (.int .u8 52), .lit (.int .u8 32), .lit (.int .u8 23), .lit (.int .u8 11), .lit (.int .u8 54), .lit (.int .u8 26), .lit (.int .u8 40), .lit (.int .u8 15), .lit (.int .u8 34), .lit (.int .u8 20), .lit (.int .u8 31), .lit (.int .u8 10), .lit (.int .u8 25), .lit (.int .u8 14), .lit (.int .u8 19), .lit (.int .u8 9), .lit (.int .u8 13), .lit (.int .u8 8), .lit (.int .u8 7), .lit (.int .u8 6)]

/-- 'laws.FnSums': WHATEVER THE INPUT: true; the input reads as it did. -/
def fnSumsSpec : ChangeSpec := { name := "fnSums", fn := fun _ => fun
  | [d] => { results := [.lit (.bool true)], args := [d] }
  | _ => none }
def fnSumsRow : OpenClaim := { program := "ythlpjiibjlaebaadoor", sum := "2beeee47933e071812a2e6d1bf9bf920e10b516cf81dccf0e799fbf03cde05c7", func := "loop.example/g03402/laws.FnSums", spec := "fnSums", unfollowed := true, recurses := true, named := ["math/bits.deBruijn32tab", "math/bits.deBruijn64tab"], apart := false, laid := [("math/bits.deBruijn32tab", laid_math_bits_deBruijn32tab), ("math/bits.deBruijn64tab", laid_math_bits_deBruijn64tab)] }
def FnSumsSaid : Prop := fnSumsRow.holds Tryd.pinned (OpenSpec.ofChange fnSumsSpec)

/-- ITS FALSE NEIGHBOUR: 'it returns false'. Refute it at one input. -/
def fnSumsWrong : ChangeSpec := { name := "fnSums", fn := fun _ => fun
  | [d] => { results := [.lit (.bool false)], args := [d] }
  | _ => none }
def FnSumsWrongFalsely : Prop := fnSumsRow.holds Tryd.pinned (OpenSpec.ofChange fnSumsWrong)

/-- 'laws.FnEnergies': WHATEVER THE INPUT: true; the input reads as it did. -/
def fnEnergiesSpec : ChangeSpec := { name := "fnEnergies", fn := fun _ => fun
  | [d] => { results := [.lit (.bool true)], args := [d] }
  | _ => none }
def fnEnergiesRow : OpenClaim := { program := "ythlpjiibjlaebaadoor", sum := "2beeee47933e071812a2e6d1bf9bf920e10b516cf81dccf0e799fbf03cde05c7", func := "loop.example/g03402/laws.FnEnergies", spec := "fnEnergies", unfollowed := true, recurses := true, named := ["math/bits.deBruijn32tab", "math/bits.deBruijn64tab"], apart := false, laid := [("math/bits.deBruijn32tab", laid_math_bits_deBruijn32tab), ("math/bits.deBruijn64tab", laid_math_bits_deBruijn64tab)] }
def FnEnergiesSaid : Prop := fnEnergiesRow.holds Tryd.pinned (OpenSpec.ofChange fnEnergiesSpec)

/-- ITS FALSE NEIGHBOUR: 'it returns false'. Refute it at one input. -/
def fnEnergiesWrong : ChangeSpec := { name := "fnEnergies", fn := fun _ => fun
  | [d] => { results := [.lit (.bool false)], args := [d] }
  | _ => none }
def FnEnergiesWrongFalsely : Prop := fnEnergiesRow.holds Tryd.pinned (OpenSpec.ofChange fnEnergiesWrong)

/-- 'laws.FnExactSumTable': WHATEVER THE INPUT: true; the input reads as it did. -/
def fnExactSumTableSpec : ChangeSpec := { name := "fnExactSumTable", fn := fun _ => fun
  | [d1, d2, d3] => { results := [.lit (.bool true)], args := [d1, d2, d3] }
  | _ => none }
def fnExactSumTableRow : OpenClaim := { program := "ythlpjiibjlaebaadoor", sum := "2beeee47933e071812a2e6d1bf9bf920e10b516cf81dccf0e799fbf03cde05c7", func := "loop.example/g03402/laws.FnExactSumTable", spec := "fnExactSumTable", unfollowed := true, recurses := true, named := ["math/bits.deBruijn32tab", "math/bits.deBruijn64tab"], apart := false, laid := [("math/bits.deBruijn32tab", laid_math_bits_deBruijn32tab), ("math/bits.deBruijn64tab", laid_math_bits_deBruijn64tab)] }
def FnExactSumTableSaid : Prop := fnExactSumTableRow.holds Tryd.pinned (OpenSpec.ofChange fnExactSumTableSpec)

/-- ITS FALSE NEIGHBOUR: 'it returns false'. Refute it at one input. -/
def fnExactSumTableWrong : ChangeSpec := { name := "fnExactSumTable", fn := fun _ => fun
  | [d1, d2, d3] => { results := [.lit (.bool false)], args := [d1, d2, d3] }
  | _ => none }
def FnExactSumTableWrongFalsely : Prop := fnExactSumTableRow.holds Tryd.pinned (OpenSpec.ofChange fnExactSumTableWrong)

/-- 'laws.FnExactCorrelationOf': WHATEVER THE INPUT: true; the input reads as it did. -/
def fnExactCorrelationOfSpec : ChangeSpec := { name := "fnExactCorrelationOf", fn := fun _ => fun
  | [d1, d2, d3] => { results := [.lit (.bool true)], args := [d1, d2, d3] }
  | _ => none }
def fnExactCorrelationOfRow : OpenClaim := { program := "ythlpjiibjlaebaadoor", sum := "2beeee47933e071812a2e6d1bf9bf920e10b516cf81dccf0e799fbf03cde05c7", func := "loop.example/g03402/laws.FnExactCorrelationOf", spec := "fnExactCorrelationOf", unfollowed := true, recurses := true, named := ["math/bits.deBruijn32tab", "math/bits.deBruijn64tab"], apart := false, laid := [("math/bits.deBruijn32tab", laid_math_bits_deBruijn32tab), ("math/bits.deBruijn64tab", laid_math_bits_deBruijn64tab)] }
def FnExactCorrelationOfSaid : Prop := fnExactCorrelationOfRow.holds Tryd.pinned (OpenSpec.ofChange fnExactCorrelationOfSpec)

/-- ITS FALSE NEIGHBOUR: 'it returns false'. Refute it at one input. -/
def fnExactCorrelationOfWrong : ChangeSpec := { name := "fnExactCorrelationOf", fn := fun _ => fun
  | [d1, d2, d3] => { results := [.lit (.bool false)], args := [d1, d2, d3] }
  | _ => none }
def FnExactCorrelationOfWrongFalsely : Prop := fnExactCorrelationOfRow.holds Tryd.pinned (OpenSpec.ofChange fnExactCorrelationOfWrong)

/-- 'laws.FnExactEnergyOf': WHATEVER THE INPUT: true; the input reads as it did. -/
def fnExactEnergyOfSpec : ChangeSpec := { name := "fnExactEnergyOf", fn := fun _ => fun
  | [d1, d2, d3] => { results := [.lit (.bool true)], args := [d1, d2, d3] }
  | _ => none }
def fnExactEnergyOfRow : OpenClaim := { program := "ythlpjiibjlaebaadoor", sum := "2beeee47933e071812a2e6d1bf9bf920e10b516cf81dccf0e799fbf03cde05c7", func := "loop.example/g03402/laws.FnExactEnergyOf", spec := "fnExactEnergyOf", unfollowed := true, recurses := true, named := ["math/bits.deBruijn32tab", "math/bits.deBruijn64tab"], apart := false, laid := [("math/bits.deBruijn32tab", laid_math_bits_deBruijn32tab), ("math/bits.deBruijn64tab", laid_math_bits_deBruijn64tab)] }
def FnExactEnergyOfSaid : Prop := fnExactEnergyOfRow.holds Tryd.pinned (OpenSpec.ofChange fnExactEnergyOfSpec)

/-- ITS FALSE NEIGHBOUR: 'it returns false'. Refute it at one input. -/
def fnExactEnergyOfWrong : ChangeSpec := { name := "fnExactEnergyOf", fn := fun _ => fun
  | [d1, d2, d3] => { results := [.lit (.bool false)], args := [d1, d2, d3] }
  | _ => none }
def FnExactEnergyOfWrongFalsely : Prop := fnExactEnergyOfRow.holds Tryd.pinned (OpenSpec.ofChange fnExactEnergyOfWrong)

/-- 'laws.FnExactQuadruplesOf': WHATEVER THE INPUT: true; the input reads as it did. -/
def fnExactQuadruplesOfSpec : ChangeSpec := { name := "fnExactQuadruplesOf", fn := fun _ => fun
  | [d1, d2] => { results := [.lit (.bool true)], args := [d1, d2] }
  | _ => none }
def fnExactQuadruplesOfRow : OpenClaim := { program := "ythlpjiibjlaebaadoor", sum := "2beeee47933e071812a2e6d1bf9bf920e10b516cf81dccf0e799fbf03cde05c7", func := "loop.example/g03402/laws.FnExactQuadruplesOf", spec := "fnExactQuadruplesOf", unfollowed := true, recurses := true, named := ["math/bits.deBruijn32tab", "math/bits.deBruijn64tab"], apart := false, laid := [("math/bits.deBruijn32tab", laid_math_bits_deBruijn32tab), ("math/bits.deBruijn64tab", laid_math_bits_deBruijn64tab)] }
def FnExactQuadruplesOfSaid : Prop := fnExactQuadruplesOfRow.holds Tryd.pinned (OpenSpec.ofChange fnExactQuadruplesOfSpec)

/-- ITS FALSE NEIGHBOUR: 'it returns false'. Refute it at one input. -/
def fnExactQuadruplesOfWrong : ChangeSpec := { name := "fnExactQuadruplesOf", fn := fun _ => fun
  | [d1, d2] => { results := [.lit (.bool false)], args := [d1, d2] }
  | _ => none }
def FnExactQuadruplesOfWrongFalsely : Prop := fnExactQuadruplesOfRow.holds Tryd.pinned (OpenSpec.ofChange fnExactQuadruplesOfWrong)

/-- 'laws.FnExactPopularSums': WHATEVER THE INPUT: true; the input reads as it did. -/
def fnExactPopularSumsSpec : ChangeSpec := { name := "fnExactPopularSums", fn := fun _ => fun
  | [d1, d2, d3, d4] => { results := [.lit (.bool true)], args := [d1, d2, d3, d4] }
  | _ => none }
def fnExactPopularSumsRow : OpenClaim := { program := "ythlpjiibjlaebaadoor", sum := "2beeee47933e071812a2e6d1bf9bf920e10b516cf81dccf0e799fbf03cde05c7", func := "loop.example/g03402/laws.FnExactPopularSums", spec := "fnExactPopularSums", unfollowed := true, recurses := true, named := ["math/bits.deBruijn32tab", "math/bits.deBruijn64tab"], apart := false, laid := [("math/bits.deBruijn32tab", laid_math_bits_deBruijn32tab), ("math/bits.deBruijn64tab", laid_math_bits_deBruijn64tab)] }
def FnExactPopularSumsSaid : Prop := fnExactPopularSumsRow.holds Tryd.pinned (OpenSpec.ofChange fnExactPopularSumsSpec)

/-- ITS FALSE NEIGHBOUR: 'it returns false'. Refute it at one input. -/
def fnExactPopularSumsWrong : ChangeSpec := { name := "fnExactPopularSums", fn := fun _ => fun
  | [d1, d2, d3, d4] => { results := [.lit (.bool false)], args := [d1, d2, d3, d4] }
  | _ => none }
def FnExactPopularSumsWrongFalsely : Prop := fnExactPopularSumsRow.holds Tryd.pinned (OpenSpec.ofChange fnExactPopularSumsWrong)

/-- 'laws.FnExactTripleCount': WHATEVER THE INPUT: true; the input reads as it did. -/
def fnExactTripleCountSpec : ChangeSpec := { name := "fnExactTripleCount", fn := fun _ => fun
  | [d1, d2, d3, d4] => { results := [.lit (.bool true)], args := [d1, d2, d3, d4] }
  | _ => none }
def fnExactTripleCountRow : OpenClaim := { program := "ythlpjiibjlaebaadoor", sum := "2beeee47933e071812a2e6d1bf9bf920e10b516cf81dccf0e799fbf03cde05c7", func := "loop.example/g03402/laws.FnExactTripleCount", spec := "fnExactTripleCount", unfollowed := true, recurses := true, named := ["math/bits.deBruijn32tab", "math/bits.deBruijn64tab"], apart := false, laid := [("math/bits.deBruijn32tab", laid_math_bits_deBruijn32tab), ("math/bits.deBruijn64tab", laid_math_bits_deBruijn64tab)] }
def FnExactTripleCountSaid : Prop := fnExactTripleCountRow.holds Tryd.pinned (OpenSpec.ofChange fnExactTripleCountSpec)

/-- ITS FALSE NEIGHBOUR: 'it returns false'. Refute it at one input. -/
def fnExactTripleCountWrong : ChangeSpec := { name := "fnExactTripleCount", fn := fun _ => fun
  | [d1, d2, d3, d4] => { results := [.lit (.bool false)], args := [d1, d2, d3, d4] }
  | _ => none }
def FnExactTripleCountWrongFalsely : Prop := fnExactTripleCountRow.holds Tryd.pinned (OpenSpec.ofChange fnExactTripleCountWrong)

/- THE SECOND FORM. 'bulk': how many values and letters a reading holds, each counted each time it is reached (what is shared counts as often as it is met; a slice's spare places count too). A statement '..UptoSaid' is the law's where the arguments, and the package variables that the reading takes, are together of bulk at most 1048576: NARROWER than '..Said'. Prove '..Said' where nothing that the law and all that it calls make is longer than what came in: it says more and counts as full. Else prove '..UptoSaid'. A law counts once. -/
mutual
def uptoBulk {H : Type} : DataW H → Nat
  | .lit (.string bytes) => bytes.length + 1
  | .lit _ => 1
  | .nil => 1
  | .ptr d => uptoBulk d + 1
  | .slice elems spare => uptoBulkAll elems + uptoBulkAll spare + 1
  | .agg parts => uptoBulkAll parts + 1
  | .iface _ d => uptoBulk d + 1
  | .map entries => uptoBulkEntries entries + 1
  | .held _ => 1
def uptoBulkAll {H : Type} : List (DataW H) → Nat
  | [] => 0
  | d :: r => uptoBulk d + uptoBulkAll r
def uptoBulkEntries {H : Type} : List (Lit × DataW H) → Nat
  | [] => 0
  | x :: r => uptoBulkEntry x + uptoBulkEntries r
def uptoBulkEntry {H : Type} : Lit × DataW H → Nat
  | (.string bytes, d) => bytes.length + uptoBulk d + 1
  | (_, d) => uptoBulk d + 1
 end
def uptoSmall : (H : Type) → List (DataW H) → Bool := fun _ ds => decide (uptoBulkAll ds ≤ 1048576)
def OpenSpec.upto (s : _root_.Go.ChangeSpec) : _root_.Go.OpenSpec := { _root_.Go.OpenSpec.ofChange s with cond := some uptoSmall }

/-- 'laws.FnSums', WHERE WHAT IT READS IS OF BULK AT MOST 1048576: true; the input reads as it did. -/
def fnSumsUptoRow : OpenClaim := { program := "ythlpjiibjlaebaadoor", sum := "2beeee47933e071812a2e6d1bf9bf920e10b516cf81dccf0e799fbf03cde05c7", func := "loop.example/g03402/laws.FnSums", spec := "fnSums", unfollowed := true, recurses := true, named := ["math/bits.deBruijn32tab", "math/bits.deBruijn64tab"], apart := false, laid := [("math/bits.deBruijn32tab", laid_math_bits_deBruijn32tab), ("math/bits.deBruijn64tab", laid_math_bits_deBruijn64tab)], narrowed := true }
def FnSumsUptoSaid : Prop := fnSumsUptoRow.holds Tryd.pinned (OpenSpec.upto fnSumsSpec)

/-- 'laws.FnEnergies', WHERE WHAT IT READS IS OF BULK AT MOST 1048576: true; the input reads as it did. -/
def fnEnergiesUptoRow : OpenClaim := { program := "ythlpjiibjlaebaadoor", sum := "2beeee47933e071812a2e6d1bf9bf920e10b516cf81dccf0e799fbf03cde05c7", func := "loop.example/g03402/laws.FnEnergies", spec := "fnEnergies", unfollowed := true, recurses := true, named := ["math/bits.deBruijn32tab", "math/bits.deBruijn64tab"], apart := false, laid := [("math/bits.deBruijn32tab", laid_math_bits_deBruijn32tab), ("math/bits.deBruijn64tab", laid_math_bits_deBruijn64tab)], narrowed := true }
def FnEnergiesUptoSaid : Prop := fnEnergiesUptoRow.holds Tryd.pinned (OpenSpec.upto fnEnergiesSpec)

/-- 'laws.FnExactSumTable', WHERE WHAT IT READS IS OF BULK AT MOST 1048576: true; the input reads as it did. -/
def fnExactSumTableUptoRow : OpenClaim := { program := "ythlpjiibjlaebaadoor", sum := "2beeee47933e071812a2e6d1bf9bf920e10b516cf81dccf0e799fbf03cde05c7", func := "loop.example/g03402/laws.FnExactSumTable", spec := "fnExactSumTable", unfollowed := true, recurses := true, named := ["math/bits.deBruijn32tab", "math/bits.deBruijn64tab"], apart := false, laid := [("math/bits.deBruijn32tab", laid_math_bits_deBruijn32tab), ("math/bits.deBruijn64tab", laid_math_bits_deBruijn64tab)], narrowed := true }
def FnExactSumTableUptoSaid : Prop := fnExactSumTableUptoRow.holds Tryd.pinned (OpenSpec.upto fnExactSumTableSpec)

/-- 'laws.FnExactCorrelationOf', WHERE WHAT IT READS IS OF BULK AT MOST 1048576: true; the input reads as it did. -/
def fnExactCorrelationOfUptoRow : OpenClaim := { program := "ythlpjiibjlaebaadoor", sum := "2beeee47933e071812a2e6d1bf9bf920e10b516cf81dccf0e799fbf03cde05c7", func := "loop.example/g03402/laws.FnExactCorrelationOf", spec := "fnExactCorrelationOf", unfollowed := true, recurses := true, named := ["math/bits.deBruijn32tab", "math/bits.deBruijn64tab"], apart := false, laid := [("math/bits.deBruijn32tab", laid_math_bits_deBruijn32tab), ("math/bits.deBruijn64tab", laid_math_bits_deBruijn64tab)], narrowed := true }
def FnExactCorrelationOfUptoSaid : Prop := fnExactCorrelationOfUptoRow.holds Tryd.pinned (OpenSpec.upto fnExactCorrelationOfSpec)

/-- 'laws.FnExactEnergyOf', WHERE WHAT IT READS IS OF BULK AT MOST 1048576: true; the input reads as it did. -/
def fnExactEnergyOfUptoRow : OpenClaim := { program := "ythlpjiibjlaebaadoor", sum := "2beeee47933e071812a2e6d1bf9bf920e10b516cf81dccf0e799fbf03cde05c7", func := "loop.example/g03402/laws.FnExactEnergyOf", spec := "fnExactEnergyOf", unfollowed := true, recurses := true, named := ["math/bits.deBruijn32tab", "math/bits.deBruijn64tab"], apart := false, laid := [("math/bits.deBruijn32tab", laid_math_bits_deBruijn32tab), ("math/bits.deBruijn64tab", laid_math_bits_deBruijn64tab)], narrowed := true }
def FnExactEnergyOfUptoSaid : Prop := fnExactEnergyOfUptoRow.holds Tryd.pinned (OpenSpec.upto fnExactEnergyOfSpec)

/-- 'laws.FnExactQuadruplesOf', WHERE WHAT IT READS IS OF BULK AT MOST 1048576: true; the input reads as it did. -/
def fnExactQuadruplesOfUptoRow : OpenClaim := { program := "ythlpjiibjlaebaadoor", sum := "2beeee47933e071812a2e6d1bf9bf920e10b516cf81dccf0e799fbf03cde05c7", func := "loop.example/g03402/laws.FnExactQuadruplesOf", spec := "fnExactQuadruplesOf", unfollowed := true, recurses := true, named := ["math/bits.deBruijn32tab", "math/bits.deBruijn64tab"], apart := false, laid := [("math/bits.deBruijn32tab", laid_math_bits_deBruijn32tab), ("math/bits.deBruijn64tab", laid_math_bits_deBruijn64tab)], narrowed := true }
def FnExactQuadruplesOfUptoSaid : Prop := fnExactQuadruplesOfUptoRow.holds Tryd.pinned (OpenSpec.upto fnExactQuadruplesOfSpec)

/-- 'laws.FnExactPopularSums', WHERE WHAT IT READS IS OF BULK AT MOST 1048576: true; the input reads as it did. -/
def fnExactPopularSumsUptoRow : OpenClaim := { program := "ythlpjiibjlaebaadoor", sum := "2beeee47933e071812a2e6d1bf9bf920e10b516cf81dccf0e799fbf03cde05c7", func := "loop.example/g03402/laws.FnExactPopularSums", spec := "fnExactPopularSums", unfollowed := true, recurses := true, named := ["math/bits.deBruijn32tab", "math/bits.deBruijn64tab"], apart := false, laid := [("math/bits.deBruijn32tab", laid_math_bits_deBruijn32tab), ("math/bits.deBruijn64tab", laid_math_bits_deBruijn64tab)], narrowed := true }
def FnExactPopularSumsUptoSaid : Prop := fnExactPopularSumsUptoRow.holds Tryd.pinned (OpenSpec.upto fnExactPopularSumsSpec)

/-- 'laws.FnExactTripleCount', WHERE WHAT IT READS IS OF BULK AT MOST 1048576: true; the input reads as it did. -/
def fnExactTripleCountUptoRow : OpenClaim := { program := "ythlpjiibjlaebaadoor", sum := "2beeee47933e071812a2e6d1bf9bf920e10b516cf81dccf0e799fbf03cde05c7", func := "loop.example/g03402/laws.FnExactTripleCount", spec := "fnExactTripleCount", unfollowed := true, recurses := true, named := ["math/bits.deBruijn32tab", "math/bits.deBruijn64tab"], apart := false, laid := [("math/bits.deBruijn32tab", laid_math_bits_deBruijn32tab), ("math/bits.deBruijn64tab", laid_math_bits_deBruijn64tab)], narrowed := true }
def FnExactTripleCountUptoSaid : Prop := fnExactTripleCountUptoRow.holds Tryd.pinned (OpenSpec.upto fnExactTripleCountSpec)

end Rows
end Go.Proofs.YthlpjiibjlaebaaDoor
