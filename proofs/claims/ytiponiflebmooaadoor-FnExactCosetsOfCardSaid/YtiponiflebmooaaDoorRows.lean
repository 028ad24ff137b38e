/-
  NARROWER THAN 'FOR EVERY INPUT', by the rows' own cells (each row's printed sentence says how): FnExactGeneratedBy: laid · FnExactIsSubgroup: laid · FnExactCosetsOf: laid · FnExactCosetNumber: laid · FnExactIsCoset: laid · FnExactAffineHull: laid.
  DERIVED. THE GIVEN ROWS OF THIS SEAT. 6 by the template 'for every input the law returns true; each argument reads behind the call as it read before'; 0 by the template 'total and deterministic' (their statements: YtiponiflebmooaaDoorTotals.lean).
  GIVEN WITH THE SEED: the statements are not yours to turn. If you find one false, say at which input.
  Laid BY PROGRAM, IN A SANDBOX (cutbox-rows.mjs): the forced cells as the released guide's own fill.sh prints them over the translation cd6bd1951724a7b2… (all of the seat's roots in one cut). By AI agents, Wed Nov 11 2026. No macro, syntax, notation, axiom, sorry.
-/
import Derived.Test.YtiponiflebmooaaDoorChecked
import GoSem.Claim
import GoSem.ClaimJoined
import GoSem.ClaimMapViews
import Derived.JoinedTies
import Derived.KernelRfl
namespace Go.Proofs.YtiponiflebmooaaDoor
/- THE CELL 'sum', in the pinned program and in every row, IS THE sha256 OF THE DUMP (.gsa) THAT YtiponiflebmooaaDoorProg.lean LOADS. Nothing in Lean hashes anything: it is a label: what it is worth is what the hold of that sum in a sandbox is worth. -/
noncomputable def Tryd.pinned : Pinned := { name := "ytiponiflebmooaadoor", sum := "cd6bd1951724a7b2f2e068be4002f91d2ce9aca44de27040b450fcaf87c545fd", checked := Tryd.checked }
namespace Rows
def none {H : Type} : Left H := { results := [], args := [] }

/- WHAT THE LISTED PACKAGE-LEVEL VARIABLES READ AS WHEN THE CALL BEGINS. Each datum BY PROGRAM (the guide's laid-datum.mjs) off the statement by which the dump's own 'gosem.cut.vars' lays the variable. In a bare row this is a premise. The card (YtiponiflebmooaaDoorCards.lean) ties it to the program's text. -/
def laid_math_bits_deBruijn32tab {H : Type} : DataW H := .agg [.lit (.int .u8 0), .lit (.int .u8 1), .lit (.int .u8 28), .lit (.int .u8 2), .lit (.int .u8 29), .lit (.int .u8 14), .lit (.int .u8 24), .lit (.int .u8 3), .lit (.int .u8 30), .lit (.int .u8 22), .lit (.int .u8 20), .lit (.int .u8 15), .lit (.int .u8 25), .lit (.int .u8 17), .lit (.int .u8 4), .lit (.int .u8 8), .lit (.int .u8 31), .lit (.int .u8 27), .lit (.int .u8 13), .lit (.int .u8 23), .lit (.int .u8 21), .lit (.int .u8 19), .lit (.int .u8 16), .lit (.int .u8 7), .lit (.int .u8 26), .lit (.int .u8 12), .lit (.int .u8 18), .lit (.int .u8 6), .lit (.int .u8 11), .lit (.int .u8 5), .lit (.int .u8 10), .lit (.int .u8 9)]
def laid_math_bits_deBruijn64tab {H : Type} : DataW H := .agg [.lit (.int .u8 0), .lit (.int .u8 1), .lit (.int .u8 56), .lit (.int .u8 2), .lit (.int .u8 57), .lit (.int .u8 49), .lit (.int .u8 28), .lit (.int .u8 3), .lit (.int .u8 61), .lit (.int .u8 58), .lit (.int .u8 42), .lit (.int .u8 50), .lit (.int .u8 38), .lit (.int .u8 29), .lit (.int .u8 17), .lit (.int .u8 4), .lit (.int .u8 62), .lit (.int .u8 47), .lit (.int .u8 59), .lit (.int .u8 36), .lit (.int .u8 45), .lit (.int .u8 43), .lit (.int .u8 51), .lit (.int .u8 22), .lit (.int .u8 53), .lit (.int .u8 39), .lit (.int .u8 33), .lit (.int .u8 30), .lit (.int .u8 24), .lit (.int .u8 18), .lit (.int .u8 12), .lit (.int .u8 5), .lit (.int .u8 63), .lit (.int .u8 55), .lit (.int .u8 48), .lit (.int .u8 27), .lit (.int .u8 60), .lit (.int .u8 41), .lit (.int .u8 37), .lit (.int .u8 16), .lit (.int .u8 46), .lit (.int .u8 35), .lit (.int .u8 44), .lit (.int .u8 21), .lit (.int .u8 52), .lit (.int .u8 32), .lit (.int .u8 23), .lit (.int .u8 11), .lit (.int .u8 54), .lit (.int .u8 26), .lit (.int .u8 40), .lit (.int .u8 15), .lit (.int .u8 34), .lit (.int .u8 20), .lit (.int .u8 31), .lit (.int .u8 10), .lit (.int .u8 25), .lit (.int .u8 14), .lit (.int .u8 19), .lit (.int .u8 9), .lit (.int .u8 13), .lit (.int .u8 8), .lit (.int .u8 7), .lit (.int .u8 6)]

/-- 'laws.FnExactGeneratedBy': WHATEVER THE INPUT: true; the input reads as it did. -/
def fnExactGeneratedBySpec : ChangeSpec := { name := "fnExactGeneratedBy", fn := fun _ => fun
  | [d1, d2] => { results := [.lit (.bool true)], args := [d1, d2] }
  | _ => none }
def fnExactGeneratedByRow : OpenClaim := { program := "ytiponiflebmooaadoor", sum := "cd6bd1951724a7b2f2e068be4002f91d2ce9aca44de27040b450fcaf87c545fd", func := "loop.example/g03402/laws.FnExactGeneratedBy", spec := "fnExactGeneratedBy", unfollowed := true, recurses := true, named := ["math/bits.deBruijn32tab", "math/bits.deBruijn64tab"], apart := false, laid := [("math/bits.deBruijn32tab", laid_math_bits_deBruijn32tab), ("math/bits.deBruijn64tab", laid_math_bits_deBruijn64tab)] }
def FnExactGeneratedBySaid : Prop := fnExactGeneratedByRow.holds Tryd.pinned (OpenSpec.ofChange fnExactGeneratedBySpec)

/-- ITS FALSE NEIGHBOUR: 'it returns false'. Refute it at one input. -/
def fnExactGeneratedByWrong : ChangeSpec := { name := "fnExactGeneratedBy", fn := fun _ => fun
  | [d1, d2] => { results := [.lit (.bool false)], args := [d1, d2] }
  | _ => none }
def FnExactGeneratedByWrongFalsely : Prop := fnExactGeneratedByRow.holds Tryd.pinned (OpenSpec.ofChange fnExactGeneratedByWrong)

/-- 'laws.FnExactIsSubgroup': WHATEVER THE INPUT: true; the input reads as it did. -/
def fnExactIsSubgroupSpec : ChangeSpec := { name := "fnExactIsSubgroup", fn := fun _ => fun
  | [d1, d2] => { results := [.lit (.bool true)], args := [d1, d2] }
  | _ => none }
def fnExactIsSubgroupRow : OpenClaim := { program := "ytiponiflebmooaadoor", sum := "cd6bd1951724a7b2f2e068be4002f91d2ce9aca44de27040b450fcaf87c545fd", func := "loop.example/g03402/laws.FnExactIsSubgroup", spec := "fnExactIsSubgroup", unfollowed := true, recurses := true, named := ["math/bits.deBruijn32tab", "math/bits.deBruijn64tab"], apart := false, laid := [("math/bits.deBruijn32tab", laid_math_bits_deBruijn32tab), ("math/bits.deBruijn64tab", laid_math_bits_deBruijn64tab)] }
def FnExactIsSubgroupSaid : Prop := fnExactIsSubgroupRow.holds Tryd.pinned (OpenSpec.ofChange fnExactIsSubgroupSpec)

/-- ITS FALSE NEIGHBOUR: 'it returns false'. Refute it at one input. -/
def fnExactIsSubgroupWrong : ChangeSpec := { name := "fnExactIsSubgroup", fn := fun _ => fun
  | [d1, d2] => { results := [.lit (.bool false)], args := [d1, d2] }
  | _ => none }
def FnExactIsSubgroupWrongFalsely : Prop := fnExactIsSubgroupRow.holds Tryd.pinned (OpenSpec.ofChange fnExactIsSubgroupWrong)

/-- 'laws.FnExactCosetsOf': WHATEVER THE INPUT: true; the input reads as it did. -/
def fnExactCosetsOfSpec : ChangeSpec := { name := "fnExactCosetsOf", fn := fun _ => fun
  | [d1, d2] => { results := [.lit (.bool true)], args := [d1, d2] }
  | _ => none }
def fnExactCosetsOfRow : OpenClaim := { program := "ytiponiflebmooaadoor", sum := "cd6bd1951724a7b2f2e068be4002f91d2ce9aca44de27040b450fcaf87c545fd", func := "loop.example/g03402/laws.FnExactCosetsOf", spec := "fnExactCosetsOf", unfollowed := true, recurses := true, named := ["math/bits.deBruijn32tab", "math/bits.deBruijn64tab"], apart := false, laid := [("math/bits.deBruijn32tab", laid_math_bits_deBruijn32tab), ("math/bits.deBruijn64tab", laid_math_bits_deBruijn64tab)] }
def FnExactCosetsOfSaid : Prop := fnExactCosetsOfRow.holds Tryd.pinned (OpenSpec.ofChange fnExactCosetsOfSpec)

/-- ITS FALSE NEIGHBOUR: 'it returns false'. Refute it at one input. -/
def fnExactCosetsOfWrong : ChangeSpec := { name := "fnExactCosetsOf", fn := fun _ => fun
  | [d1, d2] => { results := [.lit (.bool false)], args := [d1, d2] }
  | _ => none }
def FnExactCosetsOfWrongFalsely : Prop := fnExactCosetsOfRow.holds Tryd.pinned (OpenSpec.ofChange fnExactCosetsOfWrong)

/-- 'laws.FnExactCosetNumber': WHATEVER THE INPUT: true; the input reads as it did. -/
def fnExactCosetNumberSpec : ChangeSpec := { name := "fnExactCosetNumber", fn := fun _ => fun
  | [d1, d2, d3] => { results := [.lit (.bool true)], args := [d1, d2, d3] }
  | _ => none }
def fnExactCosetNumberRow : OpenClaim := { program := "ytiponiflebmooaadoor", sum := "cd6bd1951724a7b2f2e068be4002f91d2ce9aca44de27040b450fcaf87c545fd", func := "loop.example/g03402/laws.FnExactCosetNumber", spec := "fnExactCosetNumber", unfollowed := true, recurses := true, named := ["math/bits.deBruijn32tab", "math/bits.deBruijn64tab"], apart := false, laid := [("math/bits.deBruijn32tab", laid_math_bits_deBruijn32tab), ("math/bits.deBruijn64tab", laid_math_bits_deBruijn64tab)] }
def FnExactCosetNumberSaid : Prop := fnExactCosetNumberRow.holds Tryd.pinned (OpenSpec.ofChange fnExactCosetNumberSpec)

/-- ITS FALSE NEIGHBOUR: 'it returns false'. Refute it at one input. -/
def fnExactCosetNumberWrong : ChangeSpec := { name := "fnExactCosetNumber", fn := fun _ => fun
  | [d1, d2, d3] => { results := [.lit (.bool false)], args := [d1, d2, d3] }
  | _ => none }
def FnExactCosetNumberWrongFalsely : Prop := fnExactCosetNumberRow.holds Tryd.pinned (OpenSpec.ofChange fnExactCosetNumberWrong)

/-- 'laws.FnExactIsCoset': WHATEVER THE INPUT: true; the input reads as it did. -/
def fnExactIsCosetSpec : ChangeSpec := { name := "fnExactIsCoset", fn := fun _ => fun
  | [d1, d2] => { results := [.lit (.bool true)], args := [d1, d2] }
  | _ => none }
def fnExactIsCosetRow : OpenClaim := { program := "ytiponiflebmooaadoor", sum := "cd6bd1951724a7b2f2e068be4002f91d2ce9aca44de27040b450fcaf87c545fd", func := "loop.example/g03402/laws.FnExactIsCoset", spec := "fnExactIsCoset", unfollowed := true, recurses := true, named := ["math/bits.deBruijn32tab", "math/bits.deBruijn64tab"], apart := false, laid := [("math/bits.deBruijn32tab", laid_math_bits_deBruijn32tab), ("math/bits.deBruijn64tab", laid_math_bits_deBruijn64tab)] }
def FnExactIsCosetSaid : Prop := fnExactIsCosetRow.holds Tryd.pinned (OpenSpec.ofChange fnExactIsCosetSpec)

/-- ITS FALSE NEIGHBOUR: 'it returns false'. Refute it at one input. -/
def fnExactIsCosetWrong : ChangeSpec := { name := "fnExactIsCoset", fn := fun _ => fun
  | [d1, d2] => { results := [.lit (.bool false)], args := [d1, d2] }
  | _ => none }
def FnExactIsCosetWrongFalsely : Prop := fnExactIsCosetRow.holds Tryd.pinned (OpenSpec.ofChange fnExactIsCosetWrong)

/-- 'laws.FnExactAffineHull': WHATEVER THE INPUT: true; the input reads as it did. -/
def fnExactAffineHullSpec : ChangeSpec := { name := "fnExactAffineHull", fn := fun _ => fun
  | [d1, d2] => { results := [.lit (.bool true)], args := [d1, d2] }
  | _ => none }
def fnExactAffineHullRow : OpenClaim := { program := "ytiponiflebmooaadoor", sum := "cd6bd1951724a7b2f2e068be4002f91d2ce9aca44de27040b450fcaf87c545fd", func := "loop.example/g03402/laws.FnExactAffineHull", spec := "fnExactAffineHull", unfollowed := true, recurses := true, named := ["math/bits.deBruijn32tab", "math/bits.deBruijn64tab"], apart := false, laid := [("math/bits.deBruijn32tab", laid_math_bits_deBruijn32tab), ("math/bits.deBruijn64tab", laid_math_bits_deBruijn64tab)] }
def FnExactAffineHullSaid : Prop := fnExactAffineHullRow.holds Tryd.pinned (OpenSpec.ofChange fnExactAffineHullSpec)

/-- ITS FALSE NEIGHBOUR: 'it returns false'. Refute it at one input. -/
def fnExactAffineHullWrong : ChangeSpec := { name := "fnExactAffineHull", fn := fun _ => fun
  | [d1, d2] => { results := [.lit (.bool false)], args := [d1, d2] }
  | _ => none }
def FnExactAffineHullWrongFalsely : Prop := fnExactAffineHullRow.holds Tryd.pinned (OpenSpec.ofChange fnExactAffineHullWrong)

/- THE SECOND FORM. 'bulk': how many values and letters a reading holds, each counted each time it is reached (what is shared counts as often as it is met; a slice's spare places count too). A statement '..UptoSaid' is the law's where the arguments, and the package variables that the reading takes, are together of bulk at most 1048576: NARROWER than '..Said'. Prove '..Said' where nothing that the law and all that it calls make is longer than what came in: it says more and counts as full. Else prove '..UptoSaid'. A law counts once. -/
mutual
def uptoBulk {H : Type} : DataW H → Nat
  | .lit (.string bytes) => bytes.length + 1
  | .lit _ => 1
  | .nil => 1
  | .ptr d => uptoBulk d + 1
  | .slice elems spare => uptoBulkAll elems + uptoBulkAll spare + 1
  | .agg parts => uptoBulkAll parts + 1
  | .iface _ d => uptoBulk d + 1
  | .map entries => uptoBulkEntries entries + 1
  | .held _ => 1
def uptoBulkAll {H : Type} : List (DataW H) → Nat
  | [] => 0
  | d :: r => uptoBulk d + uptoBulkAll r
def uptoBulkEntries {H : Type} : List (Lit × DataW H) → Nat
  | [] => 0
  | x :: r => uptoBulkEntry x + uptoBulkEntries r
def uptoBulkEntry {H : Type} : Lit × DataW H → Nat
  | (.string bytes, d) => bytes.length + uptoBulk d + 1
  | (_, d) => uptoBulk d + 1
 end
def uptoSmall : (H : Type) → List (DataW H) → Bool := fun _ ds => decide (uptoBulkAll ds ≤ 1048576)
def OpenSpec.upto (s : _root_.Go.ChangeSpec) : _root_.Go.OpenSpec := { _root_.Go.OpenSpec.ofChange s with cond := some uptoSmall }

/-- 'laws.FnExactGeneratedBy', WHERE WHAT IT READS IS OF BULK AT MOST 1048576: true; the input reads as it did. -/
def fnExactGeneratedByUptoRow : OpenClaim := { program := "ytiponiflebmooaadoor", sum := "cd6bd1951724a7b2f2e068be4002f91d2ce9aca44de27040b450fcaf87c545fd", func := "loop.example/g03402/laws.FnExactGeneratedBy", spec := "fnExactGeneratedBy", unfollowed := true, recurses := true, named := ["math/bits.deBruijn32tab", "math/bits.deBruijn64tab"], apart := false, laid := [("math/bits.deBruijn32tab", laid_math_bits_deBruijn32tab), ("math/bits.deBruijn64tab", laid_math_bits_deBruijn64tab)], narrowed := true }
def FnExactGeneratedByUptoSaid : Prop := fnExactGeneratedByUptoRow.holds Tryd.pinned (OpenSpec.upto fnExactGeneratedBySpec)

/-- 'laws.FnExactIsSubgroup', WHERE WHAT IT READS IS OF BULK AT MOST 1048576: true; the input reads as it did. -/
def fnExactIsSubgroupUptoRow : OpenClaim := { program := "ytiponiflebmooaadoor", sum := "cd6bd1951724a7b2f2e068be4002f91d2ce9aca44de27040b450fcaf87c545fd", func := "loop.example/g03402/laws.FnExactIsSubgroup", spec := "fnExactIsSubgroup", unfollowed := true, recurses := true, named := ["math/bits.deBruijn32tab", "math/bits.deBruijn64tab"], apart := false, laid := [("math/bits.deBruijn32tab", laid_math_bits_deBruijn32tab), ("math/bits.deBruijn64tab", laid_math_bits_deBruijn64tab)], narrowed := true }
def FnExactIsSubgroupUptoSaid : Prop := fnExactIsSubgroupUptoRow.holds Tryd.pinned (OpenSpec.upto fnExactIsSubgroupSpec)

/-- 'laws.FnExactCosetsOf', WHERE WHAT IT READS IS OF BULK AT MOST 1048576: true; the input reads as it did. -/
def fnExactCosetsOfUptoRow : OpenClaim := { program := "ytiponiflebmooaadoor", sum := "cd6bd1951724a7b2f2e068be4002f91d2ce9aca44de27040b450fcaf87c545fd", func := "loop.example/g03402/laws.FnExactCosetsOf", spec := "fnExactCosetsOf", unfollowed := true, recurses := true, named := ["math/bits.deBruijn32tab", "math/bits.deBruijn64tab"], apart := false, laid := [("math/bits.deBruijn32tab", laid_math_bits_deBruijn32tab), ("math/bits.deBruijn64tab", laid_math_bits_deBruijn64tab)], narrowed := true }
def FnExactCosetsOfUptoSaid : Prop := fnExactCosetsOfUptoRow.holds Tryd.pinned (OpenSpec.upto fnExactCosetsOfSpec)

/-- 'laws.FnExactCosetNumber', WHERE WHAT IT READS IS OF BULK AT MOST 1048576: true; the input reads as it did. -/
def fnExactCosetNumberUptoRow : OpenClaim := { program := "ytiponiflebmooaadoor", sum := "cd6bd1951724a7b2f2e068be4002f91d2ce9aca44de27040b450fcaf87c545fd", func := "loop.example/g03402/laws.FnExactCosetNumber", spec := "fnExactCosetNumber", unfollowed := true, recurses := true, named := ["math/bits.deBruijn32tab", "math/bits.deBruijn64tab"], apart := false, laid := [("math/bits.deBruijn32tab", laid_math_bits_deBruijn32tab), ("math/bits.deBruijn64tab", laid_math_bits_deBruijn64tab)], narrowed := true }
def FnExactCosetNumberUptoSaid : Prop := fnExactCosetNumberUptoRow.holds Tryd.pinned (OpenSpec.upto fnExactCosetNumberSpec)

/-- 'laws.FnExactIsCoset', WHERE WHAT IT READS IS OF BULK AT MOST 1048576: true; the input reads as it did. -/
def fnExactIsCosetUptoRow : OpenClaim := { program := "ytiponiflebmooaadoor", sum := "cd6bd1951724a7b2f2e068be4002f91d2ce9aca44de27040b450fcaf87c545fd", func := "loop.example/g03402/laws.FnExactIsCoset", spec := "fnExactIsCoset", unfollowed := true, recurses := true, named := ["math/bits.deBruijn32tab", "math/bits.deBruijn64tab"], apart := false, laid := [("math/bits.deBruijn32tab", laid_math_bits_deBruijn32tab), ("math/bits.deBruijn64tab", laid_math_bits_deBruijn64tab)], narrowed := true }
def FnExactIsCosetUptoSaid : Prop := fnExactIsCosetUptoRow.holds Tryd.pinned (OpenSpec.upto fnExactIsCosetSpec)

/-- 'laws.FnExactAffineHull', WHERE WHAT IT READS IS OF BULK AT MOST 1048576: true; the input reads as it did. -/
def fnExactAffineHullUptoRow : OpenClaim := { program := "ytiponiflebmooaadoor", sum := "cd6bd1951724a7b2f2e068be4002f91d2ce9aca44de27040b450fcaf87c545fd", func := "loop.example/g03402/laws.FnExactAffineHull", spec := "fnExactAffineHull", unfollowed := true, recurses := true, named := ["math/bits.deBruijn32tab", "math/bits.deBruijn64tab"], apart := false, laid := [("math/bits.deBruijn32tab", laid_math_bits_deBruijn32tab), ("math/bits.deBruijn64tab", laid_math_bits_deBruijn64tab)], narrowed := true }
def FnExactAffineHullUptoSaid : Prop := fnExactAffineHullUptoRow.holds Tryd.pinned (OpenSpec.upto fnExactAffineHullSpec)

end Rows
end Go.Proofs.YtiponiflebmooaaDoor
