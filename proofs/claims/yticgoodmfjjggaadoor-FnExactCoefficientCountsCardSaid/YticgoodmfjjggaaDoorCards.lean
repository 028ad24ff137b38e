/-
  DERIVED. GIVEN WITH THE SEED: THE CARDS: each row of YticgoodmfjjggaaDoorRows.lean that lists a variable, with what it lists TIED to the program's text (the seventh form; the later family's looks); each row that meets fmt, with fmt's text TOLD by the authors' own Lean function (tested against real Go, not proved from fmt's source: count such statements apart). THE CARD IS WHAT COUNTS. Prove the row's statement (the work); the ties are given (YticgoodmfjjggaaDoorTie.lean); close each card by the builder's one call (the guide's Derived/Test/ToyasCard.lean, 'card_holds'). Laid BY PROGRAM, IN A SANDBOX (cutbox-door.mjs). By AI agents, Wed Nov 11 2026. No macro, syntax, notation, axiom, sorry.
-/
import Derived.Test.YticgoodmfjjggaaDoorRows
import GoSem.ClaimSeven
namespace Go.Proofs.YticgoodmfjjggaaDoor
namespace Rows

/-- THE TIED CARD OF 'laws.FnExactCoefficientCounts'. -/
def fnExactCoefficientCountsCard : Claim7 := { stood := { row := fnExactCoefficientCountsRow, standIns := [], harness := (true, "ac0f5fa036f40f891aff6cc651cde0aaa58060a8eeff611717b4ffa1fa54815d"), looks := false }, kinds := [], alts := [], laidByText := true, laidKinds := [.data, .data], laidTests := true, laidLooks := .later }
def FnExactCoefficientCountsCardSaid : Prop := Claim7.holds Tryd.pinned (.plain (OpenSpec.ofChange fnExactCoefficientCountsSpec)) fnExactCoefficientCountsCard

/-- THE TIED CARD OF 'laws.FnExactIsZeroCoefficient'. -/
def fnExactIsZeroCoefficientCard : Claim7 := { stood := { row := fnExactIsZeroCoefficientRow, standIns := [], harness := (true, "ac0f5fa036f40f891aff6cc651cde0aaa58060a8eeff611717b4ffa1fa54815d"), looks := false }, kinds := [], alts := [], laidByText := true, laidKinds := [.data, .data], laidTests := true, laidLooks := .later }
def FnExactIsZeroCoefficientCardSaid : Prop := Claim7.holds Tryd.pinned (.plain (OpenSpec.ofChange fnExactIsZeroCoefficientSpec)) fnExactIsZeroCoefficientCard

/-- THE SECOND FORM's CARD OF 'laws.FnExactCoefficientCounts'. -/
def fnExactCoefficientCountsUptoCard : Claim7 := { stood := { row := fnExactCoefficientCountsUptoRow, standIns := [], harness := (true, "ac0f5fa036f40f891aff6cc651cde0aaa58060a8eeff611717b4ffa1fa54815d"), looks := false }, kinds := [], alts := [], laidByText := true, laidKinds := [.data, .data], laidTests := true, laidLooks := .later }
def FnExactCoefficientCountsUptoCardSaid : Prop := Claim7.holds Tryd.pinned (.plain (OpenSpec.upto fnExactCoefficientCountsSpec)) fnExactCoefficientCountsUptoCard

/-- THE SECOND FORM's CARD OF 'laws.FnExactIsZeroCoefficient'. -/
def fnExactIsZeroCoefficientUptoCard : Claim7 := { stood := { row := fnExactIsZeroCoefficientUptoRow, standIns := [], harness := (true, "ac0f5fa036f40f891aff6cc651cde0aaa58060a8eeff611717b4ffa1fa54815d"), looks := false }, kinds := [], alts := [], laidByText := true, laidKinds := [.data, .data], laidTests := true, laidLooks := .later }
def FnExactIsZeroCoefficientUptoCardSaid : Prop := Claim7.holds Tryd.pinned (.plain (OpenSpec.upto fnExactIsZeroCoefficientSpec)) fnExactIsZeroCoefficientUptoCard
end Rows
end Go.Proofs.YticgoodmfjjggaaDoor
