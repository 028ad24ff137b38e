/-
  DERIVED. GIVEN WITH THE SEED: THE CARDS: each row of YtfkleihnafeoeaaDoorRows.lean that lists a variable, with what it lists TIED to the program's text (the seventh form; the later family's looks); each row that meets fmt, with fmt's text TOLD by the authors' own Lean function (tested against real Go, not proved from fmt's source: count such statements apart). THE CARD IS WHAT COUNTS. Prove the row's statement (the work); the ties are given (YtfkleihnafeoeaaDoorTie.lean); close each card by the builder's one call (the guide's Derived/Test/ToyasCard.lean, 'card_holds'). Laid BY PROGRAM, IN A SANDBOX (cutbox-door.mjs). By AI agents, Wed Nov 11 2026. No macro, syntax, notation, axiom, sorry.
-/
import Derived.Test.YtfkleihnafeoeaaDoorRows
import GoSem.ClaimSeven
namespace Go.Proofs.YtfkleihnafeoeaaDoor
namespace Rows

/-- THE TIED CARD OF 'laws.FnExactIsProgression'. -/
def fnExactIsProgressionCard : Claim7 := { stood := { row := fnExactIsProgressionRow, standIns := [], harness := (true, "1a8d899d8230c50e8d083d889a642ac1f791fca4e1b4b181ff61d8daa6f4dd54"), looks := true }, kinds := [], alts := [], laidByText := true, laidKinds := [.data, .data], laidTests := true, laidLooks := .later }
def FnExactIsProgressionCardSaid : Prop := Claim7.holds Tryd.pinned (.plain (OpenSpec.ofChange fnExactIsProgressionSpec)) fnExactIsProgressionCard

/-- THE TIED CARD OF 'laws.FnExactDifferencesOf'. -/
def fnExactDifferencesOfCard : Claim7 := { stood := { row := fnExactDifferencesOfRow, standIns := [], harness := (true, "1a8d899d8230c50e8d083d889a642ac1f791fca4e1b4b181ff61d8daa6f4dd54"), looks := true }, kinds := [], alts := [], laidByText := true, laidKinds := [.data, .data], laidTests := true, laidLooks := .later }
def FnExactDifferencesOfCardSaid : Prop := Claim7.holds Tryd.pinned (.plain (OpenSpec.ofChange fnExactDifferencesOfSpec)) fnExactDifferencesOfCard

/-- THE TIED CARD OF 'laws.FnExactVosperCase'. -/
def fnExactVosperCaseCard : Claim7 := { stood := { row := fnExactVosperCaseRow, standIns := [], harness := (true, "1a8d899d8230c50e8d083d889a642ac1f791fca4e1b4b181ff61d8daa6f4dd54"), looks := true }, kinds := [], alts := [], laidByText := true, laidKinds := [.data, .data, .handle], laidTests := true, laidLooks := .later }
def FnExactVosperCaseCardSaid : Prop := Claim7.holds Tryd.pinned (.plain (OpenSpec.ofChange fnExactVosperCaseSpec)) fnExactVosperCaseCard

/-- THE TIED CARD OF 'laws.FnExactCommonDifference'. -/
def fnExactCommonDifferenceCard : Claim7 := { stood := { row := fnExactCommonDifferenceRow, standIns := [], harness := (true, "1a8d899d8230c50e8d083d889a642ac1f791fca4e1b4b181ff61d8daa6f4dd54"), looks := true }, kinds := [], alts := [], laidByText := true, laidKinds := [.data, .data, .handle], laidTests := true, laidLooks := .later }
def FnExactCommonDifferenceCardSaid : Prop := Claim7.holds Tryd.pinned (.plain (OpenSpec.ofChange fnExactCommonDifferenceSpec)) fnExactCommonDifferenceCard

/-- THE SECOND FORM's CARD OF 'laws.FnExactIsProgression'. -/
def fnExactIsProgressionUptoCard : Claim7 := { stood := { row := fnExactIsProgressionUptoRow, standIns := [], harness := (true, "1a8d899d8230c50e8d083d889a642ac1f791fca4e1b4b181ff61d8daa6f4dd54"), looks := true }, kinds := [], alts := [], laidByText := true, laidKinds := [.data, .data], laidTests := true, laidLooks := .later }
def FnExactIsProgressionUptoCardSaid : Prop := Claim7.holds Tryd.pinned (.plain (OpenSpec.upto fnExactIsProgressionSpec)) fnExactIsProgressionUptoCard

/-- THE SECOND FORM's CARD OF 'laws.FnExactDifferencesOf'. -/
def fnExactDifferencesOfUptoCard : Claim7 := { stood := { row := fnExactDifferencesOfUptoRow, standIns := [], harness := (true, "1a8d899d8230c50e8d083d889a642ac1f791fca4e1b4b181ff61d8daa6f4dd54"), looks := true }, kinds := [], alts := [], laidByText := true, laidKinds := [.data, .data], laidTests := true, laidLooks := .later }
def FnExactDifferencesOfUptoCardSaid : Prop := Claim7.holds Tryd.pinned (.plain (OpenSpec.upto fnExactDifferencesOfSpec)) fnExactDifferencesOfUptoCard

/-- THE SECOND FORM's CARD OF 'laws.FnExactVosperCase'. -/
def fnExactVosperCaseUptoCard : Claim7 := { stood := { row := fnExactVosperCaseUptoRow, standIns := [], harness := (true, "1a8d899d8230c50e8d083d889a642ac1f791fca4e1b4b181ff61d8daa6f4dd54"), looks := true }, kinds := [], alts := [], laidByText := true, laidKinds := [.data, .data, .handle], laidTests := true, laidLooks := .later }
def FnExactVosperCaseUptoCardSaid : Prop := Claim7.holds Tryd.pinned (.plain (OpenSpec.upto fnExactVosperCaseSpec)) fnExactVosperCaseUptoCard

/-- THE SECOND FORM's CARD OF 'laws.FnExactCommonDifference'. -/
def fnExactCommonDifferenceUptoCard : Claim7 := { stood := { row := fnExactCommonDifferenceUptoRow, standIns := [], harness := (true, "1a8d899d8230c50e8d083d889a642ac1f791fca4e1b4b181ff61d8daa6f4dd54"), looks := true }, kinds := [], alts := [], laidByText := true, laidKinds := [.data, .data, .handle], laidTests := true, laidLooks := .later }
def FnExactCommonDifferenceUptoCardSaid : Prop := Claim7.holds Tryd.pinned (.plain (OpenSpec.upto fnExactCommonDifferenceSpec)) fnExactCommonDifferenceUptoCard
end Rows
end Go.Proofs.YtfkleihnafeoeaaDoor
