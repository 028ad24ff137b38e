/-
  DERIVED. GIVEN WITH THE SEED: THE CARDS: each row of YthlpjiibjlaebaaDoorRows.lean that lists a variable, with what it lists TIED to the program's text (the seventh form; the later family's looks); each row that meets fmt, with fmt's text TOLD by the authors' own Lean function (tested against real Go, not proved from fmt's source: count such statements apart). THE CARD IS WHAT COUNTS. Prove the row's statement (the work); the ties are given (YthlpjiibjlaebaaDoorTie.lean); close each card by the builder's one call (the guide's Derived/Test/ToyasCard.lean, 'card_holds'). Laid BY PROGRAM, IN A SANDBOX (cutbox-door.mjs). By AI agents, Wed Nov 11 2026. No macro, syntax, notation, axiom, sorry.
-/
import Derived.Test.YthlpjiibjlaebaaDoorRows
import GoSem.ClaimSeven
namespace Go.Proofs.YthlpjiibjlaebaaDoor
namespace Rows

/-- THE TIED CARD OF 'laws.FnSums'. -/
def fnSumsCard : Claim7 := { stood := { row := fnSumsRow, standIns := [], harness := (true, "889febbcdbc2c6d923a7e7b949ebf8f42435b852fa521fa209a437f896c150f1"), looks := false }, kinds := [], alts := [], laidByText := true, laidKinds := [.data, .data], laidTests := true, laidLooks := .later }
def FnSumsCardSaid : Prop := Claim7.holds Tryd.pinned (.plain (OpenSpec.ofChange fnSumsSpec)) fnSumsCard

/-- THE TIED CARD OF 'laws.FnEnergies'. -/
def fnEnergiesCard : Claim7 := { stood := { row := fnEnergiesRow, standIns := [], harness := (true, "889febbcdbc2c6d923a7e7b949ebf8f42435b852fa521fa209a437f896c150f1"), looks := false }, kinds := [], alts := [], laidByText := true, laidKinds := [.data, .data], laidTests := true, laidLooks := .later }
def FnEnergiesCardSaid : Prop := Claim7.holds Tryd.pinned (.plain (OpenSpec.ofChange fnEnergiesSpec)) fnEnergiesCard

/-- THE TIED CARD OF 'laws.FnExactSumTable'. -/
def fnExactSumTableCard : Claim7 := { stood := { row := fnExactSumTableRow, standIns := [], harness := (true, "889febbcdbc2c6d923a7e7b949ebf8f42435b852fa521fa209a437f896c150f1"), looks := false }, kinds := [], alts := [], laidByText := true, laidKinds := [.data, .data], laidTests := true, laidLooks := .later }
def FnExactSumTableCardSaid : Prop := Claim7.holds Tryd.pinned (.plain (OpenSpec.ofChange fnExactSumTableSpec)) fnExactSumTableCard

/-- THE TIED CARD OF 'laws.FnExactCorrelationOf'. -/
def fnExactCorrelationOfCard : Claim7 := { stood := { row := fnExactCorrelationOfRow, standIns := [], harness := (true, "889febbcdbc2c6d923a7e7b949ebf8f42435b852fa521fa209a437f896c150f1"), looks := false }, kinds := [], alts := [], laidByText := true, laidKinds := [.data, .data], laidTests := true, laidLooks := .later }
def FnExactCorrelationOfCardSaid : Prop := Claim7.holds Tryd.pinned (.plain (OpenSpec.ofChange fnExactCorrelationOfSpec)) fnExactCorrelationOfCard

/-- THE TIED CARD OF 'laws.FnExactEnergyOf'. -/
def fnExactEnergyOfCard : Claim7 := { stood := { row := fnExactEnergyOfRow, standIns := [], harness := (true, "889febbcdbc2c6d923a7e7b949ebf8f42435b852fa521fa209a437f896c150f1"), looks := false }, kinds := [], alts := [], laidByText := true, laidKinds := [.data, .data], laidTests := true, laidLooks := .later }
def FnExactEnergyOfCardSaid : Prop := Claim7.holds Tryd.pinned (.plain (OpenSpec.ofChange fnExactEnergyOfSpec)) fnExactEnergyOfCard

/-- THE TIED CARD OF 'laws.FnExactQuadruplesOf'. -/
def fnExactQuadruplesOfCard : Claim7 := { stood := { row := fnExactQuadruplesOfRow, standIns := [], harness := (true, "889febbcdbc2c6d923a7e7b949ebf8f42435b852fa521fa209a437f896c150f1"), looks := false }, kinds := [], alts := [], laidByText := true, laidKinds := [.data, .data], laidTests := true, laidLooks := .later }
def FnExactQuadruplesOfCardSaid : Prop := Claim7.holds Tryd.pinned (.plain (OpenSpec.ofChange fnExactQuadruplesOfSpec)) fnExactQuadruplesOfCard

/-- THE TIED CARD OF 'laws.FnExactPopularSums'. -/
def fnExactPopularSumsCard : Claim7 := { stood := { row := fnExactPopularSumsRow, standIns := [], harness := (true, "889febbcdbc2c6d923a7e7b949ebf8f42435b852fa521fa209a437f896c150f1"), looks := false }, kinds := [], alts := [], laidByText := true, laidKinds := [.data, .data], laidTests := true, laidLooks := .later }
def FnExactPopularSumsCardSaid : Prop := Claim7.holds Tryd.pinned (.plain (OpenSpec.ofChange fnExactPopularSumsSpec)) fnExactPopularSumsCard

/-- THE TIED CARD OF 'laws.FnExactTripleCount'. -/
def fnExactTripleCountCard : Claim7 := { stood := { row := fnExactTripleCountRow, standIns := [], harness := (true, "889febbcdbc2c6d923a7e7b949ebf8f42435b852fa521fa209a437f896c150f1"), looks := false }, kinds := [], alts := [], laidByText := true, laidKinds := [.data, .data], laidTests := true, laidLooks := .later }
def FnExactTripleCountCardSaid : Prop := Claim7.holds Tryd.pinned (.plain (OpenSpec.ofChange fnExactTripleCountSpec)) fnExactTripleCountCard

/-- THE SECOND FORM's CARD OF 'laws.FnSums'. -/
def fnSumsUptoCard : Claim7 := { stood := { row := fnSumsUptoRow, standIns := [], harness := (true, "889febbcdbc2c6d923a7e7b949ebf8f42435b852fa521fa209a437f896c150f1"), looks := false }, kinds := [], alts := [], laidByText := true, laidKinds := [.data, .data], laidTests := true, laidLooks := .later }
def FnSumsUptoCardSaid : Prop := Claim7.holds Tryd.pinned (.plain (OpenSpec.upto fnSumsSpec)) fnSumsUptoCard

/-- THE SECOND FORM's CARD OF 'laws.FnEnergies'. -/
def fnEnergiesUptoCard : Claim7 := { stood := { row := fnEnergiesUptoRow, standIns := [], harness := (true, "889febbcdbc2c6d923a7e7b949ebf8f42435b852fa521fa209a437f896c150f1"), looks := false }, kinds := [], alts := [], laidByText := true, laidKinds := [.data, .data], laidTests := true, laidLooks := .later }
def FnEnergiesUptoCardSaid : Prop := Claim7.holds Tryd.pinned (.plain (OpenSpec.upto fnEnergiesSpec)) fnEnergiesUptoCard

/-- THE SECOND FORM's CARD OF 'laws.FnExactSumTable'. -/
def fnExactSumTableUptoCard : Claim7 := { stood := { row := fnExactSumTableUptoRow, standIns := [], harness := (true, "889febbcdbc2c6d923a7e7b949ebf8f42435b852fa521fa209a437f896c150f1"), looks := false }, kinds := [], alts := [], laidByText := true, laidKinds := [.data, .data], laidTests := true, laidLooks := .later }
def FnExactSumTableUptoCardSaid : Prop := Claim7.holds Tryd.pinned (.plain (OpenSpec.upto fnExactSumTableSpec)) fnExactSumTableUptoCard

/-- THE SECOND FORM's CARD OF 'laws.FnExactCorrelationOf'. -/
def fnExactCorrelationOfUptoCard : Claim7 := { stood := { row := fnExactCorrelationOfUptoRow, standIns := [], harness := (true, "889febbcdbc2c6d923a7e7b949ebf8f42435b852fa521fa209a437f896c150f1"), looks := false }, kinds := [], alts := [], laidByText := true, laidKinds := [.data, .data], laidTests := true, laidLooks := .later }
def FnExactCorrelationOfUptoCardSaid : Prop := Claim7.holds Tryd.pinned (.plain (OpenSpec.upto fnExactCorrelationOfSpec)) fnExactCorrelationOfUptoCard

/-- THE SECOND FORM's CARD OF 'laws.FnExactEnergyOf'. -/
def fnExactEnergyOfUptoCard : Claim7 := { stood := { row := fnExactEnergyOfUptoRow, standIns := [], harness := (true, "889febbcdbc2c6d923a7e7b949ebf8f42435b852fa521fa209a437f896c150f1"), looks := false }, kinds := [], alts := [], laidByText := true, laidKinds := [.data, .data], laidTests := true, laidLooks := .later }
def FnExactEnergyOfUptoCardSaid : Prop := Claim7.holds Tryd.pinned (.plain (OpenSpec.upto fnExactEnergyOfSpec)) fnExactEnergyOfUptoCard

/-- THE SECOND FORM's CARD OF 'laws.FnExactQuadruplesOf'. -/
def fnExactQuadruplesOfUptoCard : Claim7 := { stood := { row := fnExactQuadruplesOfUptoRow, standIns := [], harness := (true, "889febbcdbc2c6d923a7e7b949ebf8f42435b852fa521fa209a437f896c150f1"), looks := false }, kinds := [], alts := [], laidByText := true, laidKinds := [.data, .data], laidTests := true, laidLooks := .later }
def FnExactQuadruplesOfUptoCardSaid : Prop := Claim7.holds Tryd.pinned (.plain (OpenSpec.upto fnExactQuadruplesOfSpec)) fnExactQuadruplesOfUptoCard

/-- THE SECOND FORM's CARD OF 'laws.FnExactPopularSums'. -/
def fnExactPopularSumsUptoCard : Claim7 := { stood := { row := fnExactPopularSumsUptoRow, standIns := [], harness := (true, "889febbcdbc2c6d923a7e7b949ebf8f42435b852fa521fa209a437f896c150f1"), looks := false }, kinds := [], alts := [], laidByText := true, laidKinds := [.data, .data], laidTests := true, laidLooks := .later }
def FnExactPopularSumsUptoCardSaid : Prop := Claim7.holds Tryd.pinned (.plain (OpenSpec.upto fnExactPopularSumsSpec)) fnExactPopularSumsUptoCard

/-- THE SECOND FORM's CARD OF 'laws.FnExactTripleCount'. -/
def fnExactTripleCountUptoCard : Claim7 := { stood := { row := fnExactTripleCountUptoRow, standIns := [], harness := (true, "889febbcdbc2c6d923a7e7b949ebf8f42435b852fa521fa209a437f896c150f1"), looks := false }, kinds := [], alts := [], laidByText := true, laidKinds := [.data, .data], laidTests := true, laidLooks := .later }
def FnExactTripleCountUptoCardSaid : Prop := Claim7.holds Tryd.pinned (.plain (OpenSpec.upto fnExactTripleCountSpec)) fnExactTripleCountUptoCard
end Rows
end Go.Proofs.YthlpjiibjlaebaaDoor
