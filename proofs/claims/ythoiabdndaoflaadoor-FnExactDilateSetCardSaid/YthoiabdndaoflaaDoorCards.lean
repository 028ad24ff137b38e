/-
  DERIVED. GIVEN WITH THE SEED: THE CARDS: each row of YthoiabdndaoflaaDoorRows.lean that lists a variable, with what it lists TIED to the program's text (the seventh form; the later family's looks); each row that meets fmt, with fmt's text TOLD by the authors' own Lean function (tested against real Go, not proved from fmt's source: count such statements apart). THE CARD IS WHAT COUNTS. Prove the row's statement (the work); the ties are given (YthoiabdndaoflaaDoorTie.lean); close each card by the builder's one call (the guide's Derived/Test/ToyasCard.lean, 'card_holds'). Laid BY PROGRAM, IN A SANDBOX (cutbox-door.mjs). By AI agents, Wed Nov 11 2026. No macro, syntax, notation, axiom, sorry.
-/
import Derived.Test.YthoiabdndaoflaaDoorRows
import GoSem.ClaimSeven
namespace Go.Proofs.YthoiabdndaoflaaDoor
namespace Rows

/-- THE TIED CARD OF 'laws.FnExactListOf'. -/
def fnExactListOfCard : Claim7 := { stood := { row := fnExactListOfRow, standIns := [], harness := (true, "46a3633d348680e4e461121ab3a82f7f5f55f6a5da01c4307514d9ce3ea7072c"), looks := false }, kinds := [], alts := [], laidByText := true, laidKinds := [.data, .data], laidTests := true, laidLooks := .later }
def FnExactListOfCardSaid : Prop := Claim7.holds Tryd.pinned (.plain (OpenSpec.ofChange fnExactListOfSpec)) fnExactListOfCard

/-- THE TIED CARD OF 'laws.FnExactShiftSet'. -/
def fnExactShiftSetCard : Claim7 := { stood := { row := fnExactShiftSetRow, standIns := [], harness := (true, "46a3633d348680e4e461121ab3a82f7f5f55f6a5da01c4307514d9ce3ea7072c"), looks := false }, kinds := [], alts := [], laidByText := true, laidKinds := [.data, .data], laidTests := true, laidLooks := .later }
def FnExactShiftSetCardSaid : Prop := Claim7.holds Tryd.pinned (.plain (OpenSpec.ofChange fnExactShiftSetSpec)) fnExactShiftSetCard

/-- THE TIED CARD OF 'laws.FnExactNegateSet'. -/
def fnExactNegateSetCard : Claim7 := { stood := { row := fnExactNegateSetRow, standIns := [], harness := (true, "46a3633d348680e4e461121ab3a82f7f5f55f6a5da01c4307514d9ce3ea7072c"), looks := false }, kinds := [], alts := [], laidByText := true, laidKinds := [.data, .data], laidTests := true, laidLooks := .later }
def FnExactNegateSetCardSaid : Prop := Claim7.holds Tryd.pinned (.plain (OpenSpec.ofChange fnExactNegateSetSpec)) fnExactNegateSetCard

/-- THE TIED CARD OF 'laws.FnExactDilateSet'. -/
def fnExactDilateSetCard : Claim7 := { stood := { row := fnExactDilateSetRow, standIns := [], harness := (true, "46a3633d348680e4e461121ab3a82f7f5f55f6a5da01c4307514d9ce3ea7072c"), looks := false }, kinds := [], alts := [], laidByText := true, laidKinds := [.data, .data], laidTests := true, laidLooks := .later }
def FnExactDilateSetCardSaid : Prop := Claim7.holds Tryd.pinned (.plain (OpenSpec.ofChange fnExactDilateSetSpec)) fnExactDilateSetCard

/-- THE SECOND FORM's CARD OF 'laws.FnExactListOf'. -/
def fnExactListOfUptoCard : Claim7 := { stood := { row := fnExactListOfUptoRow, standIns := [], harness := (true, "46a3633d348680e4e461121ab3a82f7f5f55f6a5da01c4307514d9ce3ea7072c"), looks := false }, kinds := [], alts := [], laidByText := true, laidKinds := [.data, .data], laidTests := true, laidLooks := .later }
def FnExactListOfUptoCardSaid : Prop := Claim7.holds Tryd.pinned (.plain (OpenSpec.upto fnExactListOfSpec)) fnExactListOfUptoCard

/-- THE SECOND FORM's CARD OF 'laws.FnExactShiftSet'. -/
def fnExactShiftSetUptoCard : Claim7 := { stood := { row := fnExactShiftSetUptoRow, standIns := [], harness := (true, "46a3633d348680e4e461121ab3a82f7f5f55f6a5da01c4307514d9ce3ea7072c"), looks := false }, kinds := [], alts := [], laidByText := true, laidKinds := [.data, .data], laidTests := true, laidLooks := .later }
def FnExactShiftSetUptoCardSaid : Prop := Claim7.holds Tryd.pinned (.plain (OpenSpec.upto fnExactShiftSetSpec)) fnExactShiftSetUptoCard

/-- THE SECOND FORM's CARD OF 'laws.FnExactNegateSet'. -/
def fnExactNegateSetUptoCard : Claim7 := { stood := { row := fnExactNegateSetUptoRow, standIns := [], harness := (true, "46a3633d348680e4e461121ab3a82f7f5f55f6a5da01c4307514d9ce3ea7072c"), looks := false }, kinds := [], alts := [], laidByText := true, laidKinds := [.data, .data], laidTests := true, laidLooks := .later }
def FnExactNegateSetUptoCardSaid : Prop := Claim7.holds Tryd.pinned (.plain (OpenSpec.upto fnExactNegateSetSpec)) fnExactNegateSetUptoCard

/-- THE SECOND FORM's CARD OF 'laws.FnExactDilateSet'. -/
def fnExactDilateSetUptoCard : Claim7 := { stood := { row := fnExactDilateSetUptoRow, standIns := [], harness := (true, "46a3633d348680e4e461121ab3a82f7f5f55f6a5da01c4307514d9ce3ea7072c"), looks := false }, kinds := [], alts := [], laidByText := true, laidKinds := [.data, .data], laidTests := true, laidLooks := .later }
def FnExactDilateSetUptoCardSaid : Prop := Claim7.holds Tryd.pinned (.plain (OpenSpec.upto fnExactDilateSetSpec)) fnExactDilateSetUptoCard
end Rows
end Go.Proofs.YthoiabdndaoflaaDoor
