/-
  DERIVED. GIVEN WITH THE SEED: THE CARDS: each row of YthoiabdndaoflabDoorRows.lean that lists a variable, with what it lists TIED to the program's text (the seventh form; the later family's looks); each row that meets fmt, with fmt's text TOLD by the authors' own Lean function (tested against real Go, not proved from fmt's source: count such statements apart). THE CARD IS WHAT COUNTS. Prove the row's statement (the work); the ties are given (YthoiabdndaoflabDoorTie.lean); close each card by the builder's one call (the guide's Derived/Test/ToyasCard.lean, 'card_holds'). Laid BY PROGRAM, IN A SANDBOX (cutbox-door.mjs). By AI agents, Wed Nov 11 2026. No macro, syntax, notation, axiom, sorry.
-/
import Derived.Test.YthoiabdndaoflabDoorRows
import GoSem.ClaimSeven
namespace Go.Proofs.YthoiabdndaoflabDoor
namespace Rows

/-- THE TIED CARD OF 'laws.FnExactFormatSet'. -/
def fnExactFormatSetCard : Claim7 := { stood := { row := fnExactFormatSetRow, standIns := [], harness := (true, "2812655aadefa63c857e12a61bb797bcf0ebf41ae7d3c866cca6476a1c9dc43d"), looks := false }, kinds := [], alts := [], laidByText := true, laidKinds := [.data, .data, .data], laidTests := true, laidLooks := .later }
def FnExactFormatSetCardSaid : Prop := Claim7.holds Tryd.pinned (.plain (OpenSpec.ofChange fnExactFormatSetSpec)) fnExactFormatSetCard

/-- THE TIED CARD OF 'laws.FnExactParseSet'. -/
def fnExactParseSetCard : Claim7 := { stood := { row := fnExactParseSetRow, standIns := [], harness := (true, "2812655aadefa63c857e12a61bb797bcf0ebf41ae7d3c866cca6476a1c9dc43d"), looks := false }, kinds := [], alts := [], laidByText := true, laidKinds := [.data, .data, .data, .data, .pinned], laidTests := true, laidLooks := .later }
def FnExactParseSetCardSaid : Prop := Claim7.holds Tryd.pinned (.plain (OpenSpec.ofChange fnExactParseSetSpec)) fnExactParseSetCard

/-- THE TIED CARD OF 'laws.FnExactFormatGroup'. -/
def fnExactFormatGroupCard : Claim7 := { stood := { row := fnExactFormatGroupRow, standIns := [], harness := (true, "2812655aadefa63c857e12a61bb797bcf0ebf41ae7d3c866cca6476a1c9dc43d"), looks := false }, kinds := [], alts := [], laidByText := true, laidKinds := [.data, .data, .data], laidTests := true, laidLooks := .later }
def FnExactFormatGroupCardSaid : Prop := Claim7.holds Tryd.pinned (.plain (OpenSpec.ofChange fnExactFormatGroupSpec)) fnExactFormatGroupCard

/-- THE TIED CARD OF 'laws.FnExactParseGroup'. -/
def fnExactParseGroupCard : Claim7 := { stood := { row := fnExactParseGroupRow, standIns := [], harness := (true, "2812655aadefa63c857e12a61bb797bcf0ebf41ae7d3c866cca6476a1c9dc43d"), looks := false }, kinds := [], alts := [], laidByText := true, laidKinds := [.data, .data, .data, .data, .pinned], laidTests := true, laidLooks := .later }
def FnExactParseGroupCardSaid : Prop := Claim7.holds Tryd.pinned (.plain (OpenSpec.ofChange fnExactParseGroupSpec)) fnExactParseGroupCard

/-- THE SECOND FORM's CARD OF 'laws.FnExactFormatSet'. -/
def fnExactFormatSetUptoCard : Claim7 := { stood := { row := fnExactFormatSetUptoRow, standIns := [], harness := (true, "2812655aadefa63c857e12a61bb797bcf0ebf41ae7d3c866cca6476a1c9dc43d"), looks := false }, kinds := [], alts := [], laidByText := true, laidKinds := [.data, .data, .data], laidTests := true, laidLooks := .later }
def FnExactFormatSetUptoCardSaid : Prop := Claim7.holds Tryd.pinned (.plain (OpenSpec.upto fnExactFormatSetSpec)) fnExactFormatSetUptoCard

/-- THE SECOND FORM's CARD OF 'laws.FnExactParseSet'. -/
def fnExactParseSetUptoCard : Claim7 := { stood := { row := fnExactParseSetUptoRow, standIns := [], harness := (true, "2812655aadefa63c857e12a61bb797bcf0ebf41ae7d3c866cca6476a1c9dc43d"), looks := false }, kinds := [], alts := [], laidByText := true, laidKinds := [.data, .data, .data, .data, .pinned], laidTests := true, laidLooks := .later }
def FnExactParseSetUptoCardSaid : Prop := Claim7.holds Tryd.pinned (.plain (OpenSpec.upto fnExactParseSetSpec)) fnExactParseSetUptoCard

/-- THE SECOND FORM's CARD OF 'laws.FnExactFormatGroup'. -/
def fnExactFormatGroupUptoCard : Claim7 := { stood := { row := fnExactFormatGroupUptoRow, standIns := [], harness := (true, "2812655aadefa63c857e12a61bb797bcf0ebf41ae7d3c866cca6476a1c9dc43d"), looks := false }, kinds := [], alts := [], laidByText := true, laidKinds := [.data, .data, .data], laidTests := true, laidLooks := .later }
def FnExactFormatGroupUptoCardSaid : Prop := Claim7.holds Tryd.pinned (.plain (OpenSpec.upto fnExactFormatGroupSpec)) fnExactFormatGroupUptoCard

/-- THE SECOND FORM's CARD OF 'laws.FnExactParseGroup'. -/
def fnExactParseGroupUptoCard : Claim7 := { stood := { row := fnExactParseGroupUptoRow, standIns := [], harness := (true, "2812655aadefa63c857e12a61bb797bcf0ebf41ae7d3c866cca6476a1c9dc43d"), looks := false }, kinds := [], alts := [], laidByText := true, laidKinds := [.data, .data, .data, .data, .pinned], laidTests := true, laidLooks := .later }
def FnExactParseGroupUptoCardSaid : Prop := Claim7.holds Tryd.pinned (.plain (OpenSpec.upto fnExactParseGroupSpec)) fnExactParseGroupUptoCard
end Rows
end Go.Proofs.YthoiabdndaoflabDoor
