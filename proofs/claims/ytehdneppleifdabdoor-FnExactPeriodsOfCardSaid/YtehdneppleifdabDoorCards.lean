/-
  DERIVED. GIVEN WITH THE SEED: THE CARDS: each row of YtehdneppleifdabDoorRows.lean that lists a variable, with what it lists TIED to the program's text (the seventh form; the later family's looks); each row that meets fmt, with fmt's text TOLD by the authors' own Lean function (tested against real Go, not proved from fmt's source: count such statements apart). THE CARD IS WHAT COUNTS. Prove the row's statement (the work); the ties are given (YtehdneppleifdabDoorTie.lean); close each card by the builder's one call (the guide's Derived/Test/ToyasCard.lean, 'card_holds'). Laid BY PROGRAM, IN A SANDBOX (cutbox-door.mjs). By AI agents, Wed Nov 11 2026. No macro, syntax, notation, axiom, sorry.
-/
import Derived.Test.YtehdneppleifdabDoorRows
import GoSem.ClaimSeven
namespace Go.Proofs.YtehdneppleifdabDoor
namespace Rows

/-- THE TIED CARD OF 'laws.FnExactCorePart'. -/
def fnExactCorePartCard : Claim7 := { stood := { row := fnExactCorePartRow, standIns := [], harness := (true, "48c36e97901ceebc5e7dce31348ace0e06b2b109bb5a479808d936ce5e649146"), looks := false }, kinds := [], alts := [], laidByText := true, laidKinds := [.data, .data], laidTests := true, laidLooks := .later }
def FnExactCorePartCardSaid : Prop := Claim7.holds Tryd.pinned (.plain (OpenSpec.ofChange fnExactCorePartSpec)) fnExactCorePartCard

/-- THE TIED CARD OF 'laws.FnExactPeriodsOf'. -/
def fnExactPeriodsOfCard : Claim7 := { stood := { row := fnExactPeriodsOfRow, standIns := [], harness := (true, "48c36e97901ceebc5e7dce31348ace0e06b2b109bb5a479808d936ce5e649146"), looks := false }, kinds := [], alts := [], laidByText := true, laidKinds := [.data, .data], laidTests := true, laidLooks := .later }
def FnExactPeriodsOfCardSaid : Prop := Claim7.holds Tryd.pinned (.plain (OpenSpec.ofChange fnExactPeriodsOfSpec)) fnExactPeriodsOfCard

/-- THE SECOND FORM's CARD OF 'laws.FnExactCorePart'. -/
def fnExactCorePartUptoCard : Claim7 := { stood := { row := fnExactCorePartUptoRow, standIns := [], harness := (true, "48c36e97901ceebc5e7dce31348ace0e06b2b109bb5a479808d936ce5e649146"), looks := false }, kinds := [], alts := [], laidByText := true, laidKinds := [.data, .data], laidTests := true, laidLooks := .later }
def FnExactCorePartUptoCardSaid : Prop := Claim7.holds Tryd.pinned (.plain (OpenSpec.upto fnExactCorePartSpec)) fnExactCorePartUptoCard

/-- THE SECOND FORM's CARD OF 'laws.FnExactPeriodsOf'. -/
def fnExactPeriodsOfUptoCard : Claim7 := { stood := { row := fnExactPeriodsOfUptoRow, standIns := [], harness := (true, "48c36e97901ceebc5e7dce31348ace0e06b2b109bb5a479808d936ce5e649146"), looks := false }, kinds := [], alts := [], laidByText := true, laidKinds := [.data, .data], laidTests := true, laidLooks := .later }
def FnExactPeriodsOfUptoCardSaid : Prop := Claim7.holds Tryd.pinned (.plain (OpenSpec.upto fnExactPeriodsOfSpec)) fnExactPeriodsOfUptoCard
end Rows
end Go.Proofs.YtehdneppleifdabDoor
