/-
  DERIVED. GIVEN WITH THE SEED: THE CARDS: each row of YtfkleihnafeoeaaGreatDoorRows.lean that lists a variable, with what it lists TIED to the program's text (the seventh form; the later family's looks); each row that meets fmt, with fmt's text TOLD by the authors' own Lean function (tested against real Go, not proved from fmt's source: count such statements apart). THE CARD IS WHAT COUNTS. Prove the row's statement (the work); the ties are given (YtfkleihnafeoeaaGreatDoorTie.lean); close each card by the builder's one call (the guide's Derived/Test/ToyasCard.lean, 'card_holds'). Laid BY PROGRAM, IN A SANDBOX (cutbox-door.mjs). By AI agents, Wed Nov 11 2026. No macro, syntax, notation, axiom, sorry.
-/
import Derived.Test.YtfkleihnafeoeaaGreatDoorRows
import GoSem.ClaimSeven
namespace Go.Proofs.YtfkleihnafeoeaaGreatDoor
namespace Rows

/-- THE TIED CARD OF 'laws.FnVosper'. -/
def fnVosperCard : Claim7 := { stood := { row := fnVosperRow, standIns := [], harness := (true, "902db7a4ebff9652160f84ca000f572f81b5a81ce1b422a2dba36e9efbd5167a"), looks := true }, kinds := [], alts := [], laidByText := true, laidKinds := [.data, .data, .handle], laidTests := true, laidLooks := .later }
def FnVosperCardSaid : Prop := Claim7.holds Tryz.pinned (.plain (OpenSpec.ofChange fnVosperSpec)) fnVosperCard

/-- THE SECOND FORM's CARD OF 'laws.FnVosper'. -/
def fnVosperUptoCard : Claim7 := { stood := { row := fnVosperUptoRow, standIns := [], harness := (true, "902db7a4ebff9652160f84ca000f572f81b5a81ce1b422a2dba36e9efbd5167a"), looks := true }, kinds := [], alts := [], laidByText := true, laidKinds := [.data, .data, .handle], laidTests := true, laidLooks := .later }
def FnVosperUptoCardSaid : Prop := Claim7.holds Tryz.pinned (.plain (OpenSpec.upto fnVosperSpec)) fnVosperUptoCard
end Rows
end Go.Proofs.YtfkleihnafeoeaaGreatDoor
