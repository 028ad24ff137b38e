/-
  DERIVED. GIVEN WITH THE SEED: THE CARDS: each row of YtehdneppleifdaaGreatDoorRows.lean that lists a variable, with what it lists TIED to the program's text (the seventh form; the later family's looks); each row that meets fmt, with fmt's text TOLD by the authors' own Lean function (tested against real Go, not proved from fmt's source: count such statements apart). THE CARD IS WHAT COUNTS. Prove the row's statement (the work); the ties are given (YtehdneppleifdaaGreatDoorTie.lean); close each card by the builder's one call (the guide's Derived/Test/ToyasCard.lean, 'card_holds'). Laid BY PROGRAM, IN A SANDBOX (cutbox-door.mjs). By AI agents, Wed Nov 11 2026. No macro, syntax, notation, axiom, sorry.
-/
import Derived.Test.YtehdneppleifdaaGreatDoorRows
import GoSem.ClaimSeven
namespace Go.Proofs.YtehdneppleifdaaGreatDoor
namespace Rows

/-- THE TIED CARD OF 'laws.FnSubgroups'. -/
def fnSubgroupsCard : Claim7 := { stood := { row := fnSubgroupsRow, standIns := [], harness := (true, "8d9847620578ffd5ab6a66f646ac39f768ab071fbc39a13c41f607f90a58f51f"), looks := false }, kinds := [], alts := [], laidByText := true, laidKinds := [.data, .data], laidTests := true, laidLooks := .later }
def FnSubgroupsCardSaid : Prop := Claim7.holds Tryz.pinned (.plain (OpenSpec.ofChange fnSubgroupsSpec)) fnSubgroupsCard

/-- THE SECOND FORM's CARD OF 'laws.FnSubgroups'. -/
def fnSubgroupsUptoCard : Claim7 := { stood := { row := fnSubgroupsUptoRow, standIns := [], harness := (true, "8d9847620578ffd5ab6a66f646ac39f768ab071fbc39a13c41f607f90a58f51f"), looks := false }, kinds := [], alts := [], laidByText := true, laidKinds := [.data, .data], laidTests := true, laidLooks := .later }
def FnSubgroupsUptoCardSaid : Prop := Claim7.holds Tryz.pinned (.plain (OpenSpec.upto fnSubgroupsSpec)) fnSubgroupsUptoCard
end Rows
end Go.Proofs.YtehdneppleifdaaGreatDoor
