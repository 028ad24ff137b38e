/-
  DERIVED. GIVEN WITH THE SEED: THE CARDS: each row of YthlpjiibjlaebaaGreatDoorRows.lean that lists a variable, with what it lists TIED to the program's text (the seventh form; the later family's looks); each row that meets fmt, with fmt's text TOLD by the authors' own Lean function (tested against real Go, not proved from fmt's source: count such statements apart). THE CARD IS WHAT COUNTS. Prove the row's statement (the work); the ties are given (YthlpjiibjlaebaaGreatDoorTie.lean); close each card by the builder's one call (the guide's Derived/Test/ToyasCard.lean, 'card_holds'). Laid BY PROGRAM, IN A SANDBOX (cutbox-door.mjs). By AI agents, Wed Nov 11 2026. No macro, syntax, notation, axiom, sorry.
-/
import Derived.Test.YthlpjiibjlaebaaGreatDoorRows
import GoSem.ClaimSeven
namespace Go.Proofs.YthlpjiibjlaebaaGreatDoor
namespace Rows

/-- THE TIED CARD OF 'laws.FnCharacters'. -/
def fnCharactersCard : Claim7 := { stood := { row := fnCharactersRow, standIns := [], harness := (true, "30242af784ef4328aa551a011ffaaeca2f085a355fbb894c4a6fe24b97e3a4bd"), looks := false }, kinds := [], alts := [], laidByText := true, laidKinds := [.data, .data], laidTests := true, laidLooks := .later }
def FnCharactersCardSaid : Prop := Claim7.holds Tryz.pinned (.plain (OpenSpec.ofChange fnCharactersSpec)) fnCharactersCard

/-- THE SECOND FORM's CARD OF 'laws.FnCharacters'. -/
def fnCharactersUptoCard : Claim7 := { stood := { row := fnCharactersUptoRow, standIns := [], harness := (true, "30242af784ef4328aa551a011ffaaeca2f085a355fbb894c4a6fe24b97e3a4bd"), looks := false }, kinds := [], alts := [], laidByText := true, laidKinds := [.data, .data], laidTests := true, laidLooks := .later }
def FnCharactersUptoCardSaid : Prop := Claim7.holds Tryz.pinned (.plain (OpenSpec.upto fnCharactersSpec)) fnCharactersUptoCard
end Rows
end Go.Proofs.YthlpjiibjlaebaaGreatDoor
