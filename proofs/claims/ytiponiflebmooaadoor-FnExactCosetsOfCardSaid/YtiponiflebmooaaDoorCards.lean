/-
  DERIVED. GIVEN WITH THE SEED: THE CARDS: each row of YtiponiflebmooaaDoorRows.lean that lists a variable, with what it lists TIED to the program's text (the seventh form; the later family's looks); each row that meets fmt, with fmt's text TOLD by the authors' own Lean function (tested against real Go, not proved from fmt's source: count such statements apart). THE CARD IS WHAT COUNTS. Prove the row's statement (the work); the ties are given (YtiponiflebmooaaDoorTie.lean); close each card by the builder's one call (the guide's Derived/Test/ToyasCard.lean, 'card_holds'). Laid BY PROGRAM, IN A SANDBOX (cutbox-door.mjs). By AI agents, Wed Nov 11 2026. No macro, syntax, notation, axiom, sorry.
-/
import Derived.Test.YtiponiflebmooaaDoorRows
import GoSem.ClaimSeven
namespace Go.Proofs.YtiponiflebmooaaDoor
namespace Rows

/-- THE TIED CARD OF 'laws.FnExactGeneratedBy'. -/
def fnExactGeneratedByCard : Claim7 := { stood := { row := fnExactGeneratedByRow, standIns := [], harness := (true, "edf5d8befd3ddca44d38d8e024c78c3e913b1c82ee55a0369f5efb6edfe8401f"), looks := false }, kinds := [], alts := [], laidByText := true, laidKinds := [.data, .data], laidTests := true, laidLooks := .later }
def FnExactGeneratedByCardSaid : Prop := Claim7.holds Tryd.pinned (.plain (OpenSpec.ofChange fnExactGeneratedBySpec)) fnExactGeneratedByCard

/-- THE TIED CARD OF 'laws.FnExactIsSubgroup'. -/
def fnExactIsSubgroupCard : Claim7 := { stood := { row := fnExactIsSubgroupRow, standIns := [], harness := (true, "edf5d8befd3ddca44d38d8e024c78c3e913b1c82ee55a0369f5efb6edfe8401f"), looks := false }, kinds := [], alts := [], laidByText := true, laidKinds := [.data, .data], laidTests := true, laidLooks := .later }
def FnExactIsSubgroupCardSaid : Prop := Claim7.holds Tryd.pinned (.plain (OpenSpec.ofChange fnExactIsSubgroupSpec)) fnExactIsSubgroupCard

/-- THE TIED CARD OF 'laws.FnExactCosetsOf'. -/
def fnExactCosetsOfCard : Claim7 := { stood := { row := fnExactCosetsOfRow, standIns := [], harness := (true, "edf5d8befd3ddca44d38d8e024c78c3e913b1c82ee55a0369f5efb6edfe8401f"), looks := false }, kinds := [], alts := [], laidByText := true, laidKinds := [.data, .data], laidTests := true, laidLooks := .later }
def FnExactCosetsOfCardSaid : Prop := Claim7.holds Tryd.pinned (.plain (OpenSpec.ofChange fnExactCosetsOfSpec)) fnExactCosetsOfCard

/-- THE TIED CARD OF 'laws.FnExactCosetNumber'. -/
def fnExactCosetNumberCard : Claim7 := { stood := { row := fnExactCosetNumberRow, standIns := [], harness := (true, "edf5d8befd3ddca44d38d8e024c78c3e913b1c82ee55a0369f5efb6edfe8401f"), looks := false }, kinds := [], alts := [], laidByText := true, laidKinds := [.data, .data], laidTests := true, laidLooks := .later }
def FnExactCosetNumberCardSaid : Prop := Claim7.holds Tryd.pinned (.plain (OpenSpec.ofChange fnExactCosetNumberSpec)) fnExactCosetNumberCard

/-- THE TIED CARD OF 'laws.FnExactIsCoset'. -/
def fnExactIsCosetCard : Claim7 := { stood := { row := fnExactIsCosetRow, standIns := [], harness := (true, "edf5d8befd3ddca44d38d8e024c78c3e913b1c82ee55a0369f5efb6edfe8401f"), looks := false }, kinds := [], alts := [], laidByText := true, laidKinds := [.data, .data], laidTests := true, laidLooks := .later }
def FnExactIsCosetCardSaid : Prop := Claim7.holds Tryd.pinned (.plain (OpenSpec.ofChange fnExactIsCosetSpec)) fnExactIsCosetCard

/-- THE TIED CARD OF 'laws.FnExactAffineHull'. -/
def fnExactAffineHullCard : Claim7 := { stood := { row := fnExactAffineHullRow, standIns := [], harness := (true, "edf5d8befd3ddca44d38d8e024c78c3e913b1c82ee55a0369f5efb6edfe8401f"), looks := false }, kinds := [], alts := [], laidByText := true, laidKinds := [.data, .data], laidTests := true, laidLooks := .later }
def FnExactAffineHullCardSaid : Prop := Claim7.holds Tryd.pinned (.plain (OpenSpec.ofChange fnExactAffineHullSpec)) fnExactAffineHullCard

/-- THE SECOND FORM's CARD OF 'laws.FnExactGeneratedBy'. -/
def fnExactGeneratedByUptoCard : Claim7 := { stood := { row := fnExactGeneratedByUptoRow, standIns := [], harness := (true, "edf5d8befd3ddca44d38d8e024c78c3e913b1c82ee55a0369f5efb6edfe8401f"), looks := false }, kinds := [], alts := [], laidByText := true, laidKinds := [.data, .data], laidTests := true, laidLooks := .later }
def FnExactGeneratedByUptoCardSaid : Prop := Claim7.holds Tryd.pinned (.plain (OpenSpec.upto fnExactGeneratedBySpec)) fnExactGeneratedByUptoCard

/-- THE SECOND FORM's CARD OF 'laws.FnExactIsSubgroup'. -/
def fnExactIsSubgroupUptoCard : Claim7 := { stood := { row := fnExactIsSubgroupUptoRow, standIns := [], harness := (true, "edf5d8befd3ddca44d38d8e024c78c3e913b1c82ee55a0369f5efb6edfe8401f"), looks := false }, kinds := [], alts := [], laidByText := true, laidKinds := [.data, .data], laidTests := true, laidLooks := .later }
def FnExactIsSubgroupUptoCardSaid : Prop := Claim7.holds Tryd.pinned (.plain (OpenSpec.upto fnExactIsSubgroupSpec)) fnExactIsSubgroupUptoCard

/-- THE SECOND FORM's CARD OF 'laws.FnExactCosetsOf'. -/
def fnExactCosetsOfUptoCard : Claim7 := { stood := { row := fnExactCosetsOfUptoRow, standIns := [], harness := (true, "edf5d8befd3ddca44d38d8e024c78c3e913b1c82ee55a0369f5efb6edfe8401f"), looks := false }, kinds := [], alts := [], laidByText := true, laidKinds := [.data, .data], laidTests := true, laidLooks := .later }
def FnExactCosetsOfUptoCardSaid : Prop := Claim7.holds Tryd.pinned (.plain (OpenSpec.upto fnExactCosetsOfSpec)) fnExactCosetsOfUptoCard

/-- THE SECOND FORM's CARD OF 'laws.FnExactCosetNumber'. -/
def fnExactCosetNumberUptoCard : Claim7 := { stood := { row := fnExactCosetNumberUptoRow, standIns := [], harness := (true, "edf5d8befd3ddca44d38d8e024c78c3e913b1c82ee55a0369f5efb6edfe8401f"), looks := false }, kinds := [], alts := [], laidByText := true, laidKinds := [.data, .data], laidTests := true, laidLooks := .later }
def FnExactCosetNumberUptoCardSaid : Prop := Claim7.holds Tryd.pinned (.plain (OpenSpec.upto fnExactCosetNumberSpec)) fnExactCosetNumberUptoCard

/-- THE SECOND FORM's CARD OF 'laws.FnExactIsCoset'. -/
def fnExactIsCosetUptoCard : Claim7 := { stood := { row := fnExactIsCosetUptoRow, standIns := [], harness := (true, "edf5d8befd3ddca44d38d8e024c78c3e913b1c82ee55a0369f5efb6edfe8401f"), looks := false }, kinds := [], alts := [], laidByText := true, laidKinds := [.data, .data], laidTests := true, laidLooks := .later }
def FnExactIsCosetUptoCardSaid : Prop := Claim7.holds Tryd.pinned (.plain (OpenSpec.upto fnExactIsCosetSpec)) fnExactIsCosetUptoCard

/-- THE SECOND FORM's CARD OF 'laws.FnExactAffineHull'. -/
def fnExactAffineHullUptoCard : Claim7 := { stood := { row := fnExactAffineHullUptoRow, standIns := [], harness := (true, "edf5d8befd3ddca44d38d8e024c78c3e913b1c82ee55a0369f5efb6edfe8401f"), looks := false }, kinds := [], alts := [], laidByText := true, laidKinds := [.data, .data], laidTests := true, laidLooks := .later }
def FnExactAffineHullUptoCardSaid : Prop := Claim7.holds Tryd.pinned (.plain (OpenSpec.upto fnExactAffineHullSpec)) fnExactAffineHullUptoCard
end Rows
end Go.Proofs.YtiponiflebmooaaDoor
