/-
  DERIVED. GIVEN WITH THE SEED: THE CARDS: each row of YtaacofbmbpkeoaaDoorRows.lean that lists a variable, with what it lists TIED to the program's text (the seventh form; the later family's looks); each row that meets fmt, with fmt's text TOLD by the authors' own Lean function (tested against real Go, not proved from fmt's source: count such statements apart). THE CARD IS WHAT COUNTS. Prove the row's statement (the work); the ties are given (YtaacofbmbpkeoaaDoorTie.lean); close each card by the builder's one call (the guide's Derived/Test/ToyasCard.lean, 'card_holds'). Laid BY PROGRAM, IN A SANDBOX (cutbox-door.mjs). By AI agents, Wed Nov 11 2026. No macro, syntax, notation, axiom, sorry.
-/
import Derived.Test.YtaacofbmbpkeoaaDoorRows
import GoSem.ClaimSeven
namespace Go.Proofs.YtaacofbmbpkeoaaDoor
namespace Rows

/-- THE TIED CARD OF 'laws.FnExactKneserBound'. -/
def fnExactKneserBoundCard : Claim7 := { stood := { row := fnExactKneserBoundRow, standIns := [], harness := (true, "1d032805fe8b639f0df972107507ca5088a800b83fb56a7469ca6c3069ea8884"), looks := true }, kinds := [], alts := [], laidByText := true, laidKinds := [.data, .data, .handle], laidTests := true, laidLooks := .later }
def FnExactKneserBoundCardSaid : Prop := Claim7.holds Tryd.pinned (.plain (OpenSpec.ofChange fnExactKneserBoundSpec)) fnExactKneserBoundCard

/-- THE TIED CARD OF 'laws.FnExactIsKneserTight'. -/
def fnExactIsKneserTightCard : Claim7 := { stood := { row := fnExactIsKneserTightRow, standIns := [], harness := (true, "1d032805fe8b639f0df972107507ca5088a800b83fb56a7469ca6c3069ea8884"), looks := true }, kinds := [], alts := [], laidByText := true, laidKinds := [.data, .data, .handle], laidTests := true, laidLooks := .later }
def FnExactIsKneserTightCardSaid : Prop := Claim7.holds Tryd.pinned (.plain (OpenSpec.ofChange fnExactIsKneserTightSpec)) fnExactIsKneserTightCard

/-- THE TIED CARD OF 'laws.FnExactCauchyBound'. -/
def fnExactCauchyBoundCard : Claim7 := { stood := { row := fnExactCauchyBoundRow, standIns := [], harness := (true, "1d032805fe8b639f0df972107507ca5088a800b83fb56a7469ca6c3069ea8884"), looks := true }, kinds := [], alts := [], laidByText := true, laidKinds := [.handle], laidTests := true, laidLooks := .later }
def FnExactCauchyBoundCardSaid : Prop := Claim7.holds Tryd.pinned (.plain (OpenSpec.ofChange fnExactCauchyBoundSpec)) fnExactCauchyBoundCard

/-- THE TIED CARD OF 'laws.FnExactChowlaHolds'. -/
def fnExactChowlaHoldsCard : Claim7 := { stood := { row := fnExactChowlaHoldsRow, standIns := [], harness := (true, "1d032805fe8b639f0df972107507ca5088a800b83fb56a7469ca6c3069ea8884"), looks := true }, kinds := [], alts := [], laidByText := true, laidKinds := [.data, .data, .handle], laidTests := true, laidLooks := .later }
def FnExactChowlaHoldsCardSaid : Prop := Claim7.holds Tryd.pinned (.plain (OpenSpec.ofChange fnExactChowlaHoldsSpec)) fnExactChowlaHoldsCard

/-- THE TIED CARD OF 'laws.FnExactSumDefect'. -/
def fnExactSumDefectCard : Claim7 := { stood := { row := fnExactSumDefectRow, standIns := [], harness := (true, "1d032805fe8b639f0df972107507ca5088a800b83fb56a7469ca6c3069ea8884"), looks := true }, kinds := [], alts := [], laidByText := true, laidKinds := [.data, .data, .handle], laidTests := true, laidLooks := .later }
def FnExactSumDefectCardSaid : Prop := Claim7.holds Tryd.pinned (.plain (OpenSpec.ofChange fnExactSumDefectSpec)) fnExactSumDefectCard

/-- THE TIED CARD OF 'laws.FnExactKneserPair'. -/
def fnExactKneserPairCard : Claim7 := { stood := { row := fnExactKneserPairRow, standIns := [], harness := (true, "1d032805fe8b639f0df972107507ca5088a800b83fb56a7469ca6c3069ea8884"), looks := true }, kinds := [], alts := [], laidByText := true, laidKinds := [.data, .data, .handle], laidTests := true, laidLooks := .later }
def FnExactKneserPairCardSaid : Prop := Claim7.holds Tryd.pinned (.plain (OpenSpec.ofChange fnExactKneserPairSpec)) fnExactKneserPairCard

/-- THE SECOND FORM's CARD OF 'laws.FnExactKneserBound'. -/
def fnExactKneserBoundUptoCard : Claim7 := { stood := { row := fnExactKneserBoundUptoRow, standIns := [], harness := (true, "1d032805fe8b639f0df972107507ca5088a800b83fb56a7469ca6c3069ea8884"), looks := true }, kinds := [], alts := [], laidByText := true, laidKinds := [.data, .data, .handle], laidTests := true, laidLooks := .later }
def FnExactKneserBoundUptoCardSaid : Prop := Claim7.holds Tryd.pinned (.plain (OpenSpec.upto fnExactKneserBoundSpec)) fnExactKneserBoundUptoCard

/-- THE SECOND FORM's CARD OF 'laws.FnExactIsKneserTight'. -/
def fnExactIsKneserTightUptoCard : Claim7 := { stood := { row := fnExactIsKneserTightUptoRow, standIns := [], harness := (true, "1d032805fe8b639f0df972107507ca5088a800b83fb56a7469ca6c3069ea8884"), looks := true }, kinds := [], alts := [], laidByText := true, laidKinds := [.data, .data, .handle], laidTests := true, laidLooks := .later }
def FnExactIsKneserTightUptoCardSaid : Prop := Claim7.holds Tryd.pinned (.plain (OpenSpec.upto fnExactIsKneserTightSpec)) fnExactIsKneserTightUptoCard

/-- THE SECOND FORM's CARD OF 'laws.FnExactCauchyBound'. -/
def fnExactCauchyBoundUptoCard : Claim7 := { stood := { row := fnExactCauchyBoundUptoRow, standIns := [], harness := (true, "1d032805fe8b639f0df972107507ca5088a800b83fb56a7469ca6c3069ea8884"), looks := true }, kinds := [], alts := [], laidByText := true, laidKinds := [.handle], laidTests := true, laidLooks := .later }
def FnExactCauchyBoundUptoCardSaid : Prop := Claim7.holds Tryd.pinned (.plain (OpenSpec.upto fnExactCauchyBoundSpec)) fnExactCauchyBoundUptoCard

/-- THE SECOND FORM's CARD OF 'laws.FnExactChowlaHolds'. -/
def fnExactChowlaHoldsUptoCard : Claim7 := { stood := { row := fnExactChowlaHoldsUptoRow, standIns := [], harness := (true, "1d032805fe8b639f0df972107507ca5088a800b83fb56a7469ca6c3069ea8884"), looks := true }, kinds := [], alts := [], laidByText := true, laidKinds := [.data, .data, .handle], laidTests := true, laidLooks := .later }
def FnExactChowlaHoldsUptoCardSaid : Prop := Claim7.holds Tryd.pinned (.plain (OpenSpec.upto fnExactChowlaHoldsSpec)) fnExactChowlaHoldsUptoCard

/-- THE SECOND FORM's CARD OF 'laws.FnExactSumDefect'. -/
def fnExactSumDefectUptoCard : Claim7 := { stood := { row := fnExactSumDefectUptoRow, standIns := [], harness := (true, "1d032805fe8b639f0df972107507ca5088a800b83fb56a7469ca6c3069ea8884"), looks := true }, kinds := [], alts := [], laidByText := true, laidKinds := [.data, .data, .handle], laidTests := true, laidLooks := .later }
def FnExactSumDefectUptoCardSaid : Prop := Claim7.holds Tryd.pinned (.plain (OpenSpec.upto fnExactSumDefectSpec)) fnExactSumDefectUptoCard

/-- THE SECOND FORM's CARD OF 'laws.FnExactKneserPair'. -/
def fnExactKneserPairUptoCard : Claim7 := { stood := { row := fnExactKneserPairUptoRow, standIns := [], harness := (true, "1d032805fe8b639f0df972107507ca5088a800b83fb56a7469ca6c3069ea8884"), looks := true }, kinds := [], alts := [], laidByText := true, laidKinds := [.data, .data, .handle], laidTests := true, laidLooks := .later }
def FnExactKneserPairUptoCardSaid : Prop := Claim7.holds Tryd.pinned (.plain (OpenSpec.upto fnExactKneserPairSpec)) fnExactKneserPairUptoCard
end Rows
end Go.Proofs.YtaacofbmbpkeoaaDoor
