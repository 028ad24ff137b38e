/-
  DERIVED. GIVEN WITH THE SEED: THE CARDS: each row of YtkejpikhlejmaaaDoorRows.lean that lists a variable, with what it lists TIED to the program's text (the seventh form; the later family's looks); each row that meets fmt, with fmt's text TOLD by the authors' own Lean function (tested against real Go, not proved from fmt's source: count such statements apart). THE CARD IS WHAT COUNTS. Prove the row's statement (the work); the ties are given (YtkejpikhlejmaaaDoorTie.lean); close each card by the builder's one call (the guide's Derived/Test/ToyasCard.lean, 'card_holds'). Laid BY PROGRAM, IN A SANDBOX (cutbox-door.mjs). By AI agents, Wed Nov 11 2026. No macro, syntax, notation, axiom, sorry.
-/
import Derived.Test.YtkejpikhlejmaaaDoorRows
import GoSem.ClaimSeven
namespace Go.Proofs.YtkejpikhlejmaaaDoor
namespace Rows

/-- THE TIED CARD OF 'laws.FnSums'. -/
def fnSumsCard : Claim7 := { stood := { row := fnSumsRow, standIns := [], harness := (true, "6a14f9cbcc4315fc7dfcfa4b4e10957e81edc85d9337a4393f156a294596d433"), looks := false }, kinds := [], alts := [], laidByText := true, laidKinds := [.data, .data], laidTests := true, laidLooks := .later }
def FnSumsCardSaid : Prop := Claim7.holds Tryd.pinned (.plain (OpenSpec.ofChange fnSumsSpec)) fnSumsCard

/-- THE TIED CARD OF 'laws.FnExactListOf'. -/
def fnExactListOfCard : Claim7 := { stood := { row := fnExactListOfRow, standIns := [], harness := (true, "6a14f9cbcc4315fc7dfcfa4b4e10957e81edc85d9337a4393f156a294596d433"), looks := false }, kinds := [], alts := [], laidByText := true, laidKinds := [.data, .data], laidTests := true, laidLooks := .later }
def FnExactListOfCardSaid : Prop := Claim7.holds Tryd.pinned (.plain (OpenSpec.ofChange fnExactListOfSpec)) fnExactListOfCard

/-- THE TIED CARD OF 'laws.FnExactNegateSet'. -/
def fnExactNegateSetCard : Claim7 := { stood := { row := fnExactNegateSetRow, standIns := [], harness := (true, "6a14f9cbcc4315fc7dfcfa4b4e10957e81edc85d9337a4393f156a294596d433"), looks := false }, kinds := [], alts := [], laidByText := true, laidKinds := [.data, .data], laidTests := true, laidLooks := .later }
def FnExactNegateSetCardSaid : Prop := Claim7.holds Tryd.pinned (.plain (OpenSpec.ofChange fnExactNegateSetSpec)) fnExactNegateSetCard

/-- THE TIED CARD OF 'laws.FnExactDilateSet'. -/
def fnExactDilateSetCard : Claim7 := { stood := { row := fnExactDilateSetRow, standIns := [], harness := (true, "6a14f9cbcc4315fc7dfcfa4b4e10957e81edc85d9337a4393f156a294596d433"), looks := false }, kinds := [], alts := [], laidByText := true, laidKinds := [.data, .data], laidTests := true, laidLooks := .later }
def FnExactDilateSetCardSaid : Prop := Claim7.holds Tryd.pinned (.plain (OpenSpec.ofChange fnExactDilateSetSpec)) fnExactDilateSetCard

/-- THE TIED CARD OF 'laws.FnExactFormatSet'. -/
def fnExactFormatSetCard : Claim7 := { stood := { row := fnExactFormatSetRow, standIns := [], harness := (true, "6a14f9cbcc4315fc7dfcfa4b4e10957e81edc85d9337a4393f156a294596d433"), looks := false }, kinds := [], alts := [], laidByText := true, laidKinds := [.data, .data, .data], laidTests := true, laidLooks := .later }
def FnExactFormatSetCardSaid : Prop := Claim7.holds Tryd.pinned (.plain (OpenSpec.ofChange fnExactFormatSetSpec)) fnExactFormatSetCard

/-- THE TIED CARD OF 'laws.FnExactSumOfSets'. -/
def fnExactSumOfSetsCard : Claim7 := { stood := { row := fnExactSumOfSetsRow, standIns := [], harness := (true, "6a14f9cbcc4315fc7dfcfa4b4e10957e81edc85d9337a4393f156a294596d433"), looks := false }, kinds := [], alts := [], laidByText := true, laidKinds := [.data, .data], laidTests := true, laidLooks := .later }
def FnExactSumOfSetsCardSaid : Prop := Claim7.holds Tryd.pinned (.plain (OpenSpec.ofChange fnExactSumOfSetsSpec)) fnExactSumOfSetsCard

/-- THE TIED CARD OF 'laws.FnExactDifferenceOfSets'. -/
def fnExactDifferenceOfSetsCard : Claim7 := { stood := { row := fnExactDifferenceOfSetsRow, standIns := [], harness := (true, "6a14f9cbcc4315fc7dfcfa4b4e10957e81edc85d9337a4393f156a294596d433"), looks := false }, kinds := [], alts := [], laidByText := true, laidKinds := [.data, .data], laidTests := true, laidLooks := .later }
def FnExactDifferenceOfSetsCardSaid : Prop := Claim7.holds Tryd.pinned (.plain (OpenSpec.ofChange fnExactDifferenceOfSetsSpec)) fnExactDifferenceOfSetsCard

/-- THE TIED CARD OF 'laws.FnExactMultipleSum'. -/
def fnExactMultipleSumCard : Claim7 := { stood := { row := fnExactMultipleSumRow, standIns := [], harness := (true, "6a14f9cbcc4315fc7dfcfa4b4e10957e81edc85d9337a4393f156a294596d433"), looks := false }, kinds := [], alts := [], laidByText := true, laidKinds := [.data, .data], laidTests := true, laidLooks := .later }
def FnExactMultipleSumCardSaid : Prop := Claim7.holds Tryd.pinned (.plain (OpenSpec.ofChange fnExactMultipleSumSpec)) fnExactMultipleSumCard

/-- THE TIED CARD OF 'laws.FnExactRestrictedSum'. -/
def fnExactRestrictedSumCard : Claim7 := { stood := { row := fnExactRestrictedSumRow, standIns := [], harness := (true, "6a14f9cbcc4315fc7dfcfa4b4e10957e81edc85d9337a4393f156a294596d433"), looks := false }, kinds := [], alts := [], laidByText := true, laidKinds := [.data, .data], laidTests := true, laidLooks := .later }
def FnExactRestrictedSumCardSaid : Prop := Claim7.holds Tryd.pinned (.plain (OpenSpec.ofChange fnExactRestrictedSumSpec)) fnExactRestrictedSumCard

/-- THE TIED CARD OF 'laws.FnExactCountSums'. -/
def fnExactCountSumsCard : Claim7 := { stood := { row := fnExactCountSumsRow, standIns := [], harness := (true, "6a14f9cbcc4315fc7dfcfa4b4e10957e81edc85d9337a4393f156a294596d433"), looks := false }, kinds := [], alts := [], laidByText := true, laidKinds := [.data, .data], laidTests := true, laidLooks := .later }
def FnExactCountSumsCardSaid : Prop := Claim7.holds Tryd.pinned (.plain (OpenSpec.ofChange fnExactCountSumsSpec)) fnExactCountSumsCard

/-- THE TIED CARD OF 'laws.FnExactSumTable'. -/
def fnExactSumTableCard : Claim7 := { stood := { row := fnExactSumTableRow, standIns := [], harness := (true, "6a14f9cbcc4315fc7dfcfa4b4e10957e81edc85d9337a4393f156a294596d433"), looks := false }, kinds := [], alts := [], laidByText := true, laidKinds := [.data, .data], laidTests := true, laidLooks := .later }
def FnExactSumTableCardSaid : Prop := Claim7.holds Tryd.pinned (.plain (OpenSpec.ofChange fnExactSumTableSpec)) fnExactSumTableCard

/-- THE TIED CARD OF 'laws.FnExactSubsetSums'. -/
def fnExactSubsetSumsCard : Claim7 := { stood := { row := fnExactSubsetSumsRow, standIns := [], harness := (true, "6a14f9cbcc4315fc7dfcfa4b4e10957e81edc85d9337a4393f156a294596d433"), looks := false }, kinds := [], alts := [], laidByText := true, laidKinds := [.data, .data], laidTests := true, laidLooks := .later }
def FnExactSubsetSumsCardSaid : Prop := Claim7.holds Tryd.pinned (.plain (OpenSpec.ofChange fnExactSubsetSumsSpec)) fnExactSubsetSumsCard

/-- THE SECOND FORM's CARD OF 'laws.FnSums'. -/
def fnSumsUptoCard : Claim7 := { stood := { row := fnSumsUptoRow, standIns := [], harness := (true, "6a14f9cbcc4315fc7dfcfa4b4e10957e81edc85d9337a4393f156a294596d433"), looks := false }, kinds := [], alts := [], laidByText := true, laidKinds := [.data, .data], laidTests := true, laidLooks := .later }
def FnSumsUptoCardSaid : Prop := Claim7.holds Tryd.pinned (.plain (OpenSpec.upto fnSumsSpec)) fnSumsUptoCard

/-- THE SECOND FORM's CARD OF 'laws.FnExactListOf'. -/
def fnExactListOfUptoCard : Claim7 := { stood := { row := fnExactListOfUptoRow, standIns := [], harness := (true, "6a14f9cbcc4315fc7dfcfa4b4e10957e81edc85d9337a4393f156a294596d433"), looks := false }, kinds := [], alts := [], laidByText := true, laidKinds := [.data, .data], laidTests := true, laidLooks := .later }
def FnExactListOfUptoCardSaid : Prop := Claim7.holds Tryd.pinned (.plain (OpenSpec.upto fnExactListOfSpec)) fnExactListOfUptoCard

/-- THE SECOND FORM's CARD OF 'laws.FnExactNegateSet'. -/
def fnExactNegateSetUptoCard : Claim7 := { stood := { row := fnExactNegateSetUptoRow, standIns := [], harness := (true, "6a14f9cbcc4315fc7dfcfa4b4e10957e81edc85d9337a4393f156a294596d433"), looks := false }, kinds := [], alts := [], laidByText := true, laidKinds := [.data, .data], laidTests := true, laidLooks := .later }
def FnExactNegateSetUptoCardSaid : Prop := Claim7.holds Tryd.pinned (.plain (OpenSpec.upto fnExactNegateSetSpec)) fnExactNegateSetUptoCard

/-- THE SECOND FORM's CARD OF 'laws.FnExactDilateSet'. -/
def fnExactDilateSetUptoCard : Claim7 := { stood := { row := fnExactDilateSetUptoRow, standIns := [], harness := (true, "6a14f9cbcc4315fc7dfcfa4b4e10957e81edc85d9337a4393f156a294596d433"), looks := false }, kinds := [], alts := [], laidByText := true, laidKinds := [.data, .data], laidTests := true, laidLooks := .later }
def FnExactDilateSetUptoCardSaid : Prop := Claim7.holds Tryd.pinned (.plain (OpenSpec.upto fnExactDilateSetSpec)) fnExactDilateSetUptoCard

/-- THE SECOND FORM's CARD OF 'laws.FnExactFormatSet'. -/
def fnExactFormatSetUptoCard : Claim7 := { stood := { row := fnExactFormatSetUptoRow, standIns := [], harness := (true, "6a14f9cbcc4315fc7dfcfa4b4e10957e81edc85d9337a4393f156a294596d433"), looks := false }, kinds := [], alts := [], laidByText := true, laidKinds := [.data, .data, .data], laidTests := true, laidLooks := .later }
def FnExactFormatSetUptoCardSaid : Prop := Claim7.holds Tryd.pinned (.plain (OpenSpec.upto fnExactFormatSetSpec)) fnExactFormatSetUptoCard

/-- THE SECOND FORM's CARD OF 'laws.FnExactSumOfSets'. -/
def fnExactSumOfSetsUptoCard : Claim7 := { stood := { row := fnExactSumOfSetsUptoRow, standIns := [], harness := (true, "6a14f9cbcc4315fc7dfcfa4b4e10957e81edc85d9337a4393f156a294596d433"), looks := false }, kinds := [], alts := [], laidByText := true, laidKinds := [.data, .data], laidTests := true, laidLooks := .later }
def FnExactSumOfSetsUptoCardSaid : Prop := Claim7.holds Tryd.pinned (.plain (OpenSpec.upto fnExactSumOfSetsSpec)) fnExactSumOfSetsUptoCard

/-- THE SECOND FORM's CARD OF 'laws.FnExactDifferenceOfSets'. -/
def fnExactDifferenceOfSetsUptoCard : Claim7 := { stood := { row := fnExactDifferenceOfSetsUptoRow, standIns := [], harness := (true, "6a14f9cbcc4315fc7dfcfa4b4e10957e81edc85d9337a4393f156a294596d433"), looks := false }, kinds := [], alts := [], laidByText := true, laidKinds := [.data, .data], laidTests := true, laidLooks := .later }
def FnExactDifferenceOfSetsUptoCardSaid : Prop := Claim7.holds Tryd.pinned (.plain (OpenSpec.upto fnExactDifferenceOfSetsSpec)) fnExactDifferenceOfSetsUptoCard

/-- THE SECOND FORM's CARD OF 'laws.FnExactMultipleSum'. -/
def fnExactMultipleSumUptoCard : Claim7 := { stood := { row := fnExactMultipleSumUptoRow, standIns := [], harness := (true, "6a14f9cbcc4315fc7dfcfa4b4e10957e81edc85d9337a4393f156a294596d433"), looks := false }, kinds := [], alts := [], laidByText := true, laidKinds := [.data, .data], laidTests := true, laidLooks := .later }
def FnExactMultipleSumUptoCardSaid : Prop := Claim7.holds Tryd.pinned (.plain (OpenSpec.upto fnExactMultipleSumSpec)) fnExactMultipleSumUptoCard

/-- THE SECOND FORM's CARD OF 'laws.FnExactRestrictedSum'. -/
def fnExactRestrictedSumUptoCard : Claim7 := { stood := { row := fnExactRestrictedSumUptoRow, standIns := [], harness := (true, "6a14f9cbcc4315fc7dfcfa4b4e10957e81edc85d9337a4393f156a294596d433"), looks := false }, kinds := [], alts := [], laidByText := true, laidKinds := [.data, .data], laidTests := true, laidLooks := .later }
def FnExactRestrictedSumUptoCardSaid : Prop := Claim7.holds Tryd.pinned (.plain (OpenSpec.upto fnExactRestrictedSumSpec)) fnExactRestrictedSumUptoCard

/-- THE SECOND FORM's CARD OF 'laws.FnExactCountSums'. -/
def fnExactCountSumsUptoCard : Claim7 := { stood := { row := fnExactCountSumsUptoRow, standIns := [], harness := (true, "6a14f9cbcc4315fc7dfcfa4b4e10957e81edc85d9337a4393f156a294596d433"), looks := false }, kinds := [], alts := [], laidByText := true, laidKinds := [.data, .data], laidTests := true, laidLooks := .later }
def FnExactCountSumsUptoCardSaid : Prop := Claim7.holds Tryd.pinned (.plain (OpenSpec.upto fnExactCountSumsSpec)) fnExactCountSumsUptoCard

/-- THE SECOND FORM's CARD OF 'laws.FnExactSumTable'. -/
def fnExactSumTableUptoCard : Claim7 := { stood := { row := fnExactSumTableUptoRow, standIns := [], harness := (true, "6a14f9cbcc4315fc7dfcfa4b4e10957e81edc85d9337a4393f156a294596d433"), looks := false }, kinds := [], alts := [], laidByText := true, laidKinds := [.data, .data], laidTests := true, laidLooks := .later }
def FnExactSumTableUptoCardSaid : Prop := Claim7.holds Tryd.pinned (.plain (OpenSpec.upto fnExactSumTableSpec)) fnExactSumTableUptoCard

/-- THE SECOND FORM's CARD OF 'laws.FnExactSubsetSums'. -/
def fnExactSubsetSumsUptoCard : Claim7 := { stood := { row := fnExactSubsetSumsUptoRow, standIns := [], harness := (true, "6a14f9cbcc4315fc7dfcfa4b4e10957e81edc85d9337a4393f156a294596d433"), looks := false }, kinds := [], alts := [], laidByText := true, laidKinds := [.data, .data], laidTests := true, laidLooks := .later }
def FnExactSubsetSumsUptoCardSaid : Prop := Claim7.holds Tryd.pinned (.plain (OpenSpec.upto fnExactSubsetSumsSpec)) fnExactSubsetSumsUptoCard
end Rows
end Go.Proofs.YtkejpikhlejmaaaDoor
