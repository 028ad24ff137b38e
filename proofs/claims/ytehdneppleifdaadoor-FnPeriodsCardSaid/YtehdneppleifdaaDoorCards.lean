/-
  DERIVED. GIVEN WITH THE SEED: THE CARDS: each row of YtehdneppleifdaaDoorRows.lean that lists a variable, with what it lists TIED to the program's text (the seventh form; the later family's looks); each row that meets fmt, with fmt's text TOLD by the authors' own Lean function (tested against real Go, not proved from fmt's source: count such statements apart). THE CARD IS WHAT COUNTS. Prove the row's statement (the work); the ties are given (YtehdneppleifdaaDoorTie.lean); close each card by the builder's one call (the guide's Derived/Test/ToyasCard.lean, 'card_holds'). Laid BY PROGRAM, IN A SANDBOX (cutbox-door.mjs). By AI agents, Wed Nov 11 2026. No macro, syntax, notation, axiom, sorry.
-/
import Derived.Test.YtehdneppleifdaaDoorRows
import GoSem.ClaimSeven
namespace Go.Proofs.YtehdneppleifdaaDoor
namespace Rows

/-- THE TIED CARD OF 'laws.FnPeriods'. -/
def fnPeriodsCard : Claim7 := { stood := { row := fnPeriodsRow, standIns := [], harness := (true, "2ce66e18ebc5b11526bd7027c20db8b97019ab8db85aaa2846b3b511ddc10991"), looks := false }, kinds := [], alts := [], laidByText := true, laidKinds := [.data, .data], laidTests := true, laidLooks := .later }
def FnPeriodsCardSaid : Prop := Claim7.holds Tryd.pinned (.plain (OpenSpec.ofChange fnPeriodsSpec)) fnPeriodsCard

/-- THE TIED CARD OF 'laws.FnExactQuotientSet'. -/
def fnExactQuotientSetCard : Claim7 := { stood := { row := fnExactQuotientSetRow, standIns := [], harness := (true, "2ce66e18ebc5b11526bd7027c20db8b97019ab8db85aaa2846b3b511ddc10991"), looks := false }, kinds := [], alts := [], laidByText := true, laidKinds := [.data, .data], laidTests := true, laidLooks := .later }
def FnExactQuotientSetCardSaid : Prop := Claim7.holds Tryd.pinned (.plain (OpenSpec.ofChange fnExactQuotientSetSpec)) fnExactQuotientSetCard

/-- THE TIED CARD OF 'laws.FnExactFillSet'. -/
def fnExactFillSetCard : Claim7 := { stood := { row := fnExactFillSetRow, standIns := [], harness := (true, "2ce66e18ebc5b11526bd7027c20db8b97019ab8db85aaa2846b3b511ddc10991"), looks := false }, kinds := [], alts := [], laidByText := true, laidKinds := [.data, .data], laidTests := true, laidLooks := .later }
def FnExactFillSetCardSaid : Prop := Claim7.holds Tryd.pinned (.plain (OpenSpec.ofChange fnExactFillSetSpec)) fnExactFillSetCard

/-- THE SECOND FORM's CARD OF 'laws.FnPeriods'. -/
def fnPeriodsUptoCard : Claim7 := { stood := { row := fnPeriodsUptoRow, standIns := [], harness := (true, "2ce66e18ebc5b11526bd7027c20db8b97019ab8db85aaa2846b3b511ddc10991"), looks := false }, kinds := [], alts := [], laidByText := true, laidKinds := [.data, .data], laidTests := true, laidLooks := .later }
def FnPeriodsUptoCardSaid : Prop := Claim7.holds Tryd.pinned (.plain (OpenSpec.upto fnPeriodsSpec)) fnPeriodsUptoCard

/-- THE SECOND FORM's CARD OF 'laws.FnExactQuotientSet'. -/
def fnExactQuotientSetUptoCard : Claim7 := { stood := { row := fnExactQuotientSetUptoRow, standIns := [], harness := (true, "2ce66e18ebc5b11526bd7027c20db8b97019ab8db85aaa2846b3b511ddc10991"), looks := false }, kinds := [], alts := [], laidByText := true, laidKinds := [.data, .data], laidTests := true, laidLooks := .later }
def FnExactQuotientSetUptoCardSaid : Prop := Claim7.holds Tryd.pinned (.plain (OpenSpec.upto fnExactQuotientSetSpec)) fnExactQuotientSetUptoCard

/-- THE SECOND FORM's CARD OF 'laws.FnExactFillSet'. -/
def fnExactFillSetUptoCard : Claim7 := { stood := { row := fnExactFillSetUptoRow, standIns := [], harness := (true, "2ce66e18ebc5b11526bd7027c20db8b97019ab8db85aaa2846b3b511ddc10991"), looks := false }, kinds := [], alts := [], laidByText := true, laidKinds := [.data, .data], laidTests := true, laidLooks := .later }
def FnExactFillSetUptoCardSaid : Prop := Claim7.holds Tryd.pinned (.plain (OpenSpec.upto fnExactFillSetSpec)) fnExactFillSetUptoCard
end Rows
end Go.Proofs.YtehdneppleifdaaDoor
