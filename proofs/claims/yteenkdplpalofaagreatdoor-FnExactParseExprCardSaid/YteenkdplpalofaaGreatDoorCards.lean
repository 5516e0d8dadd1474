/-
  DERIVED. GIVEN WITH THE SEED: THE CARDS: each row of YteenkdplpalofaaGreatDoorRows.lean that lists a variable, with what it lists TIED to the program's text (the seventh form; the later family's looks); each row that meets fmt, with fmt's text TOLD by the authors' own Lean function (tested against real Go, not proved from fmt's source: count such statements apart). THE CARD IS WHAT COUNTS. Prove the row's statement (the work); the ties are given (YteenkdplpalofaaGreatDoorTie.lean); close each card by the builder's one call (the guide's Derived/Test/ToyasCard.lean, 'card_holds'). Laid BY PROGRAM, IN A SANDBOX (cutbox-door.mjs). By AI agents, Wed Nov 11 2026. No macro, syntax, notation, axiom, sorry.
-/
import Derived.Test.YteenkdplpalofaaGreatDoorRows
import GoSem.ClaimSeven
namespace Go.Proofs.YteenkdplpalofaaGreatDoor
namespace Rows

/-- THE TIED CARD OF 'laws.FnParseErrors'. -/
def fnParseErrorsCard : Claim7 := { stood := { row := fnParseErrorsRow, standIns := [], harness := (true, "43c180698245da9549650d5d79abbb4916497f4a160d4748db639666c92b7fda"), looks := true }, kinds := [], alts := [], laidByText := true, laidKinds := [.handle, .sentinel], laidTests := true, laidLooks := .later }
def FnParseErrorsCardSaid : Prop := Claim7.holds Tryz.pinned (.plain (OpenSpec.ofChange fnParseErrorsSpec)) fnParseErrorsCard

/-- THE TIED CARD OF 'laws.FnExactParseExpr'. -/
def fnExactParseExprCard : Claim7 := { stood := { row := fnExactParseExprRow, standIns := [], harness := (true, "43c180698245da9549650d5d79abbb4916497f4a160d4748db639666c92b7fda"), looks := true }, kinds := [], alts := [], laidByText := true, laidKinds := [.handle, .sentinel], laidTests := true, laidLooks := .later }
def FnExactParseExprCardSaid : Prop := Claim7.holds Tryz.pinned (.plain (OpenSpec.ofChange fnExactParseExprSpec)) fnExactParseExprCard

/-- THE SECOND FORM's CARD OF 'laws.FnParseErrors'. -/
def fnParseErrorsUptoCard : Claim7 := { stood := { row := fnParseErrorsUptoRow, standIns := [], harness := (true, "43c180698245da9549650d5d79abbb4916497f4a160d4748db639666c92b7fda"), looks := true }, kinds := [], alts := [], laidByText := true, laidKinds := [.handle, .sentinel], laidTests := true, laidLooks := .later }
def FnParseErrorsUptoCardSaid : Prop := Claim7.holds Tryz.pinned (.plain (OpenSpec.upto fnParseErrorsSpec)) fnParseErrorsUptoCard

/-- THE SECOND FORM's CARD OF 'laws.FnExactParseExpr'. -/
def fnExactParseExprUptoCard : Claim7 := { stood := { row := fnExactParseExprUptoRow, standIns := [], harness := (true, "43c180698245da9549650d5d79abbb4916497f4a160d4748db639666c92b7fda"), looks := true }, kinds := [], alts := [], laidByText := true, laidKinds := [.handle, .sentinel], laidTests := true, laidLooks := .later }
def FnExactParseExprUptoCardSaid : Prop := Claim7.holds Tryz.pinned (.plain (OpenSpec.upto fnExactParseExprSpec)) fnExactParseExprUptoCard
end Rows
end Go.Proofs.YteenkdplpalofaaGreatDoor
