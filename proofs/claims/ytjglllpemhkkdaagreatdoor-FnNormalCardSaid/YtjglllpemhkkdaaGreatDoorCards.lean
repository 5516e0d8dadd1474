/-
  DERIVED. GIVEN WITH THE SEED: THE CARDS: each row of YtjglllpemhkkdaaGreatDoorRows.lean that lists a variable, with what it lists TIED to the program's text (the seventh form; the later family's looks); each row that meets fmt, with fmt's text TOLD by the authors' own Lean function (tested against real Go, not proved from fmt's source: count such statements apart). THE CARD IS WHAT COUNTS. Prove the row's statement (the work); the ties are given (YtjglllpemhkkdaaGreatDoorTie.lean); close each card by the builder's one call (the guide's Derived/Test/ToyasCard.lean, 'card_holds'). Laid BY PROGRAM, IN A SANDBOX (cutbox-door.mjs). By AI agents, Wed Nov 11 2026. No macro, syntax, notation, axiom, sorry.
-/
import Derived.Test.YtjglllpemhkkdaaGreatDoorRows
import GoSem.ClaimSeven
namespace Go.Proofs.YtjglllpemhkkdaaGreatDoor
namespace Rows

/-- THE TIED CARD OF 'laws.FnNormal'. -/
def fnNormalCard : Claim7 := { stood := { row := fnNormalRow, standIns := [], harness := (true, "72892419dd8c1035bd27f42d3b356f1eca2eb944533e7e0807e6ead7c0f6b115"), looks := true }, kinds := [], alts := [], laidByText := true, laidKinds := [.data, .data, .data, .handle, .sentinel], laidTests := true, laidLooks := .later }
def FnNormalCardSaid : Prop := Claim7.holds Tryz.pinned (.plain (OpenSpec.ofChange fnNormalSpec)) fnNormalCard

/-- THE TIED CARD OF 'laws.FnProgramErrors'. -/
def fnProgramErrorsCard : Claim7 := { stood := { row := fnProgramErrorsRow, standIns := [], harness := (true, "72892419dd8c1035bd27f42d3b356f1eca2eb944533e7e0807e6ead7c0f6b115"), looks := true }, kinds := [], alts := [], laidByText := true, laidKinds := [.handle, .sentinel], laidTests := true, laidLooks := .later }
def FnProgramErrorsCardSaid : Prop := Claim7.holds Tryz.pinned (.plain (OpenSpec.ofChange fnProgramErrorsSpec)) fnProgramErrorsCard

/-- THE TIED CARD OF 'laws.FnProgramText'. -/
def fnProgramTextCard : Claim7 := { stood := { row := fnProgramTextRow, standIns := [], harness := (true, "72892419dd8c1035bd27f42d3b356f1eca2eb944533e7e0807e6ead7c0f6b115"), looks := true }, kinds := [], alts := [], laidByText := true, laidKinds := [.data, .data, .data, .handle, .sentinel], laidTests := true, laidLooks := .later }
def FnProgramTextCardSaid : Prop := Claim7.holds Tryz.pinned (.plain (OpenSpec.ofChange fnProgramTextSpec)) fnProgramTextCard

/-- THE TIED CARD OF 'laws.FnExactNormalizeExpr'. -/
def fnExactNormalizeExprCard : Claim7 := { stood := { row := fnExactNormalizeExprRow, standIns := [], harness := (true, "72892419dd8c1035bd27f42d3b356f1eca2eb944533e7e0807e6ead7c0f6b115"), looks := true }, kinds := [], alts := [], laidByText := true, laidKinds := [.data, .data, .data, .handle, .sentinel], laidTests := true, laidLooks := .later }
def FnExactNormalizeExprCardSaid : Prop := Claim7.holds Tryz.pinned (.plain (OpenSpec.ofChange fnExactNormalizeExprSpec)) fnExactNormalizeExprCard

/-- THE TIED CARD OF 'laws.FnExactFormatStmts'. -/
def fnExactFormatStmtsCard : Claim7 := { stood := { row := fnExactFormatStmtsRow, standIns := [], harness := (true, "72892419dd8c1035bd27f42d3b356f1eca2eb944533e7e0807e6ead7c0f6b115"), looks := true }, kinds := [], alts := [], laidByText := true, laidKinds := [.data, .data, .data], laidTests := true, laidLooks := .later }
def FnExactFormatStmtsCardSaid : Prop := Claim7.holds Tryz.pinned (.plain (OpenSpec.ofChange fnExactFormatStmtsSpec)) fnExactFormatStmtsCard

/-- THE TIED CARD OF 'laws.FnExactFormatProgram'. -/
def fnExactFormatProgramCard : Claim7 := { stood := { row := fnExactFormatProgramRow, standIns := [], harness := (true, "72892419dd8c1035bd27f42d3b356f1eca2eb944533e7e0807e6ead7c0f6b115"), looks := true }, kinds := [], alts := [], laidByText := true, laidKinds := [.data, .data, .data], laidTests := true, laidLooks := .later }
def FnExactFormatProgramCardSaid : Prop := Claim7.holds Tryz.pinned (.plain (OpenSpec.ofChange fnExactFormatProgramSpec)) fnExactFormatProgramCard

/-- THE TIED CARD OF 'laws.FnExactNormalizeProgram'. -/
def fnExactNormalizeProgramCard : Claim7 := { stood := { row := fnExactNormalizeProgramRow, standIns := [], harness := (true, "72892419dd8c1035bd27f42d3b356f1eca2eb944533e7e0807e6ead7c0f6b115"), looks := true }, kinds := [], alts := [], laidByText := true, laidKinds := [.data, .data, .data, .handle, .sentinel], laidTests := true, laidLooks := .later }
def FnExactNormalizeProgramCardSaid : Prop := Claim7.holds Tryz.pinned (.plain (OpenSpec.ofChange fnExactNormalizeProgramSpec)) fnExactNormalizeProgramCard

/-- THE SECOND FORM's CARD OF 'laws.FnNormal'. -/
def fnNormalUptoCard : Claim7 := { stood := { row := fnNormalUptoRow, standIns := [], harness := (true, "72892419dd8c1035bd27f42d3b356f1eca2eb944533e7e0807e6ead7c0f6b115"), looks := true }, kinds := [], alts := [], laidByText := true, laidKinds := [.data, .data, .data, .handle, .sentinel], laidTests := true, laidLooks := .later }
def FnNormalUptoCardSaid : Prop := Claim7.holds Tryz.pinned (.plain (OpenSpec.upto fnNormalSpec)) fnNormalUptoCard

/-- THE SECOND FORM's CARD OF 'laws.FnProgramErrors'. -/
def fnProgramErrorsUptoCard : Claim7 := { stood := { row := fnProgramErrorsUptoRow, standIns := [], harness := (true, "72892419dd8c1035bd27f42d3b356f1eca2eb944533e7e0807e6ead7c0f6b115"), looks := true }, kinds := [], alts := [], laidByText := true, laidKinds := [.handle, .sentinel], laidTests := true, laidLooks := .later }
def FnProgramErrorsUptoCardSaid : Prop := Claim7.holds Tryz.pinned (.plain (OpenSpec.upto fnProgramErrorsSpec)) fnProgramErrorsUptoCard

/-- THE SECOND FORM's CARD OF 'laws.FnProgramText'. -/
def fnProgramTextUptoCard : Claim7 := { stood := { row := fnProgramTextUptoRow, standIns := [], harness := (true, "72892419dd8c1035bd27f42d3b356f1eca2eb944533e7e0807e6ead7c0f6b115"), looks := true }, kinds := [], alts := [], laidByText := true, laidKinds := [.data, .data, .data, .handle, .sentinel], laidTests := true, laidLooks := .later }
def FnProgramTextUptoCardSaid : Prop := Claim7.holds Tryz.pinned (.plain (OpenSpec.upto fnProgramTextSpec)) fnProgramTextUptoCard

/-- THE SECOND FORM's CARD OF 'laws.FnExactNormalizeExpr'. -/
def fnExactNormalizeExprUptoCard : Claim7 := { stood := { row := fnExactNormalizeExprUptoRow, standIns := [], harness := (true, "72892419dd8c1035bd27f42d3b356f1eca2eb944533e7e0807e6ead7c0f6b115"), looks := true }, kinds := [], alts := [], laidByText := true, laidKinds := [.data, .data, .data, .handle, .sentinel], laidTests := true, laidLooks := .later }
def FnExactNormalizeExprUptoCardSaid : Prop := Claim7.holds Tryz.pinned (.plain (OpenSpec.upto fnExactNormalizeExprSpec)) fnExactNormalizeExprUptoCard

/-- THE SECOND FORM's CARD OF 'laws.FnExactFormatStmts'. -/
def fnExactFormatStmtsUptoCard : Claim7 := { stood := { row := fnExactFormatStmtsUptoRow, standIns := [], harness := (true, "72892419dd8c1035bd27f42d3b356f1eca2eb944533e7e0807e6ead7c0f6b115"), looks := true }, kinds := [], alts := [], laidByText := true, laidKinds := [.data, .data, .data], laidTests := true, laidLooks := .later }
def FnExactFormatStmtsUptoCardSaid : Prop := Claim7.holds Tryz.pinned (.plain (OpenSpec.upto fnExactFormatStmtsSpec)) fnExactFormatStmtsUptoCard

/-- THE SECOND FORM's CARD OF 'laws.FnExactFormatProgram'. -/
def fnExactFormatProgramUptoCard : Claim7 := { stood := { row := fnExactFormatProgramUptoRow, standIns := [], harness := (true, "72892419dd8c1035bd27f42d3b356f1eca2eb944533e7e0807e6ead7c0f6b115"), looks := true }, kinds := [], alts := [], laidByText := true, laidKinds := [.data, .data, .data], laidTests := true, laidLooks := .later }
def FnExactFormatProgramUptoCardSaid : Prop := Claim7.holds Tryz.pinned (.plain (OpenSpec.upto fnExactFormatProgramSpec)) fnExactFormatProgramUptoCard

/-- THE SECOND FORM's CARD OF 'laws.FnExactNormalizeProgram'. -/
def fnExactNormalizeProgramUptoCard : Claim7 := { stood := { row := fnExactNormalizeProgramUptoRow, standIns := [], harness := (true, "72892419dd8c1035bd27f42d3b356f1eca2eb944533e7e0807e6ead7c0f6b115"), looks := true }, kinds := [], alts := [], laidByText := true, laidKinds := [.data, .data, .data, .handle, .sentinel], laidTests := true, laidLooks := .later }
def FnExactNormalizeProgramUptoCardSaid : Prop := Claim7.holds Tryz.pinned (.plain (OpenSpec.upto fnExactNormalizeProgramSpec)) fnExactNormalizeProgramUptoCard
end Rows
end Go.Proofs.YtjglllpemhkkdaaGreatDoor
