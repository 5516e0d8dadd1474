/-
  DERIVED. GIVEN WITH THE SEED: THE CARDS: each row of YtgjdccibdgedbaaDoorRows.lean that lists a variable, with what it lists TIED to the program's text (the seventh form; the later family's looks); each row that meets fmt, with fmt's text TOLD by the authors' own Lean function (tested against real Go, not proved from fmt's source: count such statements apart). THE CARD IS WHAT COUNTS. Prove the row's statement (the work); the ties are given (YtgjdccibdgedbaaDoorTie.lean); close each card by the builder's one call (the guide's Derived/Test/ToyasCard.lean, 'card_holds'). Laid BY PROGRAM, IN A SANDBOX (cutbox-door.mjs). By AI agents, Wed Nov 11 2026. No macro, syntax, notation, axiom, sorry.
-/
import Derived.Test.YtgjdccibdgedbaaDoorRows
import GoSem.ClaimSeven
namespace Go.Proofs.YtgjdccibdgedbaaDoor
namespace Rows

/-- THE TIED CARD OF 'laws.FnTokens'. -/
def fnTokensCard : Claim7 := { stood := { row := fnTokensRow, standIns := [], harness := (true, "2868f3a180fdac70ab74502a811e70ac4c25a5cf206dc7e619bf548ae533f19b"), looks := false }, kinds := [], alts := [], laidByText := true, laidKinds := [.data, .data, .data], laidTests := true, laidLooks := .later }
def FnTokensCardSaid : Prop := Claim7.holds Tryd.pinned (.plain (OpenSpec.ofChange fnTokensSpec)) fnTokensCard

/-- THE TIED CARD OF 'laws.FnExactFormatTokens'. -/
def fnExactFormatTokensCard : Claim7 := { stood := { row := fnExactFormatTokensRow, standIns := [], harness := (true, "2868f3a180fdac70ab74502a811e70ac4c25a5cf206dc7e619bf548ae533f19b"), looks := false }, kinds := [], alts := [], laidByText := true, laidKinds := [.data, .data, .data], laidTests := true, laidLooks := .later }
def FnExactFormatTokensCardSaid : Prop := Claim7.holds Tryd.pinned (.plain (OpenSpec.ofChange fnExactFormatTokensSpec)) fnExactFormatTokensCard

/-- THE SECOND FORM's CARD OF 'laws.FnTokens'. -/
def fnTokensUptoCard : Claim7 := { stood := { row := fnTokensUptoRow, standIns := [], harness := (true, "2868f3a180fdac70ab74502a811e70ac4c25a5cf206dc7e619bf548ae533f19b"), looks := false }, kinds := [], alts := [], laidByText := true, laidKinds := [.data, .data, .data], laidTests := true, laidLooks := .later }
def FnTokensUptoCardSaid : Prop := Claim7.holds Tryd.pinned (.plain (OpenSpec.upto fnTokensSpec)) fnTokensUptoCard

/-- THE SECOND FORM's CARD OF 'laws.FnExactFormatTokens'. -/
def fnExactFormatTokensUptoCard : Claim7 := { stood := { row := fnExactFormatTokensUptoRow, standIns := [], harness := (true, "2868f3a180fdac70ab74502a811e70ac4c25a5cf206dc7e619bf548ae533f19b"), looks := false }, kinds := [], alts := [], laidByText := true, laidKinds := [.data, .data, .data], laidTests := true, laidLooks := .later }
def FnExactFormatTokensUptoCardSaid : Prop := Claim7.holds Tryd.pinned (.plain (OpenSpec.upto fnExactFormatTokensSpec)) fnExactFormatTokensUptoCard
end Rows
end Go.Proofs.YtgjdccibdgedbaaDoor
