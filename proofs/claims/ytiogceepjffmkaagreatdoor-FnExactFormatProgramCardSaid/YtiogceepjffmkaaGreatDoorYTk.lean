/- Tokens as values; slices of tokens that are read, and such of the call's own: compared, marked, looked at again. -/
import Derived.Test.YtiogceepjffmkaaGreatDoorYLhS
import Derived.Laws.Rows
import Derived.Laws.EntriesVeiled
import Derived.Laws.ResultCell
set_option maxRecDepth 100000
namespace Go.Proofs.YtiogceepjffmkaaGreatDoor.Tk
open Go.RowKit Go.Lib Go.Sort Com Mem YtiogceepjffmkaaGreatDoor.Os Ow
open Num Ch
def isWd (b : UInt8) : Bool := isLow b || isDig b
def NameS (s : List UInt8) : Prop := ∃ b r, s = b :: r ∧ isLow b = true ∧ (∀ x ∈ b :: r, isWd x = true) ∧ (b :: r).length ≤ 8
theorem low_wd {b : UInt8} (h : isLow b = true) : isWd b = true := by unfold isWd; rw [h]; rfl
end Go.Proofs.YtiogceepjffmkaaGreatDoor.Tk
