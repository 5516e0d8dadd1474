/- Parsing a program, said by recursion. -/
import Derived.Test.YtiogceepjffmkaaGreatDoorYPz
set_option maxRecDepth 100000
namespace Go.Proofs.YtiogceepjffmkaaGreatDoor.Gd
open Go.RowKit Go.Lib Num Com Mem YtiogceepjffmkaaGreatDoor.Os Tr Tk
abbrev emitW : List UInt8 := [101, 109, 105, 116]
abbrev whileW : List UInt8 := [119, 104, 105, 108, 101]
abbrev ifW : List UInt8 := [105, 102]
abbrev elseW : List UInt8 := [101, 108, 115, 101]
abbrev varsW : List UInt8 := [118, 97, 114, 115]
mutual
def shSt : St → Prop
  | .mk _ s _ bs es => s.length ≤ 8 ∧ shL bs ∧ shL es
def shL : List St → Prop
  | [] => True
  | a :: r => shSt a ∧ shL r
end
theorem shSt_mk {k : Int} {s : List UInt8} {e : T} {bs es : List St} : shSt (.mk k s e bs es) ↔ s.length ≤ 8 ∧ shL bs ∧ shL es := by rw [shSt]
open Ch
end Go.Proofs.YtiogceepjffmkaaGreatDoor.Gd
