/- Parsing a list of tokens, said by recursion. -/
import Derived.Test.YtiogceepjffmkaaGreatDoorYTk
import Derived.Test.YtiogceepjffmkaaGreatDoorYLv
set_option maxRecDepth 100000
namespace Go.Proofs.YtiogceepjffmkaaGreatDoor.Tk
open Go.RowKit Go.Lib Num Mem Tr
open Ch
end Go.Proofs.YtiogceepjffmkaaGreatDoor.Tk
