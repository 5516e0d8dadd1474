/- The program's parser of expressions: its reader of tokens. -/
import Derived.Test.YtiogceepjffmkaaGreatDoorYFp10
import Derived.Test.YtiogceepjffmkaaGreatDoorYDr4
set_option maxRecDepth 100000
namespace Go.Proofs.YtiogceepjffmkaaGreatDoor.Tk
open Go.RowKit Go.Lib Go.Sort Num Com Mem YtiogceepjffmkaaGreatDoor.Os Tr
open Ch
end Go.Proofs.YtiogceepjffmkaaGreatDoor.Tk
