/- Chapter 4's draws: expressions. -/
import Derived.Test.YtiogceepjffmkaaGreatDoorYCur
import Derived.Test.YtiogceepjffmkaaGreatDoorYC3a
set_option maxRecDepth 100000
namespace Go.Proofs.YtiogceepjffmkaaGreatDoor.Dr
open Go.RowKit Go.Lib Com Mem Cur YtiogceepjffmkaaGreatDoor.Os Tr
end Go.Proofs.YtiogceepjffmkaaGreatDoor.Dr
