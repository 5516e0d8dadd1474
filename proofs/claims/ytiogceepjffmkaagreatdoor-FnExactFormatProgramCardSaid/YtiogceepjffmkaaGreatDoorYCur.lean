/- The cursor of the draws: l1New, l1Byte, l1Below and what picks by them. -/
import Derived.Test.YtiogceepjffmkaaGreatDoorYCom
set_option maxRecDepth 100000
namespace Go.Proofs.YtiogceepjffmkaaGreatDoor.Cur
open Go.RowKit Go.Lib Com Mem
end Go.Proofs.YtiogceepjffmkaaGreatDoor.Cur
set_option maxRecDepth 100000
namespace Go.Proofs.YtiogceepjffmkaaGreatDoor.Dr
open Go.RowKit Go.Lib Com Mem Cur
end Go.Proofs.YtiogceepjffmkaaGreatDoor.Dr
