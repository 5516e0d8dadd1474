/- Chapter 4: two expressions compared, in the exact law's words. -/
import Derived.Test.YteioojdgipodjaaGreatDoorZNix
import Derived.Test.YteioojdgipodjaaGreatDoorZEx5
set_option maxRecDepth 100000
namespace Go.Proofs.YteioojdgipodjaaGreatDoor.Tr
open Go.RowKit Go.Lib Go.Proofs.YteioojdgipodjaaGreatDoor.Com Go.Proofs.YteioojdgipodjaaGreatDoor.Mem Go.Proofs.YteioojdgipodjaaGreatDoor.Os
end Go.Proofs.YteioojdgipodjaaGreatDoor.Tr
