/- Chapter 4: two expressions compared, in the exact law's words. -/
import Derived.Test.YteioojdgipodjabGreatDoorZNix
import Derived.Test.YteioojdgipodjabGreatDoorZEx5
set_option maxRecDepth 100000
namespace Go.Proofs.YteioojdgipodjabGreatDoor.Tr
open Go.RowKit Go.Lib Go.Proofs.YteioojdgipodjabGreatDoor.Com Go.Proofs.YteioojdgipodjabGreatDoor.Mem Go.Proofs.YteioojdgipodjabGreatDoor.Os
end Go.Proofs.YteioojdgipodjabGreatDoor.Tr
