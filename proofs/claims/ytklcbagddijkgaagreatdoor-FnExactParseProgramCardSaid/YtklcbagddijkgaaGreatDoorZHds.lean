/- Two nodes compared, without what is below them; two lists of nodes compared so. -/
import Derived.Test.YtklcbagddijkgaaGreatDoorZPss
import Derived.Test.YtklcbagddijkgaaGreatDoorZKs
import Derived.Test.YtklcbagddijkgaaGreatDoorZNix
set_option maxRecDepth 100000
namespace Go.Proofs.YtklcbagddijkgaaGreatDoor.Gs
open Go.RowKit Go.Lib Go.Sort Go.Proofs.YtklcbagddijkgaaGreatDoor.Com Go.Proofs.YtklcbagddijkgaaGreatDoor.Mem Go.Proofs.YtklcbagddijkgaaGreatDoor.Tr Go.Proofs.YtklcbagddijkgaaGreatDoor.Im Go.Proofs.YtklcbagddijkgaaGreatDoor.Ag Go.Proofs.YtklcbagddijkgaaGreatDoor.Pl Go.Proofs.YtklcbagddijkgaaGreatDoor.Kd

end Go.Proofs.YtklcbagddijkgaaGreatDoor.Gs
