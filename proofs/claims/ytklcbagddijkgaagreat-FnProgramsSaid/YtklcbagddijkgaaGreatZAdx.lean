/- A list of nodes put among those of a level. -/
import Derived.Test.YtklcbagddijkgaaGreatZPsx
import Derived.Test.YtklcbagddijkgaaGreatZKd
import Derived.Test.YtklcbagddijkgaaGreatZTr
import Derived.StillTailTactics
import Derived.Maps.OwnOps
set_option maxRecDepth 100000
namespace Go.Proofs.YtklcbagddijkgaaGreat.Gx
open Go.RowKit Go.Lib Go.Sort Go.Proofs.YtklcbagddijkgaaGreat.Com Go.Proofs.YtklcbagddijkgaaGreat.Mem Go.Proofs.YtklcbagddijkgaaGreat.Tr Go.Proofs.YtklcbagddijkgaaGreat.Im Go.Proofs.YtklcbagddijkgaaGreat.Ag Go.Proofs.YtklcbagddijkgaaGreat.Pl Go.Proofs.YtklcbagddijkgaaGreat.Kd

end Go.Proofs.YtklcbagddijkgaaGreat.Gx
