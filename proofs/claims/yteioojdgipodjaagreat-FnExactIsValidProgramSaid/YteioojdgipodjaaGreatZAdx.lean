/- A list of nodes put among those of a level. -/
import Derived.Test.YteioojdgipodjaaGreatZPsx
import Derived.Test.YteioojdgipodjaaGreatZKd
import Derived.Test.YteioojdgipodjaaGreatZTr
import Derived.StillTailTactics
import Derived.Maps.OwnOps
set_option maxRecDepth 100000
namespace Go.Proofs.YteioojdgipodjaaGreat.Gx
open Go.RowKit Go.Lib Go.Sort Go.Proofs.YteioojdgipodjaaGreat.Com Go.Proofs.YteioojdgipodjaaGreat.Mem Go.Proofs.YteioojdgipodjaaGreat.Tr Go.Proofs.YteioojdgipodjaaGreat.Im Go.Proofs.YteioojdgipodjaaGreat.Ag Go.Proofs.YteioojdgipodjaaGreat.Pl Go.Proofs.YteioojdgipodjaaGreat.Kd

end Go.Proofs.YteioojdgipodjaaGreat.Gx
