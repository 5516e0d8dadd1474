/- Chapter 2: SortNames, of the program. -/
import Derived.Test.YteglampoceponaaGreatDoorZMp
import Derived.Test.YteglampoceponaaGreatDoorZNm
import Derived.Test.YteglampoceponaaGreatDoorZShelf
import Derived.Sort.OwnSorted
import Derived.Lib.RowBridge
set_option maxRecDepth 100000
namespace Go.Proofs.YteglampoceponaaGreatDoor.C2
open Go.RowKit Go.Lib Go.Sort Go.Proofs.YteglampoceponaaGreatDoor.Com Go.Proofs.YteglampoceponaaGreatDoor.Mem Go.Proofs.YteglampoceponaaGreatDoor.Ow Go.Proofs.YteglampoceponaaGreatDoor.Nm

end Go.Proofs.YteglampoceponaaGreatDoor.C2
