/- Chapter 2: SortNames and Without, of the model. -/
import Derived.Test.YteglampoceponaaDoorZC2a
import Derived.Test.YteglampoceponaaDoorZNm
set_option maxRecDepth 100000
namespace Go.Proofs.YteglampoceponaaDoor.C2
open Go.RowKit Go.Lib Go.Proofs.YteglampoceponaaDoor.Com Go.Proofs.YteglampoceponaaDoor.Mem Go.Proofs.YteglampoceponaaDoor.Mp Go.Proofs.YteglampoceponaaDoor.Ow Go.Proofs.YteglampoceponaaDoor.Nm


end Go.Proofs.YteglampoceponaaDoor.C2
