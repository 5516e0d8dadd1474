/- Chapter 3: the model's ApplyOp and OpSymbol. -/
import Derived.Test.YteioojdgipodjaaGreatZC3o
set_option maxRecDepth 100000
namespace Go.Proofs.YteioojdgipodjaaGreat.C3
open Go.RowKit Go.Lib Go.Sort Go.Proofs.YteioojdgipodjaaGreat.Com Go.Proofs.YteioojdgipodjaaGreat.Mem
end Go.Proofs.YteioojdgipodjaaGreat.C3
