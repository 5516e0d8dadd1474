/- Chapter 3: the model's ApplyOp and OpSymbol. -/
import Derived.Test.YteioojdgipodjaaZC3o
set_option maxRecDepth 100000
namespace Go.Proofs.Yteioojdgipodjaa.C3
open Go.RowKit Go.Lib Go.Sort Go.Proofs.Yteioojdgipodjaa.Com Go.Proofs.Yteioojdgipodjaa.Mem
end Go.Proofs.Yteioojdgipodjaa.C3
