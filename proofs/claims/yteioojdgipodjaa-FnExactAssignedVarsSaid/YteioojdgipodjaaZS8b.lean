/- The model's l8Left: at most so many statements. -/
import Derived.Test.YteioojdgipodjaaZS8a
set_option maxRecDepth 100000
namespace Go.Proofs.Yteioojdgipodjaa.Gd
open Go.RowKit Go.Lib Go.Sort Go.Proofs.Yteioojdgipodjaa.Com Go.Proofs.Yteioojdgipodjaa.Mem Go.Proofs.Yteioojdgipodjaa.Os Go.Proofs.Yteioojdgipodjaa.Tr

end Go.Proofs.Yteioojdgipodjaa.Gd
