/- The model's IsValidProgram. -/
import Derived.Test.YteioojdgipodjaaZS8c
set_option maxRecDepth 100000
namespace Go.Proofs.Yteioojdgipodjaa.Gd
open Go.RowKit Go.Lib Go.Sort Go.Proofs.Yteioojdgipodjaa.Com Go.Proofs.Yteioojdgipodjaa.Mem Go.Proofs.Yteioojdgipodjaa.Os Go.Proofs.Yteioojdgipodjaa.Tr Go.Proofs.Yteioojdgipodjaa.Nm Go.Proofs.Yteioojdgipodjaa.C2

/-- the variables: valid names, at most two, all different -/
def varsB (V : List (List UInt8)) : Bool := V.all validB && (decide (V.length ≤ 2) && distB V)
/-- IsValidProgram -/
def okP (p : Pg) : Bool := varsB p.vs && (decide (cntL p.body ≤ 8) && (decide (depL p.body ≤ 3) && okSts p.vs p.body))
end Go.Proofs.Yteioojdgipodjaa.Gd
