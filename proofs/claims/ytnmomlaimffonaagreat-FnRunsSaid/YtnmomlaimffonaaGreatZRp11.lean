/- How many steps a run that ends has: its configurations are all different, and there are not many. -/
import Derived.Test.YtnmomlaimffonaaGreatZRn11
set_option maxRecDepth 100000
namespace Go.Proofs.YtnmomlaimffonaaGreat.Rn
open Go.RowKit Go.Lib Com Tr Gd
variable {V : List (List UInt8)}
end Go.Proofs.YtnmomlaimffonaaGreat.Rn
