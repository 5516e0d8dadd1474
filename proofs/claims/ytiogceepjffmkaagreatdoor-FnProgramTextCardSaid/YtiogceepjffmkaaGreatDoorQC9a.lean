/- The model's parser of expressions, on a reader that has failed. -/
import Derived.Test.YtiogceepjffmkaaGreatDoorQC6d
import Derived.Test.YtiogceepjffmkaaGreatDoorQP9d
set_option maxRecDepth 100000
namespace Go.Proofs.YtiogceepjffmkaaGreatDoor.Tk
open Go.RowKit Go.Lib Go.Sort Num Com Mem YtiogceepjffmkaaGreatDoor.Os Tr
end Go.Proofs.YtiogceepjffmkaaGreatDoor.Tk
set_option maxRecDepth 100000
namespace Go.Proofs.YtiogceepjffmkaaGreatDoor.Gd
open Go.RowKit Go.Lib Go.Sort Num Com Mem Ow YtiogceepjffmkaaGreatDoor.Os Tr Tk Pl
end Go.Proofs.YtiogceepjffmkaaGreatDoor.Gd
