/- The model's parser: names and atoms. -/
import Derived.Test.YtiogceepjffmkaaGreatDoorQNz8
import Derived.Test.YtiogceepjffmkaaGreatDoorQC5s
set_option maxRecDepth 100000
namespace Go.Proofs.YtiogceepjffmkaaGreatDoor.Tk
open Go.RowKit Go.Lib Go.Sort Num Com Mem YtiogceepjffmkaaGreatDoor.Os Tr
end Go.Proofs.YtiogceepjffmkaaGreatDoor.Tk
