/- The program's next token. -/
import Derived.Test.YtiogceepjffmkaaGreatDoorYTk
import Derived.Test.YtiogceepjffmkaaGreatDoorYC3a
import Derived.Test.YtiogceepjffmkaaGreatDoorYShelf
import Derived.WalkMore
import Derived.ScopeJumps
set_option maxRecDepth 100000
namespace Go.Proofs.YtiogceepjffmkaaGreatDoor.Tk
open Go.RowKit Go.Lib Num Com Mem Ch YtiogceepjffmkaaGreatDoor.Os C3
end Go.Proofs.YtiogceepjffmkaaGreatDoor.Tk
