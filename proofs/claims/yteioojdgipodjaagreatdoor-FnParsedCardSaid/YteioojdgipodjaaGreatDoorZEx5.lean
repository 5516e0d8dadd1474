/- The model's functions on expressions, in the exact laws' words. -/
import Derived.Test.YteioojdgipodjaaGreatDoorZEx4
import Derived.Test.YteioojdgipodjaaGreatDoorZTr6
import Derived.Test.YteioojdgipodjaaGreatDoorZOi
import Derived.Test.YteioojdgipodjaaGreatDoorZLhS
set_option maxRecDepth 100000
namespace Go.Proofs.YteioojdgipodjaaGreatDoor.Tr
open Go.RowKit Go.Lib Go.Proofs.YteioojdgipodjaaGreatDoor.Com Go.Proofs.YteioojdgipodjaaGreatDoor.Mem Go.Proofs.YteioojdgipodjaaGreatDoor.Os Go.Proofs.YteioojdgipodjaaGreatDoor.Nm
section
variable {lo hi lo' hi' lo2 hi2 : Nat} {v v' v2 : Value} {t : T}
theorem svalid_own (w : World) (h : OwnX lo hi w v t) (hz : szT t ≤ 1048576) : Calls Tryz.prog 8 #[v] w fun e w' => e = .returned (.bool (okT t)) ∧ Below w.heap.size w w' :=
  svalidE t v w h.ex (by have := cnt_sz t; omega)
end
end Go.Proofs.YteioojdgipodjaaGreatDoor.Tr
