/- The model's functions on expressions, in the exact laws' words. -/
import Derived.Test.YteioojdgipodjabGreatDoorZEx4
import Derived.Test.YteioojdgipodjabGreatDoorZTr6
import Derived.Test.YteioojdgipodjabGreatDoorZOi
import Derived.Test.YteioojdgipodjabGreatDoorZLhS
set_option maxRecDepth 100000
namespace Go.Proofs.YteioojdgipodjabGreatDoor.Tr
open Go.RowKit Go.Lib Go.Proofs.YteioojdgipodjabGreatDoor.Com Go.Proofs.YteioojdgipodjabGreatDoor.Mem Go.Proofs.YteioojdgipodjabGreatDoor.Os Go.Proofs.YteioojdgipodjabGreatDoor.Nm
section
variable {lo hi lo' hi' lo2 hi2 : Nat} {v v' v2 : Value} {t : T}
theorem svalid_own (w : World) (h : OwnX lo hi w v t) (hz : szT t ≤ 1048576) : Calls Tryz.prog 29 #[v] w fun e w' => e = .returned (.bool (okT t)) ∧ Below w.heap.size w w' :=
  svalidE t v w h.ex (by have := cnt_sz t; omega)
end
end Go.Proofs.YteioojdgipodjabGreatDoor.Tr
