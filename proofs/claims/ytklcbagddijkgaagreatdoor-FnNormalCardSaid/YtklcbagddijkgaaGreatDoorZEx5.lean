/- The model's functions on expressions, in the exact laws' words. -/
import Derived.Test.YtklcbagddijkgaaGreatDoorZEx4
import Derived.Test.YtklcbagddijkgaaGreatDoorZTr6
import Derived.Test.YtklcbagddijkgaaGreatDoorZOi
import Derived.Test.YtklcbagddijkgaaGreatDoorZLhS
set_option maxRecDepth 100000
namespace Go.Proofs.YtklcbagddijkgaaGreatDoor.Tr
open Go.RowKit Go.Lib Go.Proofs.YtklcbagddijkgaaGreatDoor.Com Go.Proofs.YtklcbagddijkgaaGreatDoor.Mem Go.Proofs.YtklcbagddijkgaaGreatDoor.Os Go.Proofs.YtklcbagddijkgaaGreatDoor.Nm
section
variable {lo hi lo' hi' lo2 hi2 : Nat} {v v' v2 : Value} {t : T}
theorem svalid_own (w : World) (h : OwnX lo hi w v t) (hz : szT t ≤ 1048576) : Calls Tryz.prog 18 #[v] w fun e w' => e = .returned (.bool (okT t)) ∧ Below w.heap.size w w' :=
  svalidE t v w h.ex (by have := cnt_sz t; omega)
theorem svars_own (w : World) (h : OwnX lo hi w v t) (hz : szT t ≤ 1048576) : Calls Tryz.prog 194 #[v] w fun e w' => ∃ r, e = .returned r ∧ OwnS w.heap.size w'.heap.size w' r (sortU (varsT t)) ∧ Below w.heap.size w w' :=
  svarsOf t v w h.ex (by have := cnt_sz t; omega)
end
end Go.Proofs.YtklcbagddijkgaaGreatDoor.Tr
