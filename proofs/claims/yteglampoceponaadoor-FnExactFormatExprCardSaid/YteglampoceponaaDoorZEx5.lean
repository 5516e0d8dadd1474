/- The model's functions on expressions, in the exact laws' words. -/
import Derived.Test.YteglampoceponaaDoorZEx4
import Derived.Test.YteglampoceponaaDoorZTr6
import Derived.Test.YteglampoceponaaDoorZTr7
import Derived.Test.YteglampoceponaaDoorZOs
set_option maxRecDepth 100000
namespace Go.Proofs.YteglampoceponaaDoor.Tr
open Go.RowKit Go.Lib Go.Proofs.YteglampoceponaaDoor.Com Go.Proofs.YteglampoceponaaDoor.Mem Go.Proofs.YteglampoceponaaDoor.Os Go.Proofs.YteglampoceponaaDoor.Nm
section
variable {lo hi lo' hi' lo2 hi2 : Nat} {v v' v2 : Value} {t : T}
theorem svalid_own (w : World) (h : OwnX lo hi w v t) (hz : szT t ≤ 1048576) : Calls Tryd.prog 18 #[v] w fun e w' => e = .returned (.bool (okT t)) ∧ Below w.heap.size w w' :=
  svalidE t v w h.ex (by have := cnt_sz t; omega)
end
end Go.Proofs.YteglampoceponaaDoor.Tr
