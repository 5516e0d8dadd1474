/- Chapter 4: two expressions compared, in the exact law's words. -/
import Derived.Test.YteioojdgipodjaaZXq
import Derived.Test.YteioojdgipodjaaZEx5
set_option maxRecDepth 100000
namespace Go.Proofs.Yteioojdgipodjaa.Tr
open Go.RowKit Go.Lib Go.Proofs.Yteioojdgipodjaa.Com Go.Proofs.Yteioojdgipodjaa.Mem Go.Proofs.Yteioojdgipodjaa.Os
theorem seq_own2 {lo hi lo' hi' : Nat} {v v' : Value} {t t' : T} (w : World) (h : OwnX lo hi w v t) (h' : OwnX lo' hi' w v' t') (_ : szT t ≤ 1048576) (_ : szT t' ≤ 1048576) : Calls Try.prog 46 #[v, v'] w fun e w' => e = .returned (.bool (eqT t t')) ∧ Below w.heap.size w w' := seq_own w h h'
end Go.Proofs.Yteioojdgipodjaa.Tr
