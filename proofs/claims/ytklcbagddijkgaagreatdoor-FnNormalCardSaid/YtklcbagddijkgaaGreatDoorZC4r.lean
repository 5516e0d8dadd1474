/- Chapter 4: two expressions compared, in the exact law's words. -/
import Derived.Test.YtklcbagddijkgaaGreatDoorZNix
import Derived.Test.YtklcbagddijkgaaGreatDoorZEx5
set_option maxRecDepth 100000
namespace Go.Proofs.YtklcbagddijkgaaGreatDoor.Tr
open Go.RowKit Go.Lib Go.Proofs.YtklcbagddijkgaaGreatDoor.Com Go.Proofs.YtklcbagddijkgaaGreatDoor.Mem Go.Proofs.YtklcbagddijkgaaGreatDoor.Os
theorem seq_own2 {lo hi lo' hi' : Nat} {v v' : Value} {t t' : T} (w : World) (h : OwnX lo hi w v t) (h' : OwnX lo' hi' w v' t') (_ : szT t ≤ 1048576) (_ : szT t' ≤ 1048576) : Calls Tryz.prog 14 #[v, v'] w fun e w' => e = .returned (.bool (eqT t t')) ∧ Below w.heap.size w w' := seq_own w h h'
end Go.Proofs.YtklcbagddijkgaaGreatDoor.Tr
