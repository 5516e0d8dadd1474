/- The model's EqualProgram. -/
import Derived.Test.YtklcbagddijkgaaGreatDoorZSt1
import Derived.Test.YtklcbagddijkgaaGreatDoorZTr
import Derived.Lib.QuietBelow
import Derived.BigQuiet
import Derived.Test.YtklcbagddijkgaaGreatDoorZTr6
import Derived.Test.YtklcbagddijkgaaGreatDoorZMp
set_option maxRecDepth 100000
namespace Go.Proofs.YtklcbagddijkgaaGreatDoor.Gd
open Go.RowKit Go.Lib Go.Sort Go.Proofs.YtklcbagddijkgaaGreatDoor.Com Go.Proofs.YtklcbagddijkgaaGreatDoor.Mem Go.Proofs.YtklcbagddijkgaaGreatDoor.Os Go.Proofs.YtklcbagddijkgaaGreatDoor.Tr

mutual
def sameSt : St → St → Bool
  | .mk k s e bs es, .mk k' s' e' bs' es' => (k == k') && ((s == s') && (eqT e e' && (sameSL bs bs' && sameSL es es')))
def sameSL : List St → List St → Bool
  | [], [] => true
  | a :: r, b :: q => sameSt a b && sameSL r q
  | [], _ :: _ => false
  | _ :: _, [] => false
end
theorem sameSt_mk (k k' : Int) (s s' : List UInt8) (e e' : T) (bs bs' es es' : List St) : sameSt (.mk k s e bs es) (.mk k' s' e' bs' es') = ((k == k') && ((s == s') && (eqT e e' && (sameSL bs bs' && sameSL es es')))) := by rw [sameSt]
end Go.Proofs.YtklcbagddijkgaaGreatDoor.Gd

/- The model's EqualProgram and AssignedVars. -/
set_option maxRecDepth 100000
namespace Go.Proofs.YtklcbagddijkgaaGreatDoor.Gd
open Go.RowKit Go.Lib Go.Sort Go.Proofs.YtklcbagddijkgaaGreatDoor.Com Go.Proofs.YtklcbagddijkgaaGreatDoor.Mem Go.Proofs.YtklcbagddijkgaaGreatDoor.Os Go.Proofs.YtklcbagddijkgaaGreatDoor.Ow Go.Proofs.YtklcbagddijkgaaGreatDoor.Tr Go.Proofs.YtklcbagddijkgaaGreatDoor.Nm Go.Proofs.YtklcbagddijkgaaGreatDoor.C2

end Go.Proofs.YtklcbagddijkgaaGreatDoor.Gd
