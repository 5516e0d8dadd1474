/- The model's EqualProgram. -/
import Derived.Test.YtnmomlaimffonaaGreatZSt1
set_option maxRecDepth 100000
namespace Go.Proofs.YtnmomlaimffonaaGreat.Gd
open Go.RowKit Go.Lib Go.Sort Com Mem YtnmomlaimffonaaGreat.Os Tr
mutual
def sameSt : St → St → Bool
  | .mk k s e bs es, .mk k' s' e' bs' es' => (k == k') && ((s == s') && (eqT e e' && (sameSL bs bs' && sameSL es es')))
def sameSL : List St → List St → Bool
  | [], [] => true
  | a :: r, b :: q => sameSt a b && sameSL r q
  | [], _ :: _ => false
  | _ :: _, [] => false
end
theorem sameSt_mk (k k' : Int) (s s' : List UInt8) (e e' : T) (bs bs' es es' : List St) : sameSt (.mk k s e bs es) (.mk k' s' e' bs' es') = ((k == k') && ((s == s') && (eqT e e' && (sameSL bs bs' && sameSL es es')))) := by rw [sameSt]
open Ow YtnmomlaimffonaaGreat.Nm C2
end Go.Proofs.YtnmomlaimffonaaGreat.Gd
