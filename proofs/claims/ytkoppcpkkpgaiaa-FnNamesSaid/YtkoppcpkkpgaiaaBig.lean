/- The laws' look at the code's length. -/
import Derived.Test.YtkoppcpkkpgaiaaMem
namespace Go.Proofs.Ytkoppcpkkpgaiaa.Big
open Go.RowKit
theorem big_any (A : Option Addr) (n c : Nat) (w : World) : Calls Try.prog 12 #[.slice A n c] w fun e w' => e = .returned (.bool (decide (1048576 < (n : Int)))) ∧ w = w' := by
  go_enter Try.func12, Try.ntmps12
  go_wp2_with fail
  go_ret
  exact ⟨rfl, rfl⟩

end Go.Proofs.Ytkoppcpkkpgaiaa.Big
