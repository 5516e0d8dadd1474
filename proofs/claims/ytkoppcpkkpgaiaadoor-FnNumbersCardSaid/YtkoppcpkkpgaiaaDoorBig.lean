/- The laws' look at the code's length. -/
import Derived.Test.YtkoppcpkkpgaiaaDoorMem
namespace Go.Proofs.YtkoppcpkkpgaiaaDoor.Big
open Go.RowKit
theorem big_any (A : Option Addr) (n c : Nat) (w : World) : Calls Tryd.prog 4 #[.slice A n c] w fun e w' => e = .returned (.bool (decide (1048576 < (n : Int)))) ∧ w = w' := by
  go_enter Tryd.func4, Tryd.ntmps4
  go_wp2_with fail
  go_ret
  exact ⟨rfl, rfl⟩

end Go.Proofs.YtkoppcpkkpgaiaaDoor.Big
