/- The laws' look at the code's length. -/
import Derived.Test.YtklcbagddijkgaaGreatZCom
set_option maxRecDepth 100000
namespace Go.Proofs.YtklcbagddijkgaaGreat.Big
open Go.RowKit
theorem big_any (A : Option Addr) (n c : Nat) (w : World) : Calls Tryz.prog 4 #[.slice A n c] w fun e w' => e = .returned (.bool (decide (1048576 < (n : Int)))) ∧ w = w' := by
  go_enter Tryz.func4, Tryz.ntmps4
  go_wp2_with fail
  go_ret
  exact ⟨rfl, rfl⟩

end Go.Proofs.YtklcbagddijkgaaGreat.Big
