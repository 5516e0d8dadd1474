/- The laws' look at the code's length. -/
import Derived.Test.YteioojdgipodjaaZCom
set_option maxRecDepth 100000
namespace Go.Proofs.Yteioojdgipodjaa.Big
open Go.RowKit
theorem big_any (A : Option Addr) (n c : Nat) (w : World) : Calls Try.prog 30 #[.slice A n c] w fun e w' => e = .returned (.bool (decide (1048576 < (n : Int)))) ∧ w = w' := by
  go_enter Try.func30, Try.ntmps30
  go_wp2_with fail
  go_ret
  exact ⟨rfl, rfl⟩

end Go.Proofs.Yteioojdgipodjaa.Big
