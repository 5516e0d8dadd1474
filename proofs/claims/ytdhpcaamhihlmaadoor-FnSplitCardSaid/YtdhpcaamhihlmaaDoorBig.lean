/- The laws' look at the code's length. -/
import Derived.Test.YtdhpcaamhihlmaaDoorMem
namespace Go.Proofs.YtdhpcaamhihlmaaDoor.Big
open Go.RowKit
theorem big_any (A : Option Addr) (n c : Nat) (w : World) : Calls Tryd.prog 7 #[.slice A n c] w fun e w' => e = .returned (.bool (decide (1048576 < (n : Int)))) ∧ w = w' := by
  go_enter Tryd.func7, Tryd.ntmps7
  go_wp2_with fail
  go_ret
  exact ⟨rfl, rfl⟩

end Go.Proofs.YtdhpcaamhihlmaaDoor.Big
