/- The program's counts of expressions, by what the walks of trees promise. -/
import Derived.Test.YteioojdgipodjaaGreatZMex
import Derived.Test.YteioojdgipodjaaGreatZXq
import Derived.Test.YteioojdgipodjaaGreatZEx4
set_option maxRecDepth 100000
namespace Go.Proofs.YteioojdgipodjaaGreat.Tr
open Go.RowKit Go.Lib Go.Sort Go.Proofs.YteioojdgipodjaaGreat.Com Go.Proofs.YteioojdgipodjaaGreat.Mem Go.Proofs.YteioojdgipodjaaGreat.Os Go.Proofs.YteioojdgipodjaaGreat.Pl Go.Proofs.YteioojdgipodjaaGreat.Kd Go.Proofs.YteioojdgipodjaaGreat.Gx

/-- a box, and a row of one beside it -/
theorem two_box (w : World) (k n : Int) (s : List UInt8) (A : Option Addr) (l c : Nat) (t : T) (h : Ex (pln w) w.heap.size (nv k n s A l c) t) :
    Below w.heap.size w ((w.alloc (.cells #[.int .i64 k, .int .i64 n, sv s, .slice A l c] 54)).alloc (.cells #[.int .i64 k, .int .i64 n, sv s, .slice A l c] 54)) ∧
    LA (pln ((w.alloc (.cells #[.int .i64 k, .int .i64 n, sv s, .slice A l c] 54)).alloc (.cells #[.int .i64 k, .int .i64 n, sv s, .slice A l c] 54))) ((w.alloc (.cells #[.int .i64 k, .int .i64 n, sv s, .slice A l c] 54)).alloc (.cells #[.int .i64 k, .int .i64 n, sv s, .slice A l c] 54)).heap.size ⟨some ⟨w.heap.size + 1, 0, none⟩, 1, [t]⟩ := by
  have b1 := box_below w (.cells #[.int .i64 k, .int .i64 n, sv s, .slice A l c] 54)
  have b2 := b1.trans ((box_below _ (.cells #[.int .i64 k, .int .i64 n, sv s, .slice A l c] 54)).mono b1.size)
  have hB := Blk.new (w.alloc (.cells #[.int .i64 k, .int .i64 n, sv s, .slice A l c] 54)) 54 [.int .i64 k, .int .i64 n, sv s, .slice A l c]
  rw [size_alloc'] at hB
  exact ⟨b2, la_one hB (ex_go h b2)⟩
theorem cntL_one (t : T) : kdX.cntL [t] = cntT t := by simp [Kd.cntL]; rfl
theorem depL_one (t : T) : kdX.depL [t] = depT t := by
  show Nat.max (depT t) 0 = depT t
  exact Nat.max_eq_left (Nat.zero_le _)
theorem ext0 (a b : Int) (w : World) : (Instr.field 60 (.agg #[.int .i64 a, .int .i64 b]) 0).run Tryz.prog w = .ok (.int .i64 a) w := by kernel_rfl
theorem ext1 (a b : Int) (w : World) : (Instr.field 60 (.agg #[.int .i64 a, .int .i64 b]) 1).run Tryz.prog w = .ok (.int .i64 b) w := by kernel_rfl
end Go.Proofs.YteioojdgipodjaaGreat.Tr
