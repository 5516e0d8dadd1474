/- The program's measure of a tree. -/
import Derived.Test.YtnmomlaimffonaaGreatZSr
set_option maxRecDepth 100000
namespace Go.Proofs.YtnmomlaimffonaaGreat.Gx
open Go.RowKit Go.Lib Go.Sort Com Mem Tr Im Ag Pl Kd
end Go.Proofs.YtnmomlaimffonaaGreat.Gx
set_option maxRecDepth 100000
namespace Go.Proofs.YtnmomlaimffonaaGreat.Tr
open Go.RowKit Go.Lib Go.Sort Com Mem YtnmomlaimffonaaGreat.Os Pl Kd Gx
theorem two_box (w : World) (k n : Int) (s : List UInt8) (A : Option Addr) (l c : Nat) (t : T) (h : Ex (pln w) w.heap.size (nv k n s A l c) t) :
    Below w.heap.size w ((w.alloc (.cells #[.int .i64 k, .int .i64 n, sv s, .slice A l c] 92)).alloc (.cells #[.int .i64 k, .int .i64 n, sv s, .slice A l c] 92)) ∧
    LA (pln ((w.alloc (.cells #[.int .i64 k, .int .i64 n, sv s, .slice A l c] 92)).alloc (.cells #[.int .i64 k, .int .i64 n, sv s, .slice A l c] 92))) ((w.alloc (.cells #[.int .i64 k, .int .i64 n, sv s, .slice A l c] 92)).alloc (.cells #[.int .i64 k, .int .i64 n, sv s, .slice A l c] 92)).heap.size ⟨some ⟨w.heap.size + 1, 0, none⟩, 1, [t]⟩ := by
  have b1 := box_below w (.cells #[.int .i64 k, .int .i64 n, sv s, .slice A l c] 92)
  have b2 := b1.trans ((box_below _ (.cells #[.int .i64 k, .int .i64 n, sv s, .slice A l c] 92)).mono b1.size)
  have hB := Blk.new (w.alloc (.cells #[.int .i64 k, .int .i64 n, sv s, .slice A l c] 92)) 92 [.int .i64 k, .int .i64 n, sv s, .slice A l c]
  rw [size_alloc'] at hB
  exact ⟨b2, la_one hB (ex_go h b2)⟩
theorem cntL_one (t : T) : kdX.cntL [t] = cntT t := by simp [Kd.cntL]; rfl
end Go.Proofs.YtnmomlaimffonaaGreat.Tr
