/- Statements and programs in the exact laws' words. -/
import Derived.Test.YtnmomlaimffonaaGreatZS8a
import Derived.Test.YtnmomlaimffonaaGreatZS8f
set_option maxRecDepth 100000
namespace Go.Proofs.YtnmomlaimffonaaGreat.Gd
open Go.RowKit Go.Lib Com Mem YtnmomlaimffonaaGreat.Os Tr YtnmomlaimffonaaGreat.Nm
theorem box_blk2 (w : World) (A : Option Addr) (l c : Nat) (Bb : Option Addr) (lb cb : Nat) (ty : TypeId) : Blk (w.alloc (.cells #[.slice A l c, .slice Bb lb cb] ty)) w.heap.size ty [.slice A l c, .slice Bb lb cb] := Blk.new w ty _
end Go.Proofs.YtnmomlaimffonaaGreat.Gd
