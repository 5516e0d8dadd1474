/- A value is a word, and depends on the variables that occur alone. -/
import Derived.Test.YtnmomlaimffonaaGreatZDr13
import Derived.Test.YtnmomlaimffonaaGreatZPss
import Derived.Test.YtnmomlaimffonaaGreatZKs
set_option maxRecDepth 100000
namespace Go.Proofs.YtnmomlaimffonaaGreat.Tr
open Go.RowKit Go.Lib Go.Sort Com Mem YtnmomlaimffonaaGreat.Os C2 C3 YtnmomlaimffonaaGreat.Nm
end Go.Proofs.YtnmomlaimffonaaGreat.Tr
set_option maxRecDepth 100000
namespace Go.Proofs.YtnmomlaimffonaaGreat.Gd
open Go.RowKit Go.Lib Com Mem Cur YtnmomlaimffonaaGreat.Os Ow Tr Dr Pl
theorem PgOut.keep {W W' : World} {lo lo' h : Nat} {v : Value} {V : List (List UInt8)} {L : List St} (hP : PgOut W lo v V L) (hlt : h < lo) (hl : lo' ≤ lo) (hg : W.grownBy W' (some h)) : PgOut W' lo' v V L := by
  obtain ⟨VA, vc, B, bc, rows, e, h1, h2, h3, h4, h5, h6⟩ := hP
  have hc : Cry (ezb W lo) (ezb W' lo') W.heap.size := (Cry.two (o := none) (fun k hk hlo _ => hg.block k hk fun e => by cases e; omega)).trans (Cry.ezb_mono W' hl _) (Nat.le_refl _)
  exact ⟨VA, vc, B, bc, rows, e, h1, rd_cry h2 hc hg.size, h3, h4, h5, h6.cry hc hg.size⟩
open YtnmomlaimffonaaGreat.Nm
theorem box_blk2 (w : World) (A : Option Addr) (l c : Nat) (Bb : Option Addr) (lb cb : Nat) (ty : TypeId) : Blk (w.alloc (.cells #[.slice A l c, .slice Bb lb cb] ty)) w.heap.size ty [.slice A l c, .slice Bb lb cb] := Blk.new w ty _
end Go.Proofs.YtnmomlaimffonaaGreat.Gd
set_option maxRecDepth 100000
namespace Go.Proofs.YtnmomlaimffonaaGreat.Gs
open Go.RowKit Go.Lib Go.Sort Com Mem Tr Im Ag Pl Kd
end Go.Proofs.YtnmomlaimffonaaGreat.Gs
