/- FnExactFormatInt: the program's FormatInt (strconv.Itoa) answers as the model's, for every int. -/
import Derived.Test.YtklcbagddijkgaaGreatDoorZC1
import Derived.Test.YtklcbagddijkgaaGreatDoorZShelf
import Derived.Lib.LaidTab
import Derived.Lib.AppendIntMem
set_option maxRecDepth 100000
namespace Go.Proofs.YtklcbagddijkgaaGreatDoor.L1b
open Go.RowKit Go.Lib Go.Proofs.YtklcbagddijkgaaGreatDoor.Num Go.Proofs.YtklcbagddijkgaaGreatDoor.Com Go.Proofs.YtklcbagddijkgaaGreatDoor.C1

/-- the one table that Itoa reads -/
def Pow (w : World) : Prop := Lib.TabIs Tryz.prog w "internal/strconv.uint64pow10" .u64 Lib.pow10Tab
theorem Pow.below {w w' : World} (h : Pow w) (hb : Below w.heap.size w w') : Pow w' := by
  exact var_below h hb

theorem met_tail {P : Program} {W : World} {x : String × DataW Unit} {r : List (String × DataW Unit)} (h : laidMet P (x :: r) W) : laidMet P r W := by
  obtain ⟨n, d⟩ := x
  obtain ⟨ps, ⟨g, t, cs, fuel, p, q, _, _, _, _, hr, rfl⟩, hnd, hrows⟩ := h
  have hs : q.Sublist (MemPlace.row ⟨g, 0, none⟩ cs.size ++ p ++ q) := List.sublist_append_right _ _
  exact ⟨q, hr, hnd.sublist hs, fun b off hp => hrows b off (hs.subset hp)⟩
set_option maxHeartbeats 400000 in
theorem implFormat (n : Int) (h0 : -9223372036854775808 ≤ n) (h1 : n ≤ 9223372036854775807) (w : World) (hp : Pow w) : Calls Tryz.prog 174 #[.int .i64 n] w fun e w' => e = .returned (.string ⟨(itoa n).toArray⟩) ∧ Below w.heap.size w w' := by
  have hc := hid (Tryz.strconv_Itoa n h0 h1 w hp)
  clear hp
  go_enter Tryz.func174, Tryz.ntmps174
  go_wp2_with fail
  refine hc.out.mono ?_
  rintro e w' ⟨rfl, k, os, rfl⟩
  go_wp2_with fail
  go_ret
  exact ⟨rfl, below_grow _ _ (Nat.le_refl _) _ _⟩

end Go.Proofs.YtklcbagddijkgaaGreatDoor.L1b
