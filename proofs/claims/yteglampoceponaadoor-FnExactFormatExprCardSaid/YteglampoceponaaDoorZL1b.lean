/- FnExactFormatInt: the program's FormatInt (strconv.Itoa) answers as the model's, for every int. -/
import Derived.Test.YteglampoceponaaDoorZC1
import Derived.Test.YteglampoceponaaDoorZShelf
import Derived.Lib.LaidTab
import Derived.Lib.AppendIntMem
set_option maxRecDepth 100000
namespace Go.Proofs.YteglampoceponaaDoor.L1b
open Go.RowKit Go.Lib Go.Proofs.YteglampoceponaaDoor.Num Go.Proofs.YteglampoceponaaDoor.Com Go.Proofs.YteglampoceponaaDoor.C1

/-- the one table that Itoa reads -/
def Pow (w : World) : Prop := Lib.TabIs Tryd.prog w "internal/strconv.uint64pow10" .u64 Lib.pow10Tab
theorem Pow.below {w w' : World} (h : Pow w) (hb : Below w.heap.size w w') : Pow w' := by
  exact var_below h hb

theorem met_tail {P : Program} {W : World} {x : String × DataW Unit} {r : List (String × DataW Unit)} (h : laidMet P (x :: r) W) : laidMet P r W := by
  obtain ⟨n, d⟩ := x
  obtain ⟨ps, ⟨g, t, cs, fuel, p, q, _, _, _, _, hr, rfl⟩, hnd, hrows⟩ := h
  have hs : q.Sublist (MemPlace.row ⟨g, 0, none⟩ cs.size ++ p ++ q) := List.sublist_append_right _ _
  exact ⟨q, hr, hnd.sublist hs, fun b off hp => hrows b off (hs.subset hp)⟩
/-- what the row's list gives -/
theorem pow_ofFE {W : World} (h : laidMetH Tryd.prog Rows.fnExactFormatExprRow.laid W) : Pow W :=
  Lib.tabIs_of_head (rest := []) (g := 0) (t := 91) (e := 86) (n := 20) (by kernel_rfl) (by kernel_rfl) Tryd.underlying91 Tryd.underlying86 (by kernel_rfl) (by kernel_rfl) (met_tail (met_tail h))

set_option maxHeartbeats 400000 in
theorem implFormat (n : Int) (h0 : -9223372036854775808 ≤ n) (h1 : n ≤ 9223372036854775807) (w : World) (hp : Pow w) : Calls Tryd.prog 36 #[.int .i64 n] w fun e w' => e = .returned (.string ⟨(itoa n).toArray⟩) ∧ Below w.heap.size w w' := by
  have hc := hid (Tryd.strconv_Itoa n h0 h1 w hp)
  clear hp
  go_enter Tryd.func36, Tryd.ntmps36
  go_wp2_with fail
  refine hc.out.mono ?_
  rintro e w' ⟨rfl, k, os, rfl⟩
  go_wp2_with fail
  go_ret
  exact ⟨rfl, below_grow _ _ (Nat.le_refl _) _ _⟩

end Go.Proofs.YteglampoceponaaDoor.L1b
