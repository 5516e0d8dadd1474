/- FnExactNormalizeExpr: the law's walk. -/
import Derived.Test.YtklcbagddijkgaaGreatDoorZI7c
set_option maxRecDepth 100000
namespace Go.Proofs.YtklcbagddijkgaaGreatDoor.WExactNormalizeExpr
open Go.RowKit Go.Lib Go.Sort Go.Proofs.YtklcbagddijkgaaGreatDoor.Com Go.Proofs.YtklcbagddijkgaaGreatDoor.Mem Go.Proofs.YtklcbagddijkgaaGreatDoor.Os Go.Proofs.YtklcbagddijkgaaGreatDoor.Ow Go.Proofs.YtklcbagddijkgaaGreatDoor.Tr Go.Proofs.YtklcbagddijkgaaGreatDoor.Tk
set_option maxHeartbeats 4000000 in
theorem walk (w : World) (hnv : NotV w) (hh : As.Handle w) (hpw : L1b.Pow w) (S : List UInt8) (hS : S.length ≤ 9223372036854775807) :
    Calls Tryz.prog 8 #[.string ⟨S.toArray⟩] w fun e w' => e = .returned (.bool true) ∧ Below w.heap.size w w' := by
  by_cases hbig : 1048576 < S.length
  · have t1 : decide (1048576 < (S.length : Int)) = true := decide_eq_true (by omega)
    go_enter Tryz.func8, Tryz.ntmps8
    go_wp2_with fail
    go_ret
    exact ⟨rfl, Below.refl _ _⟩
  have t1 : decide (1048576 < (S.length : Int)) = false := decide_eq_false (by omega)
  have hN := hid (fun w1 (h : Below w.heap.size w w1) => inorm_any S hS w1 (hnv.below h) (hand_below hh h) (hpw.below h))
  have hM := hid (fun w' => snorm_any S hS w')
  clear hnv hh hpw
  generalize normV S = nv at *
  obtain ⟨F, q⟩ := nv
  dsimp only at hN hM
  have cmp : (F != F) = false := bne_self_eq_false _
  have cmp2 : (q != q) = false := bne_self_eq_false _
  go_enter Tryz.func8, Tryz.ntmps8
  go_wp2_with fail
  refine (hM.out w).mono ?_
  rintro e w2 ⟨rfl, hb⟩
  have B2 := hid hb
  clear hb hM
  go_wp2_with fail
  refine (hN.out w2 B2.out).mono ?_
  rintro e w3 ⟨rfl, hb⟩
  have B3 := hid (B2.out.trans (hb.mono B2.out.size))
  clear hb hN
  go_wp2_with fail
  go_ret
  exact ⟨rfl, B3.out⟩
end Go.Proofs.YtklcbagddijkgaaGreatDoor.WExactNormalizeExpr
