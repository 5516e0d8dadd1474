/- FnExactAllStates: the law's walk, written by program out of the law's own text. -/
import Derived.Test.YtjopcajecnnchaaC3h
namespace Go.Proofs.Ytjopcajecnnchaa.WExactAllStates
open Go.RowKit Go.Lib Go.Proofs.Ytjopcajecnnchaa.Com Go.Proofs.Ytjopcajecnnchaa.Mem Go.Proofs.Ytjopcajecnnchaa.Os Go.Proofs.Ytjopcajecnnchaa.C3
set_option maxHeartbeats 4000000 in
theorem walkAllStates (w : World) (n : Int) (_hw_aN : (Lit.int .i64 n).wf = true) :
    Calls Try.prog 9 #[.int .i64 n] w fun e w' => e = .returned (.bool true) ∧ Below w.heap.size w w' := by
  have bd0 : totL (statesL n) ≤ 1048576 := states_tot n
  have B0 := hid (Below.refl w.heap.size w)
  go_enter Try.func9, Try.ntmps9
  go_wp2_with fail
  refine (sstates_own _ ).mono ?_
  rintro e W1 ⟨r_w0, rfl, o_w0, hb⟩
  have s1 := hb.size
  have o_w0 := hid o_w0
  have B1 := hid (B0.out.trans (hb.mono (by omega)))
  clear hb
  go_wp2_with fail
  refine (states_own _ ).mono ?_
  rintro e W2 ⟨r_g0, rfl, o_g0, hb⟩
  have s2 := hb.size
  replace o_w0 := hid (o_w0.out.same (same_below hb (by omega)))
  have o_g0 := hid o_g0
  have B2 := hid (B1.out.trans (hb.mono (by omega)))
  clear hb
  go_wp2_with fail
  refine (eqII_own _ o_g0.out o_w0.out).mono ?_
  rintro e W3 ⟨rfl, hb⟩
  have s3 := hb.size
  replace o_w0 := hid (o_w0.out.same (same_below hb (by omega)))
  replace o_g0 := hid (o_g0.out.same (same_below hb (by omega)))
  have B3 := hid (B2.out.trans (hb.mono (by omega)))
  clear hb
  go_wp2_with fail
  refine (markII_own (1) _ o_g0.out (by omega) (by omega)).mono ?_
  rintro e W4 ⟨rfl, o_g0, hc⟩
  have s4 := hc.size
  replace o_w0 := hid (o_w0.out.same (same_chg hc (by omega) (by omega)))
  replace o_g0 := hid o_g0
  have B4 := hid (below_chg B3.out hc (by omega) (by omega))
  clear hc
  go_wp2_with fail
  refine (heldII_own (1) _ o_g0.out (by omega) (by omega)).mono ?_
  rintro e W5 ⟨rfl, hb⟩
  have s5 := hb.size
  replace o_w0 := hid (o_w0.out.same (same_below hb (by omega)))
  replace o_g0 := hid (o_g0.out.same (same_below hb (by omega)))
  have B5 := hid (B4.out.trans (hb.mono (by omega)))
  clear hb
  go_wp2_with fail
  refine (states_own _ ).mono ?_
  rintro e W6 ⟨r_h0, rfl, o_h0, hb⟩
  have s6 := hb.size
  replace o_w0 := hid (o_w0.out.same (same_below hb (by omega)))
  replace o_g0 := hid (o_g0.out.same (same_below hb (by omega)))
  have o_h0 := hid o_h0
  have B6 := hid (B5.out.trans (hb.mono (by omega)))
  clear hb
  go_wp2_with fail
  refine (eqII_own _ o_h0.out o_w0.out).mono ?_
  rintro e W7 ⟨rfl, hb⟩
  have s7 := hb.size
  replace o_w0 := hid (o_w0.out.same (same_below hb (by omega)))
  replace o_g0 := hid (o_g0.out.same (same_below hb (by omega)))
  replace o_h0 := hid (o_h0.out.same (same_below hb (by omega)))
  have B7 := hid (B6.out.trans (hb.mono (by omega)))
  clear hb
  go_wp2_with fail
  refine (heldII_own (1) _ o_g0.out (by omega) (by omega)).mono ?_
  rintro e W8 ⟨rfl, hb⟩
  have s8 := hb.size
  replace o_w0 := hid (o_w0.out.same (same_below hb (by omega)))
  replace o_g0 := hid (o_g0.out.same (same_below hb (by omega)))
  replace o_h0 := hid (o_h0.out.same (same_below hb (by omega)))
  have B8 := hid (B7.out.trans (hb.mono (by omega)))
  clear hb
  go_wp2_with fail
  go_ret
  exact ⟨rfl, B8.out⟩
end Go.Proofs.Ytjopcajecnnchaa.WExactAllStates
