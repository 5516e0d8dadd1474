/- FnExactAssignedVars: the law's walk, written by program out of the law's own text. -/
import Derived.Test.YteioojdgipodjaaZXa
import Derived.Test.YteioojdgipodjaaZSt4
set_option maxRecDepth 100000
namespace Go.Proofs.Yteioojdgipodjaa.WExactAssignedVars
open Go.RowKit Go.Lib Go.Proofs.Yteioojdgipodjaa.Com Go.Proofs.Yteioojdgipodjaa.Mem Go.Proofs.Yteioojdgipodjaa.Lh Go.Proofs.Yteioojdgipodjaa.Os Go.Proofs.Yteioojdgipodjaa.Tr Go.Proofs.Yteioojdgipodjaa.Gd Go.Proofs.Yteioojdgipodjaa.Nm
set_option maxHeartbeats 8000000 in
theorem walkAssignedVars (w : World) (A_aList : Option Addr) (c_aList : Nat) (L : List St) (rows_aList : Nat → List Value) (h_aList : Row w w.heap.size 1 A_aList (dl L) rows_aList) (hl_aList : L.length ≤ maxI) :
    Calls Try.prog 6 #[.slice A_aList L.length c_aList] w fun e w' => e = .returned (.bool true) ∧ Below w.heap.size w w' := by
  have Z0 := hid (Below.refl w.heap.size w)
  by_cases hsm_aList : 1048576 < ((szL8 L : Nat) : Int)
  · have hsz_aList := hid (fun (w1 : World) (hb : Below w.heap.size w w1) => szL8_over A_aList c_aList L rows_aList (1048576) w1 (h_aList.go hb) hl_aList (by omega) (by omega) (by omega))
    go_enter Try.func6, Try.ntmps6
    go_wp2_with fail
    refine (hsz_aList.out _ Z0.out).mono ?_
    rintro e wz1 ⟨rfl, hb⟩
    have Z1 := hid (Z0.out.trans (hb.mono Z0.out.size))
    clear hb
    go_wp2_with fail
    go_ret
    exact ⟨rfl, Z1.out⟩
  have hsz_aList := hid (fun (w1 : World) (hb : Below w.heap.size w w1) => szL8_fit A_aList c_aList L rows_aList (1048576) w1 (h_aList.go hb) hl_aList (by omega) (by omega) (by omega))
  have hz_aList : szL8 L ≤ 1048576 := by omega
  have bc_aList : markCL L ≤ 5242880 := by have := markCL_sz L; omega
  have t_aList : decide (1048576 - ((szL8 L : Nat) : Int) < 0) = false := decide_eq_false (by omega)
  have bd0 : (sortU (asgL L)).length ≤ 4194304 := by have := sortU_len (asgL L); have := asgL_len _ L rfl; have := cnt_sz8 L; omega
  have to_aList := hid (fun (w1 : World) (hb : Below w.heap.size w w1) => toL_own A_aList c_aList L rows_aList w1 (h_aList.go hb) hz_aList)
  go_enter Try.func6, Try.ntmps6
  go_wp2_with fail
  refine (hsz_aList.out _ Z0.out).mono ?_
  rintro e wz1 ⟨rfl, hb⟩
  have Z1 := hid (Z0.out.trans (hb.mono Z0.out.size))
  clear hb
  go_wp2_with fail
  have B0 := Z1
  have s0 := B0.out.size
  refine (to_aList.out _ B0.out).mono ?_
  rintro e W1 ⟨rfl, o_t1, hb⟩
  have s1 := hb.size
  have o_t1 := hid o_t1
  have B1 := hid (B0.out.trans (hb.mono (by omega)))
  clear hb
  go_wp2_with fail
  refine (sassigned_own _ o_t1.out hz_aList).mono ?_
  rintro e W2 ⟨r_w0, rfl, o_w0, hb⟩
  clear o_t1
  have s2 := hb.size
  have o_w0 := hid o_w0
  have B2 := hid (B1.out.trans (hb.mono (by omega)))
  clear hb
  go_wp2_with fail
  refine (to_aList.out _ B2.out).mono ?_
  rintro e W3 ⟨rfl, o_t2, hb⟩
  have s3 := hb.size
  replace o_w0 := hid (o_w0.out.same (same_below hb (by omega)))
  have o_t2 := hid o_t2
  have B3 := hid (B2.out.trans (hb.mono (by omega)))
  clear hb
  go_wp2_with fail
  refine (iassigned_own _ o_t2.out hz_aList).mono ?_
  rintro e W4 ⟨r_g0, rfl, o_g0, hb⟩
  have s4 := hb.size
  replace o_w0 := hid (o_w0.out.same (same_below hb (by omega)))
  replace o_t2 := hid (o_t2.out.same (same_below hb (by omega)))
  have o_g0 := hid o_g0
  have B4 := hid (B3.out.trans (hb.mono (by omega)))
  clear hb
  go_wp2_with fail
  refine (eqS_own _ o_g0.out o_w0.out).mono ?_
  rintro e W5 ⟨rfl, hb⟩
  have s5 := hb.size
  replace o_w0 := hid (o_w0.out.same (same_below hb (by omega)))
  replace o_t2 := hid (o_t2.out.same (same_below hb (by omega)))
  replace o_g0 := hid (o_g0.out.same (same_below hb (by omega)))
  have B5 := hid (B4.out.trans (hb.mono (by omega)))
  clear hb
  go_wp2_with fail
  refine (to_aList.out _ B5.out).mono ?_
  rintro e W6 ⟨rfl, o_t3, hb⟩
  have s6 := hb.size
  replace o_w0 := hid (o_w0.out.same (same_below hb (by omega)))
  replace o_t2 := hid (o_t2.out.same (same_below hb (by omega)))
  replace o_g0 := hid (o_g0.out.same (same_below hb (by omega)))
  have o_t3 := hid o_t3
  have B6 := hid (B5.out.trans (hb.mono (by omega)))
  clear hb
  go_wp2_with fail
  refine (eqL_own _ o_t2.out o_t3.out).mono ?_
  rintro e W7 ⟨rfl, hb⟩
  clear o_t3
  have s7 := hb.size
  replace o_w0 := hid (o_w0.out.same (same_below hb (by omega)))
  replace o_t2 := hid (o_t2.out.same (same_below hb (by omega)))
  replace o_g0 := hid (o_g0.out.same (same_below hb (by omega)))
  have B7 := hid (B6.out.trans (hb.mono (by omega)))
  clear hb
  go_wp2_with fail
  refine (markL_own (1) _ o_t2.out (by omega) (by omega) (by omega)).mono ?_
  rintro e W8 ⟨rfl, o_t2, hc⟩
  have s8 := hc.size
  replace o_w0 := hid (o_w0.out.same (same_chg hc (by omega) (by omega)))
  replace o_g0 := hid (o_g0.out.same (same_chg hc (by omega) (by omega)))
  replace o_t2 := hid o_t2
  have B8 := hid (below_chg B7.out hc (by omega) (by omega))
  clear hc
  have tk8 : decide (1 + ((markCL (L) : Nat) : Int) < 0) = false := decide_eq_false (by omega)
  go_wp2_with fail
  refine (eqS_own _ o_g0.out o_w0.out).mono ?_
  rintro e W9 ⟨rfl, hb⟩
  have s9 := hb.size
  replace o_w0 := hid (o_w0.out.same (same_below hb (by omega)))
  replace o_t2 := hid (o_t2.out.same (same_below hb (by omega)))
  replace o_g0 := hid (o_g0.out.same (same_below hb (by omega)))
  have B9 := hid (B8.out.trans (hb.mono (by omega)))
  clear hb
  go_wp2_with fail
  refine (markS_own (1) _ o_g0.out (by omega) (by omega)).mono ?_
  rintro e W10 ⟨rfl, o_g0, hc⟩
  have s10 := hc.size
  replace o_w0 := hid (o_w0.out.same (same_chg hc (by omega) (by omega)))
  replace o_t2 := hid (o_t2.out.same (same_chg hc (by omega) (by omega)))
  replace o_g0 := hid o_g0
  have B10 := hid (below_chg B9.out hc (by omega) (by omega))
  clear hc
  go_wp2_with fail
  refine (heldS_own (1) _ o_g0.out (by omega) (by omega)).mono ?_
  rintro e W11 ⟨rfl, hb⟩
  have s11 := hb.size
  replace o_w0 := hid (o_w0.out.same (same_below hb (by omega)))
  replace o_t2 := hid (o_t2.out.same (same_below hb (by omega)))
  replace o_g0 := hid (o_g0.out.same (same_below hb (by omega)))
  have B11 := hid (B10.out.trans (hb.mono (by omega)))
  clear hb
  go_wp2_with fail
  refine (to_aList.out _ B11.out).mono ?_
  rintro e W12 ⟨rfl, o_t4, hb⟩
  have s12 := hb.size
  replace o_w0 := hid (o_w0.out.same (same_below hb (by omega)))
  replace o_t2 := hid (o_t2.out.same (same_below hb (by omega)))
  replace o_g0 := hid (o_g0.out.same (same_below hb (by omega)))
  have o_t4 := hid o_t4
  have B12 := hid (B11.out.trans (hb.mono (by omega)))
  clear hb
  go_wp2_with fail
  refine (iassigned_own _ o_t4.out hz_aList).mono ?_
  rintro e W13 ⟨r_h0, rfl, o_h0, hb⟩
  clear o_t4
  have s13 := hb.size
  replace o_w0 := hid (o_w0.out.same (same_below hb (by omega)))
  replace o_t2 := hid (o_t2.out.same (same_below hb (by omega)))
  replace o_g0 := hid (o_g0.out.same (same_below hb (by omega)))
  have o_h0 := hid o_h0
  have B13 := hid (B12.out.trans (hb.mono (by omega)))
  clear hb
  go_wp2_with fail
  refine (eqS_own _ o_h0.out o_w0.out).mono ?_
  rintro e W14 ⟨rfl, hb⟩
  have s14 := hb.size
  replace o_w0 := hid (o_w0.out.same (same_below hb (by omega)))
  replace o_t2 := hid (o_t2.out.same (same_below hb (by omega)))
  replace o_g0 := hid (o_g0.out.same (same_below hb (by omega)))
  replace o_h0 := hid (o_h0.out.same (same_below hb (by omega)))
  have B14 := hid (B13.out.trans (hb.mono (by omega)))
  clear hb
  go_wp2_with fail
  refine (heldS_own (1) _ o_g0.out (by omega) (by omega)).mono ?_
  rintro e W15 ⟨rfl, hb⟩
  have s15 := hb.size
  replace o_w0 := hid (o_w0.out.same (same_below hb (by omega)))
  replace o_t2 := hid (o_t2.out.same (same_below hb (by omega)))
  replace o_g0 := hid (o_g0.out.same (same_below hb (by omega)))
  replace o_h0 := hid (o_h0.out.same (same_below hb (by omega)))
  have B15 := hid (B14.out.trans (hb.mono (by omega)))
  clear hb
  go_wp2_with fail
  go_ret
  exact ⟨rfl, B15.out⟩
end Go.Proofs.Yteioojdgipodjaa.WExactAssignedVars
