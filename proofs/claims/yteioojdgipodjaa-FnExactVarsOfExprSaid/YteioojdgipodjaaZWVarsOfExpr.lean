/- FnExactVarsOfExpr: the law's walk, written by program out of the law's own text. -/
import Derived.Test.YteioojdgipodjaaZNvx
import Derived.Test.YteioojdgipodjaaZEx5
import Derived.Test.YteioojdgipodjaaZEx4
import Derived.Deep.RegionHeld3
set_option maxRecDepth 100000
namespace Go.Proofs.Yteioojdgipodjaa.WExactVarsOfExpr
open Go.RowKit Go.Lib Go.Proofs.Yteioojdgipodjaa.Com Go.Proofs.Yteioojdgipodjaa.Mem Go.Proofs.Yteioojdgipodjaa.Lh Go.Proofs.Yteioojdgipodjaa.Os Go.Proofs.Yteioojdgipodjaa.Tr Go.Proofs.Yteioojdgipodjaa.Nm
set_option maxHeartbeats 8000000 in
theorem walkVarsOfExpr (w : World) (v_aE : Value) (t : T) (h_aE : Ex w w.heap.size v_aE t) :
    Calls Try.prog 11 #[v_aE] w fun e w' => e = .returned (.bool true) ∧ Below w.heap.size w w' := by
  obtain ⟨k_aE, n_aE, s_aE, A_aE, l_aE, c_aE, f_aE⟩ := h_aE.form
  subst f_aE
  have hbx := box_below (w) (.cells #[.int .i64 k_aE, .int .i64 n_aE, sv s_aE, .slice A_aE l_aE c_aE] 55)
  have q_aE := box_blk (w) k_aE n_aE s_aE A_aE l_aE c_aE 55
  have bx_aE := hid q_aE
  clear q_aE
  have Y0 := hid hbx
  clear hbx
  generalize hw0 : ((w).alloc (.cells #[.int .i64 k_aE, .int .i64 n_aE, sv s_aE, .slice A_aE l_aE c_aE] 55)) = W0 at *
  have Z0 := Y0
  by_cases hsm_aE : 1048576 < ((szT t : Nat) : Int)
  · have hsz_aE := hid (fun (w1 : World) (hb : Below w.heap.size w w1) => szE_over t (1048576) w1 _ (h_aE.go hb) (by omega) (by omega) (by omega))
    go_enter Try.func11, Try.ntmps11
    obtain ⟨b0_aE, b1_aE, b2_aE, b3_aE⟩ := four bx_aE.out
    go_wp2_with fail
    refine (hsz_aE.out _ Z0.out).mono ?_
    rintro e wz1 ⟨rfl, hb⟩
    have Z1 := hid (Z0.out.trans (hb.mono Z0.out.size))
    replace bx_aE := hid (bx_aE.out.below hb bx_aE.out.lt)
    clear hb
    clear b0_aE b1_aE b2_aE b3_aE
    obtain ⟨b0_aE, b1_aE, b2_aE, b3_aE⟩ := four bx_aE.out
    go_wp2_with fail
    go_ret
    exact ⟨rfl, Z1.out⟩
  have hsz_aE := hid (fun (w1 : World) (hb : Below w.heap.size w w1) => szE_fit t (1048576) w1 _ (h_aE.go hb) (by omega) (by omega) (by omega))
  have hz_aE : szT t ≤ 1048576 := by omega
  have bc_aE : markC t ≤ 3145728 := by have := cnt_sz t; unfold markC; omega
  have t_aE : decide (1048576 - ((szT t : Nat) : Int) < 0) = false := decide_eq_false (by omega)
  have bd0 : (sortU (varsT t)).length ≤ 4194304 := by have := sortU_len (varsT t); have := varsT_len t; have := cnt_sz t; omega
  have to_aE := hid (fun (w1 : World) (hb : Below w.heap.size w w1) => toE_own t w1 _ (h_aE.go hb) hz_aE)
  go_enter Try.func11, Try.ntmps11
  obtain ⟨b0_aE, b1_aE, b2_aE, b3_aE⟩ := four bx_aE.out
  go_wp2_with fail
  refine (hsz_aE.out _ Z0.out).mono ?_
  rintro e wz1 ⟨rfl, hb⟩
  have Z1 := hid (Z0.out.trans (hb.mono Z0.out.size))
  replace bx_aE := hid (bx_aE.out.below hb bx_aE.out.lt)
  clear hb
  clear b0_aE b1_aE b2_aE b3_aE
  obtain ⟨b0_aE, b1_aE, b2_aE, b3_aE⟩ := four bx_aE.out
  go_wp2_with fail
  have B0 := Z1
  have s0 := B0.out.size
  have lt_aE := bx_aE.out.lt
  refine (to_aE.out _ B0.out).mono ?_
  rintro e W1 ⟨r_t1, rfl, o_t1, hb⟩
  have s1 := hb.size
  have o_t1 := hid o_t1
  replace bx_aE := hid (bx_aE.out.below hb bx_aE.out.lt)
  have B1 := hid (B0.out.trans (hb.mono (by omega)))
  clear hb
  clear b0_aE b1_aE b2_aE b3_aE
  obtain ⟨b0_aE, b1_aE, b2_aE, b3_aE⟩ := four bx_aE.out
  go_wp2_with fail
  refine (svars_own _ o_t1.out hz_aE).mono ?_
  rintro e W2 ⟨r_w0, rfl, o_w0, hb⟩
  clear o_t1
  have s2 := hb.size
  have o_w0 := hid o_w0
  replace bx_aE := hid (bx_aE.out.below hb bx_aE.out.lt)
  have B2 := hid (B1.out.trans (hb.mono (by omega)))
  clear hb
  clear b0_aE b1_aE b2_aE b3_aE
  obtain ⟨b0_aE, b1_aE, b2_aE, b3_aE⟩ := four bx_aE.out
  go_wp2_with fail
  refine (to_aE.out _ B2.out).mono ?_
  rintro e W3 ⟨r_t2, rfl, o_t2, hb⟩
  have s3 := hb.size
  replace o_w0 := hid (o_w0.out.same (same_below hb (by omega)))
  have o_t2 := hid o_t2
  replace bx_aE := hid (bx_aE.out.below hb bx_aE.out.lt)
  have B3 := hid (B2.out.trans (hb.mono (by omega)))
  clear hb
  clear b0_aE b1_aE b2_aE b3_aE
  obtain ⟨k_x0, n_x0, s_x0, A_x0, l_x0, c_x0, rfl⟩ := o_t2.out.form
  have hb := box_below W3 (.cells #[.int .i64 k_x0, .int .i64 n_x0, sv s_x0, .slice A_x0 l_x0 c_x0] 46)
  have bx_x0 := hid (box_blk W3 k_x0 n_x0 s_x0 A_x0 l_x0 c_x0 46)
  have s4 := hb.size
  replace o_w0 := hid (o_w0.out.same (same_below hb (by omega)))
  replace o_t2 := hid (o_t2.out.same (same_below hb (by omega)))
  replace bx_aE := hid (bx_aE.out.below hb bx_aE.out.lt)
  have B4 := hid (B3.out.trans (hb.mono (by omega)))
  clear hb
  obtain ⟨b0_aE, b1_aE, b2_aE, b3_aE⟩ := four bx_aE.out
  obtain ⟨b0_x0, b1_x0, b2_x0, b3_x0⟩ := four bx_x0.out
  go_wp2_with fail
  generalize (W3.alloc (.cells #[.int .i64 k_x0, .int .i64 n_x0, sv s_x0, .slice A_x0 l_x0 c_x0] 46)) = W4 at *
  have lt_x0 := bx_x0.out.lt
  refine (ivars_own _ o_t2.out hz_aE).mono ?_
  rintro e W5 ⟨r_g0, rfl, o_g0, hb⟩
  have s5 := hb.size
  replace o_w0 := hid (o_w0.out.same (same_below hb (by omega)))
  replace o_t2 := hid (o_t2.out.same (same_below hb (by omega)))
  have o_g0 := hid o_g0
  replace bx_aE := hid (bx_aE.out.below hb bx_aE.out.lt)
  replace bx_x0 := hid (bx_x0.out.below hb bx_x0.out.lt)
  have B5 := hid (B4.out.trans (hb.mono (by omega)))
  clear hb
  clear b0_aE b1_aE b2_aE b3_aE b0_x0 b1_x0 b2_x0 b3_x0
  obtain ⟨b0_aE, b1_aE, b2_aE, b3_aE⟩ := four bx_aE.out
  obtain ⟨b0_x0, b1_x0, b2_x0, b3_x0⟩ := four bx_x0.out
  go_wp2_with fail
  refine (eqS_own _ o_g0.out o_w0.out).mono ?_
  rintro e W6 ⟨rfl, hb⟩
  have s6 := hb.size
  replace o_w0 := hid (o_w0.out.same (same_below hb (by omega)))
  replace o_t2 := hid (o_t2.out.same (same_below hb (by omega)))
  replace o_g0 := hid (o_g0.out.same (same_below hb (by omega)))
  replace bx_aE := hid (bx_aE.out.below hb bx_aE.out.lt)
  replace bx_x0 := hid (bx_x0.out.below hb bx_x0.out.lt)
  have B6 := hid (B5.out.trans (hb.mono (by omega)))
  clear hb
  clear b0_aE b1_aE b2_aE b3_aE b0_x0 b1_x0 b2_x0 b3_x0
  obtain ⟨b0_aE, b1_aE, b2_aE, b3_aE⟩ := four bx_aE.out
  obtain ⟨b0_x0, b1_x0, b2_x0, b3_x0⟩ := four bx_x0.out
  go_wp2_with fail
  go_region_held3 (fun w' => (w'.cell? ⟨w.heap.size, 0, none⟩ = some (.int .i64 k_aE) ∧ w'.cell? ⟨w.heap.size, 1, none⟩ = some (.int .i64 n_aE) ∧ w'.cell? ⟨w.heap.size, 2, none⟩ = some (sv s_aE) ∧ w'.cell? ⟨w.heap.size, 3, none⟩ = some (.slice A_aE l_aE c_aE)) ∧ (w'.cell? ⟨W3.heap.size, 0, none⟩ = some (.int .i64 k_x0) ∧ w'.cell? ⟨W3.heap.size, 1, none⟩ = some (.int .i64 n_x0) ∧ w'.cell? ⟨W3.heap.size, 2, none⟩ = some (sv s_x0) ∧ w'.cell? ⟨W3.heap.size, 3, none⟩ = some (.slice A_x0 l_x0 c_x0))) (first | (exact ⟨q1, p1⟩) | (exact ⟨q2, p2⟩) | go_keep)
    (first
     | (go_at_call 43; refine (to_aE.out _ (B6.out.trans ((Below.refl _ _).drew.mono B6.out.size))).mono ?_; rintro e W7 ⟨r_t3, rfl, o_t3, hb⟩; have s7 : W6.heap.size ≤ W7.heap.size := hb.size; have B7 := hid (B6.out.trans (((Below.refl _ _).drew.trans hb).mono B6.out.size)); have bx1_aE := hid (bx_aE.out.below ((Below.refl _ _).drew.trans hb) bx_aE.out.lt); have bx1_x0 := hid (bx_x0.out.below ((Below.refl _ _).drew.trans hb) bx_x0.out.lt); have o1_w0 := hid (o_w0.out.same (same_below (B := W6.heap.size) ((Below.refl _ _).drew.trans hb) (by omega))); have o1_t2 := hid (o_t2.out.same (same_below (B := W6.heap.size) ((Below.refl _ _).drew.trans hb) (by omega))); have o1_g0 := hid (o_g0.out.same (same_below (B := W6.heap.size) ((Below.refl _ _).drew.trans hb) (by omega))); have q1 := four bx1_aE.out; have p1 := four bx1_x0.out; have o_t3 := hid o_t3; clear hb)
     | (go_at_call 44; refine (eqE_own _ o1_t2.out o_t3.out).mono ?_; rintro e W8 ⟨rfl, hb⟩; have s8 := hb.size; have B8 := hid (B7.out.trans (hb.mono B7.out.size)); have bx2_aE := hid (bx1_aE.out.below hb bx1_aE.out.lt); have bx2_x0 := hid (bx1_x0.out.below hb bx1_x0.out.lt); have o2_w0 := hid (o1_w0.out.same (same_below hb (by omega))); have o2_t2 := hid (o1_t2.out.same (same_below hb (by omega))); have o2_g0 := hid (o1_g0.out.same (same_below hb (by omega))); have q2 := four bx2_aE.out; have p2 := four bx2_x0.out; clear hb))
  clear b0_aE b1_aE b2_aE b3_aE b0_x0 b1_x0 b2_x0 b3_x0
  clear q1 p1 q2 p2 o_t3 bx_aE bx1_aE bx_x0 bx1_x0 o_w0 o1_w0 o_t2 o1_t2 o_g0 o1_g0
  have bx_aE := bx2_aE
  clear bx2_aE
  have bx_x0 := bx2_x0
  clear bx2_x0
  have o_w0 := o2_w0
  clear o2_w0
  have o_t2 := o2_t2
  clear o2_t2
  have o_g0 := o2_g0
  clear o2_g0
  obtain ⟨b0_aE, b1_aE, b2_aE, b3_aE⟩ := four bx_aE.out
  obtain ⟨b0_x0, b1_x0, b2_x0, b3_x0⟩ := four bx_x0.out
  go_wp2_with fail
  refine (markE_own (1) _ o_t2.out (by omega) (by omega)).mono ?_
  rintro e W9 ⟨rfl, o_t2, hc⟩
  have s9 := hc.size
  replace o_w0 := hid (o_w0.out.same (same_chg hc (by omega) (by omega)))
  replace o_g0 := hid (o_g0.out.same (same_chg hc (by omega) (by omega)))
  replace o_t2 := hid o_t2
  replace bx_aE := hid (blk_chg bx_aE.out hc (by omega))
  replace bx_x0 := hid (blk_chg bx_x0.out hc (by omega))
  have B9 := hid (below_chg B8.out hc (by omega) (by omega))
  clear hc
  clear b0_aE b1_aE b2_aE b3_aE b0_x0 b1_x0 b2_x0 b3_x0
  have tk9 : decide (1 + ((markC (t) : Nat) : Int) < 0) = false := decide_eq_false (by omega)
  obtain ⟨b0_aE, b1_aE, b2_aE, b3_aE⟩ := four bx_aE.out
  obtain ⟨b0_x0, b1_x0, b2_x0, b3_x0⟩ := four bx_x0.out
  go_wp2_with fail
  refine (eqS_own _ o_g0.out o_w0.out).mono ?_
  rintro e W10 ⟨rfl, hb⟩
  have s10 := hb.size
  replace o_w0 := hid (o_w0.out.same (same_below hb (by omega)))
  replace o_t2 := hid (o_t2.out.same (same_below hb (by omega)))
  replace o_g0 := hid (o_g0.out.same (same_below hb (by omega)))
  replace bx_aE := hid (bx_aE.out.below hb bx_aE.out.lt)
  replace bx_x0 := hid (bx_x0.out.below hb bx_x0.out.lt)
  have B10 := hid (B9.out.trans (hb.mono (by omega)))
  clear hb
  clear b0_aE b1_aE b2_aE b3_aE b0_x0 b1_x0 b2_x0 b3_x0
  obtain ⟨b0_aE, b1_aE, b2_aE, b3_aE⟩ := four bx_aE.out
  obtain ⟨b0_x0, b1_x0, b2_x0, b3_x0⟩ := four bx_x0.out
  go_wp2_with fail
  refine (markS_own (1) _ o_g0.out (by omega) (by omega)).mono ?_
  rintro e W11 ⟨rfl, o_g0, hc⟩
  have s11 := hc.size
  replace o_w0 := hid (o_w0.out.same (same_chg hc (by omega) (by omega)))
  replace o_t2 := hid (o_t2.out.same (same_chg hc (by omega) (by omega)))
  replace o_g0 := hid o_g0
  replace bx_aE := hid (blk_chg bx_aE.out hc (by omega))
  replace bx_x0 := hid (blk_chg bx_x0.out hc (by omega))
  have B11 := hid (below_chg B10.out hc (by omega) (by omega))
  clear hc
  clear b0_aE b1_aE b2_aE b3_aE b0_x0 b1_x0 b2_x0 b3_x0
  obtain ⟨b0_aE, b1_aE, b2_aE, b3_aE⟩ := four bx_aE.out
  obtain ⟨b0_x0, b1_x0, b2_x0, b3_x0⟩ := four bx_x0.out
  go_wp2_with fail
  refine (heldS_own (1) _ o_g0.out (by omega) (by omega)).mono ?_
  rintro e W12 ⟨rfl, hb⟩
  have s12 := hb.size
  replace o_w0 := hid (o_w0.out.same (same_below hb (by omega)))
  replace o_t2 := hid (o_t2.out.same (same_below hb (by omega)))
  replace o_g0 := hid (o_g0.out.same (same_below hb (by omega)))
  replace bx_aE := hid (bx_aE.out.below hb bx_aE.out.lt)
  replace bx_x0 := hid (bx_x0.out.below hb bx_x0.out.lt)
  have B12 := hid (B11.out.trans (hb.mono (by omega)))
  clear hb
  clear b0_aE b1_aE b2_aE b3_aE b0_x0 b1_x0 b2_x0 b3_x0
  obtain ⟨b0_aE, b1_aE, b2_aE, b3_aE⟩ := four bx_aE.out
  obtain ⟨b0_x0, b1_x0, b2_x0, b3_x0⟩ := four bx_x0.out
  go_wp2_with fail
  refine (to_aE.out _ B12.out).mono ?_
  rintro e W13 ⟨r_t4, rfl, o_t4, hb⟩
  have s13 := hb.size
  replace o_w0 := hid (o_w0.out.same (same_below hb (by omega)))
  replace o_t2 := hid (o_t2.out.same (same_below hb (by omega)))
  replace o_g0 := hid (o_g0.out.same (same_below hb (by omega)))
  have o_t4 := hid o_t4
  replace bx_aE := hid (bx_aE.out.below hb bx_aE.out.lt)
  replace bx_x0 := hid (bx_x0.out.below hb bx_x0.out.lt)
  have B13 := hid (B12.out.trans (hb.mono (by omega)))
  clear hb
  clear b0_aE b1_aE b2_aE b3_aE b0_x0 b1_x0 b2_x0 b3_x0
  obtain ⟨b0_aE, b1_aE, b2_aE, b3_aE⟩ := four bx_aE.out
  obtain ⟨b0_x0, b1_x0, b2_x0, b3_x0⟩ := four bx_x0.out
  go_wp2_with fail
  refine (ivars_own _ o_t4.out hz_aE).mono ?_
  rintro e W14 ⟨r_h0, rfl, o_h0, hb⟩
  clear o_t4
  have s14 := hb.size
  replace o_w0 := hid (o_w0.out.same (same_below hb (by omega)))
  replace o_t2 := hid (o_t2.out.same (same_below hb (by omega)))
  replace o_g0 := hid (o_g0.out.same (same_below hb (by omega)))
  have o_h0 := hid o_h0
  replace bx_aE := hid (bx_aE.out.below hb bx_aE.out.lt)
  replace bx_x0 := hid (bx_x0.out.below hb bx_x0.out.lt)
  have B14 := hid (B13.out.trans (hb.mono (by omega)))
  clear hb
  clear b0_aE b1_aE b2_aE b3_aE b0_x0 b1_x0 b2_x0 b3_x0
  obtain ⟨b0_aE, b1_aE, b2_aE, b3_aE⟩ := four bx_aE.out
  obtain ⟨b0_x0, b1_x0, b2_x0, b3_x0⟩ := four bx_x0.out
  go_wp2_with fail
  refine (eqS_own _ o_h0.out o_w0.out).mono ?_
  rintro e W15 ⟨rfl, hb⟩
  have s15 := hb.size
  replace o_w0 := hid (o_w0.out.same (same_below hb (by omega)))
  replace o_t2 := hid (o_t2.out.same (same_below hb (by omega)))
  replace o_g0 := hid (o_g0.out.same (same_below hb (by omega)))
  replace o_h0 := hid (o_h0.out.same (same_below hb (by omega)))
  replace bx_aE := hid (bx_aE.out.below hb bx_aE.out.lt)
  replace bx_x0 := hid (bx_x0.out.below hb bx_x0.out.lt)
  have B15 := hid (B14.out.trans (hb.mono (by omega)))
  clear hb
  clear b0_aE b1_aE b2_aE b3_aE b0_x0 b1_x0 b2_x0 b3_x0
  obtain ⟨b0_aE, b1_aE, b2_aE, b3_aE⟩ := four bx_aE.out
  obtain ⟨b0_x0, b1_x0, b2_x0, b3_x0⟩ := four bx_x0.out
  go_wp2_with fail
  refine (heldS_own (1) _ o_g0.out (by omega) (by omega)).mono ?_
  rintro e W16 ⟨rfl, hb⟩
  have s16 := hb.size
  replace o_w0 := hid (o_w0.out.same (same_below hb (by omega)))
  replace o_t2 := hid (o_t2.out.same (same_below hb (by omega)))
  replace o_g0 := hid (o_g0.out.same (same_below hb (by omega)))
  replace o_h0 := hid (o_h0.out.same (same_below hb (by omega)))
  replace bx_aE := hid (bx_aE.out.below hb bx_aE.out.lt)
  replace bx_x0 := hid (bx_x0.out.below hb bx_x0.out.lt)
  have B16 := hid (B15.out.trans (hb.mono (by omega)))
  clear hb
  clear b0_aE b1_aE b2_aE b3_aE b0_x0 b1_x0 b2_x0 b3_x0
  obtain ⟨b0_aE, b1_aE, b2_aE, b3_aE⟩ := four bx_aE.out
  obtain ⟨b0_x0, b1_x0, b2_x0, b3_x0⟩ := four bx_x0.out
  go_wp2_with fail
  go_ret
  exact ⟨rfl, B16.out⟩
end Go.Proofs.Yteioojdgipodjaa.WExactVarsOfExpr
