/- FnExactRunProgram: the law's walk, written by program out of the law's own text. -/
import Derived.Test.YtnmomlaimffonaaGreatZI13
import Derived.Test.YtnmomlaimffonaaGreatZMq8
import Derived.Deep.RegionHeld3
set_option maxHeartbeats 8000000
set_option maxRecDepth 100000
namespace Go.Proofs.YtnmomlaimffonaaGreat.WExactRunProgram
open Go.RowKit Go.Lib Com Mem YtnmomlaimffonaaGreat.Os Tr Gd Oc Rn
theorem walkRunProgram (w : World) (v_aP : Value) (p : Pg) (h_aP : PgAt w w.heap.size v_aP p) (A_aInput : Option Addr) (c_aInput : Nat) (S : List Int) (h_aInput : Rd w w.heap.size A_aInput (S.map (Value.int .i64))) (_hm_aInput : ∀ x ∈ S, (Lit.int .i64 x).wf = true) (_hl_aInput : S.length ≤ 9223372036854775807) (f : Int) (_hw_aFuel : (Lit.int .i64 f).wf = true) :
    Calls Tryz.prog 5 #[v_aP, .slice A_aInput S.length c_aInput, .int .i64 f] w fun e w' => e = .returned (.bool true) ∧ Below w.heap.size w w' := by
  obtain ⟨A_aP, l_aP, c_aP, B_aP, lb_aP, cb_aP, f_aP⟩ := h_aP.form
  subst f_aP
  have hbx := box_below (w) (.cells #[.slice A_aP l_aP c_aP, .slice B_aP lb_aP cb_aP] 41)
  have q_aP := box_blk2 (w) A_aP l_aP c_aP B_aP lb_aP cb_aP 41
  have bx_aP := hid q_aP
  clear q_aP
  have Y0 := hid hbx
  clear hbx
  generalize hw0 : ((w).alloc (.cells #[.slice A_aP l_aP c_aP, .slice B_aP lb_aP cb_aP] 41)) = W0 at *
  have Z0 := Y0
  by_cases hbig_aInput : 1048576 < S.length
  · have t_aInput : decide (1048576 < (S.length : Int)) = true := decide_eq_true (by omega)
    go_enter Tryz.func5, Tryz.ntmps5
    obtain ⟨b0_aP, b1_aP⟩ := two bx_aP.out
    go_wp2_with fail
    go_ret
    exact ⟨rfl, Z0.out⟩
  have t_aInput : decide (1048576 < (S.length : Int)) = false := decide_eq_false (by omega)
  have hz_aInput : S.length ≤ 1048576 := by omega
  by_cases hsm_aP : 1048576 < ((szP8 p : Nat) : Int)
  · have hsz_aP := hid (fun (w1 : World) (hb : Below w.heap.size w w1) => szP_over p (1048576) w1 _ (h_aP.go hb) (by omega) (by omega) (by omega))
    go_enter Tryz.func5, Tryz.ntmps5
    obtain ⟨b0_aP, b1_aP⟩ := two bx_aP.out
    go_wp2_with fail
    refine (hsz_aP.out _ Z0.out).mono ?_
    rintro e wz1 ⟨rfl, hb⟩
    have Z1 := hid (Z0.out.trans (hb.mono Z0.out.size))
    replace bx_aP := hid (bx_aP.out.below hb bx_aP.out.lt)
    clear hb
    clear b0_aP b1_aP
    obtain ⟨b0_aP, b1_aP⟩ := two bx_aP.out
    go_wp2_with fail
    go_ret
    exact ⟨rfl, Z1.out⟩
  have hsz_aP := hid (fun (w1 : World) (hb : Below w.heap.size w w1) => szP_fit p (1048576) w1 _ (h_aP.go hb) (by omega) (by omega) (by omega))
  have hz_aP : szP8 p ≤ 1048576 := by omega
  have bc_aP : markCP p ≤ 5242880 := by have := markCP_sz p; omega
  have t_aP : decide (1048576 - ((szP8 p : Nat) : Int) < 0) = false := decide_eq_false (by omega)
  have bd0 : cntOc (runO p S f) ≤ 4194304 := by have := runO_cnt p S f; omega
  have to_aP := hid (fun (w1 : World) (hb : Below w.heap.size w w1) => toP_own p w1 _ (h_aP.go hb) hz_aP)
  have to_aInput := hid (fun (w1 : World) (hb : Below w.heap.size w w1) => toI_own A_aInput c_aInput S w w1 h_aInput (by omega) hb)
  go_enter Tryz.func5, Tryz.ntmps5
  obtain ⟨b0_aP, b1_aP⟩ := two bx_aP.out
  go_wp2_with fail
  refine (hsz_aP.out _ Z0.out).mono ?_
  rintro e wz1 ⟨rfl, hb⟩
  have Z1 := hid (Z0.out.trans (hb.mono Z0.out.size))
  replace bx_aP := hid (bx_aP.out.below hb bx_aP.out.lt)
  clear hb
  clear b0_aP b1_aP
  obtain ⟨b0_aP, b1_aP⟩ := two bx_aP.out
  go_wp2_with fail
  have B0 := Z1
  have s0 := B0.out.size
  have lt_aP := bx_aP.out.lt
  refine (to_aP.out _ B0.out).mono ?_
  rintro e W1 ⟨r_t1, rfl, o_t1, hb⟩
  have s1 := hb.size
  have o_t1 := hid o_t1
  replace bx_aP := hid (bx_aP.out.below hb bx_aP.out.lt)
  have B1 := hid (B0.out.trans (hb.mono (by omega)))
  clear hb
  clear b0_aP b1_aP
  obtain ⟨b0_aP, b1_aP⟩ := two bx_aP.out
  go_wp2_with fail
  refine (to_aInput.out _ B1.out).mono ?_
  rintro e W2 ⟨rfl, o_t2, hb⟩
  have s2 := hb.size
  replace o_t1 := hid (o_t1.out.same (same_below hb (by omega)))
  have o_t2 := hid o_t2
  replace bx_aP := hid (bx_aP.out.below hb bx_aP.out.lt)
  have B2 := hid (B1.out.trans (hb.mono (by omega)))
  clear hb
  clear b0_aP b1_aP
  obtain ⟨b0_aP, b1_aP⟩ := two bx_aP.out
  go_wp2_with fail
  refine (srun_own _ o_t1.out o_t2.out hz_aP hz_aInput).mono ?_
  rintro e W3 ⟨r_w0, rfl, o_w0, hb⟩
  clear o_t1
  clear o_t2
  have s3 := hb.size
  have o_w0 := hid o_w0
  replace bx_aP := hid (bx_aP.out.below hb bx_aP.out.lt)
  have B3 := hid (B2.out.trans (hb.mono (by omega)))
  clear hb
  clear b0_aP b1_aP
  obtain ⟨st_w0, A_w0, l_w0, c_w0, B_w0, lb_w0, cb_w0, co_w0, rfl⟩ := o_w0.out.form
  have hb := box_below W3 (.cells #[.int .i64 st_w0, .slice A_w0 l_w0 c_w0, .slice B_w0 lb_w0 cb_w0, .int .i64 co_w0] 32)
  have bx_w0 := hid (box_blkO W3 st_w0 A_w0 l_w0 c_w0 B_w0 lb_w0 cb_w0 co_w0 32)
  have s4 := hb.size
  replace o_w0 := hid (o_w0.out.same (same_below hb (by omega)))
  replace bx_aP := hid (bx_aP.out.below hb bx_aP.out.lt)
  have B4 := hid (B3.out.trans (hb.mono (by omega)))
  clear hb
  obtain ⟨b0_aP, b1_aP⟩ := two bx_aP.out
  obtain ⟨b0_w0, b1_w0, b2_w0, b3_w0⟩ := fourO bx_w0.out
  go_wp2_with fail
  generalize (W3.alloc (.cells #[.int .i64 st_w0, .slice A_w0 l_w0 c_w0, .slice B_w0 lb_w0 cb_w0, .int .i64 co_w0] 32)) = W4 at *
  have lt_w0 := bx_w0.out.lt
  refine (to_aP.out _ B4.out).mono ?_
  rintro e W5 ⟨r_t3, rfl, o_t3, hb⟩
  have s5 := hb.size
  replace o_w0 := hid (o_w0.out.same (same_below hb (by omega)))
  have o_t3 := hid o_t3
  replace bx_aP := hid (bx_aP.out.below hb bx_aP.out.lt)
  replace bx_w0 := hid (bx_w0.out.below hb bx_w0.out.lt)
  have B5 := hid (B4.out.trans (hb.mono (by omega)))
  clear hb
  clear b0_aP b1_aP b0_w0 b1_w0 b2_w0 b3_w0
  obtain ⟨A_x0, l_x0, c_x0, B_x0, lb_x0, cb_x0, rfl⟩ := o_t3.out.form
  have hb := box_below W5 (.cells #[.slice A_x0 l_x0 c_x0, .slice B_x0 lb_x0 cb_x0] 27)
  have bx_x0 := hid (box_blk2 W5 A_x0 l_x0 c_x0 B_x0 lb_x0 cb_x0 27)
  have s6 := hb.size
  replace o_w0 := hid (o_w0.out.same (same_below hb (by omega)))
  replace o_t3 := hid (o_t3.out.same (same_below hb (by omega)))
  replace bx_aP := hid (bx_aP.out.below hb bx_aP.out.lt)
  replace bx_w0 := hid (bx_w0.out.below hb bx_w0.out.lt)
  have B6 := hid (B5.out.trans (hb.mono (by omega)))
  clear hb
  obtain ⟨b0_aP, b1_aP⟩ := two bx_aP.out
  obtain ⟨b0_w0, b1_w0, b2_w0, b3_w0⟩ := fourO bx_w0.out
  obtain ⟨b0_x0, b1_x0⟩ := two bx_x0.out
  go_wp2_with fail
  generalize (W5.alloc (.cells #[.slice A_x0 l_x0 c_x0, .slice B_x0 lb_x0 cb_x0] 27)) = W6 at *
  have lt_x0 := bx_x0.out.lt
  refine (to_aInput.out _ B6.out).mono ?_
  rintro e W7 ⟨rfl, o_t4, hb⟩
  have s7 := hb.size
  replace o_w0 := hid (o_w0.out.same (same_below hb (by omega)))
  replace o_t3 := hid (o_t3.out.same (same_below hb (by omega)))
  have o_t4 := hid o_t4
  replace bx_aP := hid (bx_aP.out.below hb bx_aP.out.lt)
  replace bx_w0 := hid (bx_w0.out.below hb bx_w0.out.lt)
  replace bx_x0 := hid (bx_x0.out.below hb bx_x0.out.lt)
  have B7 := hid (B6.out.trans (hb.mono (by omega)))
  clear hb
  clear b0_aP b1_aP b0_w0 b1_w0 b2_w0 b3_w0 b0_x0 b1_x0
  obtain ⟨b0_aP, b1_aP⟩ := two bx_aP.out
  obtain ⟨b0_w0, b1_w0, b2_w0, b3_w0⟩ := fourO bx_w0.out
  obtain ⟨b0_x0, b1_x0⟩ := two bx_x0.out
  go_wp2_with fail
  refine (irun_own _ o_t3.out o_t4.out hz_aP hz_aInput).mono ?_
  rintro e W8 ⟨r_g0, rfl, o_g0, hb⟩
  have s8 := hb.size
  replace o_w0 := hid (o_w0.out.same (same_below hb (by omega)))
  replace o_t3 := hid (o_t3.out.same (same_below hb (by omega)))
  replace o_t4 := hid (o_t4.out.same (same_below hb (by omega)))
  have o_g0 := hid o_g0
  replace bx_aP := hid (bx_aP.out.below hb bx_aP.out.lt)
  replace bx_w0 := hid (bx_w0.out.below hb bx_w0.out.lt)
  replace bx_x0 := hid (bx_x0.out.below hb bx_x0.out.lt)
  have B8 := hid (B7.out.trans (hb.mono (by omega)))
  clear hb
  clear b0_aP b1_aP b0_w0 b1_w0 b2_w0 b3_w0 b0_x0 b1_x0
  obtain ⟨st_g0, A_g0, l_g0, c_g0, B_g0, lb_g0, cb_g0, co_g0, rfl⟩ := o_g0.out.form
  have hb := box_below W8 (.cells #[.int .i64 st_g0, .slice A_g0 l_g0 c_g0, .slice B_g0 lb_g0 cb_g0, .int .i64 co_g0] 32)
  have bx_g0 := hid (box_blkO W8 st_g0 A_g0 l_g0 c_g0 B_g0 lb_g0 cb_g0 co_g0 32)
  have s9 := hb.size
  replace o_w0 := hid (o_w0.out.same (same_below hb (by omega)))
  replace o_t3 := hid (o_t3.out.same (same_below hb (by omega)))
  replace o_t4 := hid (o_t4.out.same (same_below hb (by omega)))
  replace o_g0 := hid (o_g0.out.same (same_below hb (by omega)))
  replace bx_aP := hid (bx_aP.out.below hb bx_aP.out.lt)
  replace bx_w0 := hid (bx_w0.out.below hb bx_w0.out.lt)
  replace bx_x0 := hid (bx_x0.out.below hb bx_x0.out.lt)
  have B9 := hid (B8.out.trans (hb.mono (by omega)))
  clear hb
  obtain ⟨b0_aP, b1_aP⟩ := two bx_aP.out
  obtain ⟨b0_w0, b1_w0, b2_w0, b3_w0⟩ := fourO bx_w0.out
  obtain ⟨b0_x0, b1_x0⟩ := two bx_x0.out
  obtain ⟨b0_g0, b1_g0, b2_g0, b3_g0⟩ := fourO bx_g0.out
  go_wp2_with fail
  generalize (W8.alloc (.cells #[.int .i64 st_g0, .slice A_g0 l_g0 c_g0, .slice B_g0 lb_g0 cb_g0, .int .i64 co_g0] 32)) = W9 at *
  have lt_g0 := bx_g0.out.lt
  refine (eqOc_own _ o_g0.out o_w0.out).mono ?_
  rintro e W10 ⟨rfl, hb⟩
  have s10 := hb.size
  replace o_w0 := hid (o_w0.out.same (same_below hb (by omega)))
  replace o_t3 := hid (o_t3.out.same (same_below hb (by omega)))
  replace o_t4 := hid (o_t4.out.same (same_below hb (by omega)))
  replace o_g0 := hid (o_g0.out.same (same_below hb (by omega)))
  replace bx_aP := hid (bx_aP.out.below hb bx_aP.out.lt)
  replace bx_w0 := hid (bx_w0.out.below hb bx_w0.out.lt)
  replace bx_x0 := hid (bx_x0.out.below hb bx_x0.out.lt)
  replace bx_g0 := hid (bx_g0.out.below hb bx_g0.out.lt)
  have B10 := hid (B9.out.trans (hb.mono (by omega)))
  clear hb
  clear b0_aP b1_aP b0_w0 b1_w0 b2_w0 b3_w0 b0_x0 b1_x0 b0_g0 b1_g0 b2_g0 b3_g0
  obtain ⟨b0_aP, b1_aP⟩ := two bx_aP.out
  obtain ⟨b0_w0, b1_w0, b2_w0, b3_w0⟩ := fourO bx_w0.out
  obtain ⟨b0_x0, b1_x0⟩ := two bx_x0.out
  obtain ⟨b0_g0, b1_g0, b2_g0, b3_g0⟩ := fourO bx_g0.out
  go_wp2_with fail
  go_region_held3 (fun w' => (w'.cell? ⟨w.heap.size, 0, none⟩ = some (.slice A_aP l_aP c_aP) ∧ w'.cell? ⟨w.heap.size, 1, none⟩ = some (.slice B_aP lb_aP cb_aP)) ∧ (w'.cell? ⟨W5.heap.size, 0, none⟩ = some (.slice A_x0 l_x0 c_x0) ∧ w'.cell? ⟨W5.heap.size, 1, none⟩ = some (.slice B_x0 lb_x0 cb_x0))) (first | (exact ⟨q1, p1⟩) | (exact ⟨q2, p2⟩) | go_keep)
    (first
     | (go_at_call 18; refine (to_aP.out _ (B10.out.trans ((Below.refl _ _).drew.mono B10.out.size))).mono ?_; rintro e W11 ⟨r_t5, rfl, o_t5, hb⟩; have s11 : W10.heap.size ≤ W11.heap.size := hb.size; have B11 := hid (B10.out.trans (((Below.refl _ _).drew.trans hb).mono B10.out.size)); have bx1_aP := hid (bx_aP.out.below ((Below.refl _ _).drew.trans hb) bx_aP.out.lt); have bx1_w0 := hid (bx_w0.out.below ((Below.refl _ _).drew.trans hb) bx_w0.out.lt); have bx1_x0 := hid (bx_x0.out.below ((Below.refl _ _).drew.trans hb) bx_x0.out.lt); have bx1_g0 := hid (bx_g0.out.below ((Below.refl _ _).drew.trans hb) bx_g0.out.lt); have o1_w0 := hid (o_w0.out.same (same_below (B := W10.heap.size) ((Below.refl _ _).drew.trans hb) (by omega))); have o1_t3 := hid (o_t3.out.same (same_below (B := W10.heap.size) ((Below.refl _ _).drew.trans hb) (by omega))); have o1_t4 := hid (o_t4.out.same (same_below (B := W10.heap.size) ((Below.refl _ _).drew.trans hb) (by omega))); have o1_g0 := hid (o_g0.out.same (same_below (B := W10.heap.size) ((Below.refl _ _).drew.trans hb) (by omega))); have q1 := two bx1_aP.out; have p1 := two bx1_x0.out; have o_t5 := hid o_t5; clear hb)
     | (go_at_call 21; refine (eqP_own _ o1_t3.out o_t5.out).mono ?_; rintro e W12 ⟨rfl, hb⟩; have s12 := hb.size; have B12 := hid (B11.out.trans (hb.mono B11.out.size)); have bx2_aP := hid (bx1_aP.out.below hb bx1_aP.out.lt); have bx2_w0 := hid (bx1_w0.out.below hb bx1_w0.out.lt); have bx2_x0 := hid (bx1_x0.out.below hb bx1_x0.out.lt); have bx2_g0 := hid (bx1_g0.out.below hb bx1_g0.out.lt); have o2_w0 := hid (o1_w0.out.same (same_below hb (by omega))); have o2_t3 := hid (o1_t3.out.same (same_below hb (by omega))); have o2_t4 := hid (o1_t4.out.same (same_below hb (by omega))); have o2_g0 := hid (o1_g0.out.same (same_below hb (by omega))); have q2 := two bx2_aP.out; have p2 := two bx2_x0.out; clear hb))
  clear b0_aP b1_aP b0_w0 b1_w0 b2_w0 b3_w0 b0_x0 b1_x0 b0_g0 b1_g0 b2_g0 b3_g0
  clear q1 p1 q2 p2 o_t5 bx_aP bx1_aP bx_w0 bx1_w0 bx_x0 bx1_x0 bx_g0 bx1_g0 o_w0 o1_w0 o_t3 o1_t3 o_t4 o1_t4 o_g0 o1_g0
  have bx_aP := bx2_aP
  clear bx2_aP
  have bx_w0 := bx2_w0
  clear bx2_w0
  have bx_x0 := bx2_x0
  clear bx2_x0
  have bx_g0 := bx2_g0
  clear bx2_g0
  have o_w0 := o2_w0
  clear o2_w0
  have o_t3 := o2_t3
  clear o2_t3
  have o_t4 := o2_t4
  clear o2_t4
  have o_g0 := o2_g0
  clear o2_g0
  obtain ⟨b0_aP, b1_aP⟩ := two bx_aP.out
  obtain ⟨b0_w0, b1_w0, b2_w0, b3_w0⟩ := fourO bx_w0.out
  obtain ⟨b0_x0, b1_x0⟩ := two bx_x0.out
  obtain ⟨b0_g0, b1_g0, b2_g0, b3_g0⟩ := fourO bx_g0.out
  go_wp2_with fail
  refine (to_aInput.out _ B12.out).mono ?_
  rintro e W13 ⟨rfl, o_t6, hb⟩
  have s13 := hb.size
  replace o_w0 := hid (o_w0.out.same (same_below hb (by omega)))
  replace o_t3 := hid (o_t3.out.same (same_below hb (by omega)))
  replace o_t4 := hid (o_t4.out.same (same_below hb (by omega)))
  replace o_g0 := hid (o_g0.out.same (same_below hb (by omega)))
  have o_t6 := hid o_t6
  replace bx_aP := hid (bx_aP.out.below hb bx_aP.out.lt)
  replace bx_w0 := hid (bx_w0.out.below hb bx_w0.out.lt)
  replace bx_x0 := hid (bx_x0.out.below hb bx_x0.out.lt)
  replace bx_g0 := hid (bx_g0.out.below hb bx_g0.out.lt)
  have B13 := hid (B12.out.trans (hb.mono (by omega)))
  clear hb
  clear b0_aP b1_aP b0_w0 b1_w0 b2_w0 b3_w0 b0_x0 b1_x0 b0_g0 b1_g0 b2_g0 b3_g0
  obtain ⟨b0_aP, b1_aP⟩ := two bx_aP.out
  obtain ⟨b0_w0, b1_w0, b2_w0, b3_w0⟩ := fourO bx_w0.out
  obtain ⟨b0_x0, b1_x0⟩ := two bx_x0.out
  obtain ⟨b0_g0, b1_g0, b2_g0, b3_g0⟩ := fourO bx_g0.out
  go_wp2_with fail
  refine (eqI_own _ o_t4.out o_t6.out).mono ?_
  rintro e W14 ⟨rfl, hb⟩
  clear o_t6
  have s14 := hb.size
  replace o_w0 := hid (o_w0.out.same (same_below hb (by omega)))
  replace o_t3 := hid (o_t3.out.same (same_below hb (by omega)))
  replace o_t4 := hid (o_t4.out.same (same_below hb (by omega)))
  replace o_g0 := hid (o_g0.out.same (same_below hb (by omega)))
  replace bx_aP := hid (bx_aP.out.below hb bx_aP.out.lt)
  replace bx_w0 := hid (bx_w0.out.below hb bx_w0.out.lt)
  replace bx_x0 := hid (bx_x0.out.below hb bx_x0.out.lt)
  replace bx_g0 := hid (bx_g0.out.below hb bx_g0.out.lt)
  have B14 := hid (B13.out.trans (hb.mono (by omega)))
  clear hb
  clear b0_aP b1_aP b0_w0 b1_w0 b2_w0 b3_w0 b0_x0 b1_x0 b0_g0 b1_g0 b2_g0 b3_g0
  obtain ⟨b0_aP, b1_aP⟩ := two bx_aP.out
  obtain ⟨b0_w0, b1_w0, b2_w0, b3_w0⟩ := fourO bx_w0.out
  obtain ⟨b0_x0, b1_x0⟩ := two bx_x0.out
  obtain ⟨b0_g0, b1_g0, b2_g0, b3_g0⟩ := fourO bx_g0.out
  go_wp2_with fail
  refine (markP_own (1) _ o_t3.out (by omega) (by omega) (by omega)).mono ?_
  rintro e W15 ⟨rfl, hc⟩
  clear o_t3
  have s15 := hc.size
  replace o_w0 := hid (o_w0.out.same (same_chg hc (by omega) (by omega)))
  replace o_t4 := hid (o_t4.out.same (same_chg hc (by omega) (by omega)))
  replace o_g0 := hid (o_g0.out.same (same_chg hc (by omega) (by omega)))
  replace bx_aP := hid (blk_chg bx_aP.out hc (by omega))
  replace bx_w0 := hid (blk_chg bx_w0.out hc (by omega))
  replace bx_x0 := hid (blk_chg bx_x0.out hc (by omega))
  replace bx_g0 := hid (blk_chg bx_g0.out hc (by omega))
  have B15 := hid (below_chg B14.out hc (by omega) (by omega))
  clear hc
  clear b0_aP b1_aP b0_w0 b1_w0 b2_w0 b3_w0 b0_x0 b1_x0 b0_g0 b1_g0 b2_g0 b3_g0
  have tk15 : decide (1 + ((markCP (p) : Nat) : Int) < 0) = false := decide_eq_false (by omega)
  obtain ⟨b0_aP, b1_aP⟩ := two bx_aP.out
  obtain ⟨b0_w0, b1_w0, b2_w0, b3_w0⟩ := fourO bx_w0.out
  obtain ⟨b0_x0, b1_x0⟩ := two bx_x0.out
  obtain ⟨b0_g0, b1_g0, b2_g0, b3_g0⟩ := fourO bx_g0.out
  go_wp2_with fail
  refine (markIc_own (1 + ((markCP (p) : Nat) : Int)) _ o_t4.out (by omega) (by omega)).mono ?_
  rintro e W16 ⟨rfl, o_t4, hc⟩
  have s16 := hc.size
  replace o_w0 := hid (o_w0.out.same (same_chg hc (by omega) (by omega)))
  replace o_g0 := hid (o_g0.out.same (same_chg hc (by omega) (by omega)))
  replace o_t4 := hid o_t4
  replace bx_aP := hid (blk_chg bx_aP.out hc (by omega))
  replace bx_w0 := hid (blk_chg bx_w0.out hc (by omega))
  replace bx_x0 := hid (blk_chg bx_x0.out hc (by omega))
  replace bx_g0 := hid (blk_chg bx_g0.out hc (by omega))
  have B16 := hid (below_chg B15.out hc (by omega) (by omega))
  clear hc
  clear b0_aP b1_aP b0_w0 b1_w0 b2_w0 b3_w0 b0_x0 b1_x0 b0_g0 b1_g0 b2_g0 b3_g0
  have tk16 : decide (1 + ((markCP (p) : Nat) : Int) + (((S).length : Nat) : Int) < 0) = false := decide_eq_false (by omega)
  obtain ⟨b0_aP, b1_aP⟩ := two bx_aP.out
  obtain ⟨b0_w0, b1_w0, b2_w0, b3_w0⟩ := fourO bx_w0.out
  obtain ⟨b0_x0, b1_x0⟩ := two bx_x0.out
  obtain ⟨b0_g0, b1_g0, b2_g0, b3_g0⟩ := fourO bx_g0.out
  go_wp2_with fail
  refine (eqOc_own _ o_g0.out o_w0.out).mono ?_
  rintro e W17 ⟨rfl, hb⟩
  have s17 := hb.size
  replace o_w0 := hid (o_w0.out.same (same_below hb (by omega)))
  replace o_t4 := hid (o_t4.out.same (same_below hb (by omega)))
  replace o_g0 := hid (o_g0.out.same (same_below hb (by omega)))
  replace bx_aP := hid (bx_aP.out.below hb bx_aP.out.lt)
  replace bx_w0 := hid (bx_w0.out.below hb bx_w0.out.lt)
  replace bx_x0 := hid (bx_x0.out.below hb bx_x0.out.lt)
  replace bx_g0 := hid (bx_g0.out.below hb bx_g0.out.lt)
  have B17 := hid (B16.out.trans (hb.mono (by omega)))
  clear hb
  clear b0_aP b1_aP b0_w0 b1_w0 b2_w0 b3_w0 b0_x0 b1_x0 b0_g0 b1_g0 b2_g0 b3_g0
  obtain ⟨b0_aP, b1_aP⟩ := two bx_aP.out
  obtain ⟨b0_w0, b1_w0, b2_w0, b3_w0⟩ := fourO bx_w0.out
  obtain ⟨b0_x0, b1_x0⟩ := two bx_x0.out
  obtain ⟨b0_g0, b1_g0, b2_g0, b3_g0⟩ := fourO bx_g0.out
  go_wp2_with fail
  refine (markOc_own (1) _ o_g0.out (by omega) (by omega) (by omega)).mono ?_
  rintro e W18 ⟨rfl, o_g0, hc⟩
  have s18 := hc.size
  replace o_w0 := hid (o_w0.out.same (same_chg hc (by omega) (by omega)))
  replace o_t4 := hid (o_t4.out.same (same_chg hc (by omega) (by omega)))
  replace o_g0 := hid o_g0
  replace bx_aP := hid (blk_chg bx_aP.out hc (by omega))
  replace bx_w0 := hid (blk_chg bx_w0.out hc (by omega))
  replace bx_x0 := hid (blk_chg bx_x0.out hc (by omega))
  replace bx_g0 := hid (blk_chg bx_g0.out hc (by omega))
  have B18 := hid (below_chg B17.out hc (by omega) (by omega))
  clear hc
  clear b0_aP b1_aP b0_w0 b1_w0 b2_w0 b3_w0 b0_x0 b1_x0 b0_g0 b1_g0 b2_g0 b3_g0
  obtain ⟨b0_aP, b1_aP⟩ := two bx_aP.out
  obtain ⟨b0_w0, b1_w0, b2_w0, b3_w0⟩ := fourO bx_w0.out
  obtain ⟨b0_x0, b1_x0⟩ := two bx_x0.out
  obtain ⟨b0_g0, b1_g0, b2_g0, b3_g0⟩ := fourO bx_g0.out
  go_wp2_with fail
  refine (heldOc_own (1) _ o_g0.out (by omega) (by omega)).mono ?_
  rintro e W19 ⟨rfl, hb⟩
  have s19 := hb.size
  replace o_w0 := hid (o_w0.out.same (same_below hb (by omega)))
  replace o_t4 := hid (o_t4.out.same (same_below hb (by omega)))
  replace o_g0 := hid (o_g0.out.same (same_below hb (by omega)))
  replace bx_aP := hid (bx_aP.out.below hb bx_aP.out.lt)
  replace bx_w0 := hid (bx_w0.out.below hb bx_w0.out.lt)
  replace bx_x0 := hid (bx_x0.out.below hb bx_x0.out.lt)
  replace bx_g0 := hid (bx_g0.out.below hb bx_g0.out.lt)
  have B19 := hid (B18.out.trans (hb.mono (by omega)))
  clear hb
  clear b0_aP b1_aP b0_w0 b1_w0 b2_w0 b3_w0 b0_x0 b1_x0 b0_g0 b1_g0 b2_g0 b3_g0
  obtain ⟨b0_aP, b1_aP⟩ := two bx_aP.out
  obtain ⟨b0_w0, b1_w0, b2_w0, b3_w0⟩ := fourO bx_w0.out
  obtain ⟨b0_x0, b1_x0⟩ := two bx_x0.out
  obtain ⟨b0_g0, b1_g0, b2_g0, b3_g0⟩ := fourO bx_g0.out
  go_wp2_with fail
  refine (to_aP.out _ B19.out).mono ?_
  rintro e W20 ⟨r_t7, rfl, o_t7, hb⟩
  have s20 := hb.size
  replace o_w0 := hid (o_w0.out.same (same_below hb (by omega)))
  replace o_t4 := hid (o_t4.out.same (same_below hb (by omega)))
  replace o_g0 := hid (o_g0.out.same (same_below hb (by omega)))
  have o_t7 := hid o_t7
  replace bx_aP := hid (bx_aP.out.below hb bx_aP.out.lt)
  replace bx_w0 := hid (bx_w0.out.below hb bx_w0.out.lt)
  replace bx_x0 := hid (bx_x0.out.below hb bx_x0.out.lt)
  replace bx_g0 := hid (bx_g0.out.below hb bx_g0.out.lt)
  have B20 := hid (B19.out.trans (hb.mono (by omega)))
  clear hb
  clear b0_aP b1_aP b0_w0 b1_w0 b2_w0 b3_w0 b0_x0 b1_x0 b0_g0 b1_g0 b2_g0 b3_g0
  obtain ⟨b0_aP, b1_aP⟩ := two bx_aP.out
  obtain ⟨b0_w0, b1_w0, b2_w0, b3_w0⟩ := fourO bx_w0.out
  obtain ⟨b0_x0, b1_x0⟩ := two bx_x0.out
  obtain ⟨b0_g0, b1_g0, b2_g0, b3_g0⟩ := fourO bx_g0.out
  go_wp2_with fail
  refine (to_aInput.out _ B20.out).mono ?_
  rintro e W21 ⟨rfl, o_t8, hb⟩
  have s21 := hb.size
  replace o_w0 := hid (o_w0.out.same (same_below hb (by omega)))
  replace o_t4 := hid (o_t4.out.same (same_below hb (by omega)))
  replace o_g0 := hid (o_g0.out.same (same_below hb (by omega)))
  replace o_t7 := hid (o_t7.out.same (same_below hb (by omega)))
  have o_t8 := hid o_t8
  replace bx_aP := hid (bx_aP.out.below hb bx_aP.out.lt)
  replace bx_w0 := hid (bx_w0.out.below hb bx_w0.out.lt)
  replace bx_x0 := hid (bx_x0.out.below hb bx_x0.out.lt)
  replace bx_g0 := hid (bx_g0.out.below hb bx_g0.out.lt)
  have B21 := hid (B20.out.trans (hb.mono (by omega)))
  clear hb
  clear b0_aP b1_aP b0_w0 b1_w0 b2_w0 b3_w0 b0_x0 b1_x0 b0_g0 b1_g0 b2_g0 b3_g0
  obtain ⟨b0_aP, b1_aP⟩ := two bx_aP.out
  obtain ⟨b0_w0, b1_w0, b2_w0, b3_w0⟩ := fourO bx_w0.out
  obtain ⟨b0_x0, b1_x0⟩ := two bx_x0.out
  obtain ⟨b0_g0, b1_g0, b2_g0, b3_g0⟩ := fourO bx_g0.out
  go_wp2_with fail
  refine (irun_own _ o_t7.out o_t8.out hz_aP hz_aInput).mono ?_
  rintro e W22 ⟨r_h0, rfl, o_h0, hb⟩
  clear o_t7
  clear o_t8
  have s22 := hb.size
  replace o_w0 := hid (o_w0.out.same (same_below hb (by omega)))
  replace o_t4 := hid (o_t4.out.same (same_below hb (by omega)))
  replace o_g0 := hid (o_g0.out.same (same_below hb (by omega)))
  have o_h0 := hid o_h0
  replace bx_aP := hid (bx_aP.out.below hb bx_aP.out.lt)
  replace bx_w0 := hid (bx_w0.out.below hb bx_w0.out.lt)
  replace bx_x0 := hid (bx_x0.out.below hb bx_x0.out.lt)
  replace bx_g0 := hid (bx_g0.out.below hb bx_g0.out.lt)
  have B22 := hid (B21.out.trans (hb.mono (by omega)))
  clear hb
  clear b0_aP b1_aP b0_w0 b1_w0 b2_w0 b3_w0 b0_x0 b1_x0 b0_g0 b1_g0 b2_g0 b3_g0
  obtain ⟨st_h0, A_h0, l_h0, c_h0, B_h0, lb_h0, cb_h0, co_h0, rfl⟩ := o_h0.out.form
  have hb := box_below W22 (.cells #[.int .i64 st_h0, .slice A_h0 l_h0 c_h0, .slice B_h0 lb_h0 cb_h0, .int .i64 co_h0] 32)
  have bx_h0 := hid (box_blkO W22 st_h0 A_h0 l_h0 c_h0 B_h0 lb_h0 cb_h0 co_h0 32)
  have s23 := hb.size
  replace o_w0 := hid (o_w0.out.same (same_below hb (by omega)))
  replace o_t4 := hid (o_t4.out.same (same_below hb (by omega)))
  replace o_g0 := hid (o_g0.out.same (same_below hb (by omega)))
  replace o_h0 := hid (o_h0.out.same (same_below hb (by omega)))
  replace bx_aP := hid (bx_aP.out.below hb bx_aP.out.lt)
  replace bx_w0 := hid (bx_w0.out.below hb bx_w0.out.lt)
  replace bx_x0 := hid (bx_x0.out.below hb bx_x0.out.lt)
  replace bx_g0 := hid (bx_g0.out.below hb bx_g0.out.lt)
  have B23 := hid (B22.out.trans (hb.mono (by omega)))
  clear hb
  obtain ⟨b0_aP, b1_aP⟩ := two bx_aP.out
  obtain ⟨b0_w0, b1_w0, b2_w0, b3_w0⟩ := fourO bx_w0.out
  obtain ⟨b0_x0, b1_x0⟩ := two bx_x0.out
  obtain ⟨b0_g0, b1_g0, b2_g0, b3_g0⟩ := fourO bx_g0.out
  obtain ⟨b0_h0, b1_h0, b2_h0, b3_h0⟩ := fourO bx_h0.out
  go_wp2_with fail
  generalize (W22.alloc (.cells #[.int .i64 st_h0, .slice A_h0 l_h0 c_h0, .slice B_h0 lb_h0 cb_h0, .int .i64 co_h0] 32)) = W23 at *
  have lt_h0 := bx_h0.out.lt
  refine (eqOc_own _ o_h0.out o_w0.out).mono ?_
  rintro e W24 ⟨rfl, hb⟩
  have s24 := hb.size
  replace o_w0 := hid (o_w0.out.same (same_below hb (by omega)))
  replace o_t4 := hid (o_t4.out.same (same_below hb (by omega)))
  replace o_g0 := hid (o_g0.out.same (same_below hb (by omega)))
  replace o_h0 := hid (o_h0.out.same (same_below hb (by omega)))
  replace bx_aP := hid (bx_aP.out.below hb bx_aP.out.lt)
  replace bx_w0 := hid (bx_w0.out.below hb bx_w0.out.lt)
  replace bx_x0 := hid (bx_x0.out.below hb bx_x0.out.lt)
  replace bx_g0 := hid (bx_g0.out.below hb bx_g0.out.lt)
  replace bx_h0 := hid (bx_h0.out.below hb bx_h0.out.lt)
  have B24 := hid (B23.out.trans (hb.mono (by omega)))
  clear hb
  clear b0_aP b1_aP b0_w0 b1_w0 b2_w0 b3_w0 b0_x0 b1_x0 b0_g0 b1_g0 b2_g0 b3_g0 b0_h0 b1_h0 b2_h0 b3_h0
  obtain ⟨b0_aP, b1_aP⟩ := two bx_aP.out
  obtain ⟨b0_w0, b1_w0, b2_w0, b3_w0⟩ := fourO bx_w0.out
  obtain ⟨b0_x0, b1_x0⟩ := two bx_x0.out
  obtain ⟨b0_g0, b1_g0, b2_g0, b3_g0⟩ := fourO bx_g0.out
  obtain ⟨b0_h0, b1_h0, b2_h0, b3_h0⟩ := fourO bx_h0.out
  go_wp2_with fail
  refine (heldOc_own (1) _ o_g0.out (by omega) (by omega)).mono ?_
  rintro e W25 ⟨rfl, hb⟩
  have s25 := hb.size
  replace o_w0 := hid (o_w0.out.same (same_below hb (by omega)))
  replace o_t4 := hid (o_t4.out.same (same_below hb (by omega)))
  replace o_g0 := hid (o_g0.out.same (same_below hb (by omega)))
  replace o_h0 := hid (o_h0.out.same (same_below hb (by omega)))
  replace bx_aP := hid (bx_aP.out.below hb bx_aP.out.lt)
  replace bx_w0 := hid (bx_w0.out.below hb bx_w0.out.lt)
  replace bx_x0 := hid (bx_x0.out.below hb bx_x0.out.lt)
  replace bx_g0 := hid (bx_g0.out.below hb bx_g0.out.lt)
  replace bx_h0 := hid (bx_h0.out.below hb bx_h0.out.lt)
  have B25 := hid (B24.out.trans (hb.mono (by omega)))
  clear hb
  clear b0_aP b1_aP b0_w0 b1_w0 b2_w0 b3_w0 b0_x0 b1_x0 b0_g0 b1_g0 b2_g0 b3_g0 b0_h0 b1_h0 b2_h0 b3_h0
  obtain ⟨b0_aP, b1_aP⟩ := two bx_aP.out
  obtain ⟨b0_w0, b1_w0, b2_w0, b3_w0⟩ := fourO bx_w0.out
  obtain ⟨b0_x0, b1_x0⟩ := two bx_x0.out
  obtain ⟨b0_g0, b1_g0, b2_g0, b3_g0⟩ := fourO bx_g0.out
  obtain ⟨b0_h0, b1_h0, b2_h0, b3_h0⟩ := fourO bx_h0.out
  go_wp2_with fail
  go_ret
  exact ⟨rfl, B25.out⟩
end Go.Proofs.YtnmomlaimffonaaGreat.WExactRunProgram
