/- FnExactTerminates: the law's walk, written by program out of the law's own text. -/
import Derived.Test.YtnmomlaimffonaaGreatZI13
import Derived.Deep.RegionHeld3
set_option maxHeartbeats 8000000
set_option maxRecDepth 100000
namespace Go.Proofs.YtnmomlaimffonaaGreat.WExactTerminates
open Go.RowKit Go.Lib Com Mem YtnmomlaimffonaaGreat.Os Tr Gd Oc Rn
theorem walkTerminates (w : World) (v_aP : Value) (p : Pg) (h_aP : PgAt w w.heap.size v_aP p) (A_aInput : Option Addr) (c_aInput : Nat) (S : List Int) (h_aInput : Rd w w.heap.size A_aInput (S.map (Value.int .i64))) (_hm_aInput : ∀ x ∈ S, (Lit.int .i64 x).wf = true) (_hl_aInput : S.length ≤ 9223372036854775807) :
    Calls Tryz.prog 6 #[v_aP, .slice A_aInput S.length c_aInput] w fun e w' => e = .returned (.bool true) ∧ Below w.heap.size w w' := by
  obtain ⟨A_aP, l_aP, c_aP, B_aP, lb_aP, cb_aP, f_aP⟩ := h_aP.form
  subst f_aP
  have hbx := box_below (w) (.cells #[.slice A_aP l_aP c_aP, .slice B_aP lb_aP cb_aP] 41)
  have q_aP := box_blk2 (w) A_aP l_aP c_aP B_aP lb_aP cb_aP 41
  have bx_aP := hid q_aP
  clear q_aP
  have Y0 := hid hbx
  clear hbx
  generalize hw0 : ((w).alloc (.cells #[.slice A_aP l_aP c_aP, .slice B_aP lb_aP cb_aP] 41)) = W0 at *
  have Z0 := Y0
  by_cases hbig_aInput : 1048576 < S.length
  · have t_aInput : decide (1048576 < (S.length : Int)) = true := decide_eq_true (by omega)
    go_enter Tryz.func6, Tryz.ntmps6
    obtain ⟨b0_aP, b1_aP⟩ := two bx_aP.out
    go_wp2_with fail
    go_ret
    exact ⟨rfl, Z0.out⟩
  have t_aInput : decide (1048576 < (S.length : Int)) = false := decide_eq_false (by omega)
  have hz_aInput : S.length ≤ 1048576 := by omega
  by_cases hsm_aP : 1048576 < ((szP8 p : Nat) : Int)
  · have hsz_aP := hid (fun (w1 : World) (hb : Below w.heap.size w w1) => szP_over p (1048576) w1 _ (h_aP.go hb) (by omega) (by omega) (by omega))
    go_enter Tryz.func6, Tryz.ntmps6
    obtain ⟨b0_aP, b1_aP⟩ := two bx_aP.out
    go_wp2_with fail
    refine (hsz_aP.out _ Z0.out).mono ?_
    rintro e wz1 ⟨rfl, hb⟩
    have Z1 := hid (Z0.out.trans (hb.mono Z0.out.size))
    replace bx_aP := hid (bx_aP.out.below hb bx_aP.out.lt)
    clear hb
    clear b0_aP b1_aP
    obtain ⟨b0_aP, b1_aP⟩ := two bx_aP.out
    go_wp2_with fail
    go_ret
    exact ⟨rfl, Z1.out⟩
  have hsz_aP := hid (fun (w1 : World) (hb : Below w.heap.size w w1) => szP_fit p (1048576) w1 _ (h_aP.go hb) (by omega) (by omega) (by omega))
  have hz_aP : szP8 p ≤ 1048576 := by omega
  have t_aP : decide (1048576 - ((szP8 p : Nat) : Int) < 0) = false := decide_eq_false (by omega)
  have cmp0 : ((termB p S) != (termB p S)) = false := bne_self_eq_false _
  have to_aP := hid (fun (w1 : World) (hb : Below w.heap.size w w1) => toP_own p w1 _ (h_aP.go hb) hz_aP)
  have to_aInput := hid (fun (w1 : World) (hb : Below w.heap.size w w1) => toI_own A_aInput c_aInput S w w1 h_aInput (by omega) hb)
  go_enter Tryz.func6, Tryz.ntmps6
  obtain ⟨b0_aP, b1_aP⟩ := two bx_aP.out
  go_wp2_with fail
  refine (hsz_aP.out _ Z0.out).mono ?_
  rintro e wz1 ⟨rfl, hb⟩
  have Z1 := hid (Z0.out.trans (hb.mono Z0.out.size))
  replace bx_aP := hid (bx_aP.out.below hb bx_aP.out.lt)
  clear hb
  clear b0_aP b1_aP
  obtain ⟨b0_aP, b1_aP⟩ := two bx_aP.out
  go_wp2_with fail
  have B0 := Z1
  have s0 := B0.out.size
  refine (to_aP.out _ B0.out).mono ?_
  rintro e W1 ⟨r_t1, rfl, o_t1, hb⟩
  have s1 := hb.size
  have o_t1 := hid o_t1
  replace bx_aP := hid (bx_aP.out.below hb bx_aP.out.lt)
  have B1 := hid (B0.out.trans (hb.mono (by omega)))
  clear hb
  clear b0_aP b1_aP
  obtain ⟨b0_aP, b1_aP⟩ := two bx_aP.out
  go_wp2_with fail
  refine (to_aInput.out _ B1.out).mono ?_
  rintro e W2 ⟨rfl, o_t2, hb⟩
  have s2 := hb.size
  replace o_t1 := hid (o_t1.out.same (same_below hb (by omega)))
  have o_t2 := hid o_t2
  replace bx_aP := hid (bx_aP.out.below hb bx_aP.out.lt)
  have B2 := hid (B1.out.trans (hb.mono (by omega)))
  clear hb
  clear b0_aP b1_aP
  obtain ⟨b0_aP, b1_aP⟩ := two bx_aP.out
  go_wp2_with fail
  refine (sterm_own _ o_t1.out o_t2.out hz_aP hz_aInput).mono ?_
  rintro e W3 ⟨rfl, hb⟩
  clear o_t1
  clear o_t2
  have s3 := hb.size
  replace bx_aP := hid (bx_aP.out.below hb bx_aP.out.lt)
  have B3 := hid (B2.out.trans (hb.mono (by omega)))
  clear hb
  clear b0_aP b1_aP
  obtain ⟨b0_aP, b1_aP⟩ := two bx_aP.out
  go_wp2_with fail
  refine (to_aP.out _ B3.out).mono ?_
  rintro e W4 ⟨r_t3, rfl, o_t3, hb⟩
  have s4 := hb.size
  have o_t3 := hid o_t3
  replace bx_aP := hid (bx_aP.out.below hb bx_aP.out.lt)
  have B4 := hid (B3.out.trans (hb.mono (by omega)))
  clear hb
  clear b0_aP b1_aP
  obtain ⟨A_x0, l_x0, c_x0, B_x0, lb_x0, cb_x0, rfl⟩ := o_t3.out.form
  have hb := box_below W4 (.cells #[.slice A_x0 l_x0 c_x0, .slice B_x0 lb_x0 cb_x0] 27)
  have bx_x0 := hid (box_blk2 W4 A_x0 l_x0 c_x0 B_x0 lb_x0 cb_x0 27)
  have s5 := hb.size
  replace o_t3 := hid (o_t3.out.same (same_below hb (by omega)))
  replace bx_aP := hid (bx_aP.out.below hb bx_aP.out.lt)
  have B5 := hid (B4.out.trans (hb.mono (by omega)))
  clear hb
  obtain ⟨b0_aP, b1_aP⟩ := two bx_aP.out
  obtain ⟨b0_x0, b1_x0⟩ := two bx_x0.out
  go_wp2_with fail
  generalize (W4.alloc (.cells #[.slice A_x0 l_x0 c_x0, .slice B_x0 lb_x0 cb_x0] 27)) = W5 at *
  refine (to_aInput.out _ B5.out).mono ?_
  rintro e W6 ⟨rfl, o_t4, hb⟩
  have s6 := hb.size
  replace o_t3 := hid (o_t3.out.same (same_below hb (by omega)))
  have o_t4 := hid o_t4
  replace bx_aP := hid (bx_aP.out.below hb bx_aP.out.lt)
  replace bx_x0 := hid (bx_x0.out.below hb bx_x0.out.lt)
  have B6 := hid (B5.out.trans (hb.mono (by omega)))
  clear hb
  clear b0_aP b1_aP b0_x0 b1_x0
  obtain ⟨b0_aP, b1_aP⟩ := two bx_aP.out
  obtain ⟨b0_x0, b1_x0⟩ := two bx_x0.out
  go_wp2_with fail
  refine (iterm_own _ o_t3.out o_t4.out hz_aP hz_aInput).mono ?_
  rintro e W7 ⟨rfl, hb⟩
  have s7 := hb.size
  replace o_t3 := hid (o_t3.out.same (same_below hb (by omega)))
  replace o_t4 := hid (o_t4.out.same (same_below hb (by omega)))
  replace bx_aP := hid (bx_aP.out.below hb bx_aP.out.lt)
  replace bx_x0 := hid (bx_x0.out.below hb bx_x0.out.lt)
  have B7 := hid (B6.out.trans (hb.mono (by omega)))
  clear hb
  clear b0_aP b1_aP b0_x0 b1_x0
  obtain ⟨b0_aP, b1_aP⟩ := two bx_aP.out
  obtain ⟨b0_x0, b1_x0⟩ := two bx_x0.out
  go_wp2_with fail
  go_region_held3 (fun w' => (w'.cell? ⟨w.heap.size, 0, none⟩ = some (.slice A_aP l_aP c_aP) ∧ w'.cell? ⟨w.heap.size, 1, none⟩ = some (.slice B_aP lb_aP cb_aP)) ∧ (w'.cell? ⟨W4.heap.size, 0, none⟩ = some (.slice A_x0 l_x0 c_x0) ∧ w'.cell? ⟨W4.heap.size, 1, none⟩ = some (.slice B_x0 lb_x0 cb_x0))) (first | (exact ⟨q1, p1⟩) | (exact ⟨q2, p2⟩) | go_keep)
    (first
     | (go_at_call 18; refine (to_aP.out _ (B7.out.trans ((Below.refl _ _).drew.mono B7.out.size))).mono ?_; rintro e W8 ⟨r_t5, rfl, o_t5, hb⟩; have s8 : W7.heap.size ≤ W8.heap.size := hb.size; have B8 := hid (B7.out.trans (((Below.refl _ _).drew.trans hb).mono B7.out.size)); have bx1_aP := hid (bx_aP.out.below ((Below.refl _ _).drew.trans hb) bx_aP.out.lt); have bx1_x0 := hid (bx_x0.out.below ((Below.refl _ _).drew.trans hb) bx_x0.out.lt); have o1_t3 := hid (o_t3.out.same (same_below (B := W7.heap.size) ((Below.refl _ _).drew.trans hb) (by omega))); have o1_t4 := hid (o_t4.out.same (same_below (B := W7.heap.size) ((Below.refl _ _).drew.trans hb) (by omega))); have q1 := two bx1_aP.out; have p1 := two bx1_x0.out; have o_t5 := hid o_t5; clear hb)
     | (go_at_call 21; refine (eqP_own _ o1_t3.out o_t5.out).mono ?_; rintro e W9 ⟨rfl, hb⟩; have s9 := hb.size; have B9 := hid (B8.out.trans (hb.mono B8.out.size)); have bx2_aP := hid (bx1_aP.out.below hb bx1_aP.out.lt); have bx2_x0 := hid (bx1_x0.out.below hb bx1_x0.out.lt); have o2_t3 := hid (o1_t3.out.same (same_below hb (by omega))); have o2_t4 := hid (o1_t4.out.same (same_below hb (by omega))); have q2 := two bx2_aP.out; have p2 := two bx2_x0.out; clear hb))
  clear b0_aP b1_aP b0_x0 b1_x0
  clear q1 p1 q2 p2 o_t5 bx_aP bx1_aP bx_x0 bx1_x0 o_t3 o1_t3 o_t4 o1_t4
  have bx_aP := bx2_aP
  clear bx2_aP
  have bx_x0 := bx2_x0
  clear bx2_x0
  have o_t3 := o2_t3
  clear o2_t3
  have o_t4 := o2_t4
  clear o2_t4
  obtain ⟨b0_aP, b1_aP⟩ := two bx_aP.out
  obtain ⟨b0_x0, b1_x0⟩ := two bx_x0.out
  go_wp2_with fail
  refine (to_aInput.out _ B9.out).mono ?_
  rintro e W10 ⟨rfl, o_t6, hb⟩
  have s10 := hb.size
  replace o_t3 := hid (o_t3.out.same (same_below hb (by omega)))
  replace o_t4 := hid (o_t4.out.same (same_below hb (by omega)))
  have o_t6 := hid o_t6
  replace bx_aP := hid (bx_aP.out.below hb bx_aP.out.lt)
  replace bx_x0 := hid (bx_x0.out.below hb bx_x0.out.lt)
  have B10 := hid (B9.out.trans (hb.mono (by omega)))
  clear hb
  clear b0_aP b1_aP b0_x0 b1_x0
  obtain ⟨b0_aP, b1_aP⟩ := two bx_aP.out
  obtain ⟨b0_x0, b1_x0⟩ := two bx_x0.out
  go_wp2_with fail
  refine (eqI_own _ o_t4.out o_t6.out).mono ?_
  rintro e W11 ⟨rfl, hb⟩
  clear o_t6
  have s11 := hb.size
  replace o_t3 := hid (o_t3.out.same (same_below hb (by omega)))
  replace o_t4 := hid (o_t4.out.same (same_below hb (by omega)))
  replace bx_aP := hid (bx_aP.out.below hb bx_aP.out.lt)
  replace bx_x0 := hid (bx_x0.out.below hb bx_x0.out.lt)
  have B11 := hid (B10.out.trans (hb.mono (by omega)))
  clear hb
  clear b0_aP b1_aP b0_x0 b1_x0
  obtain ⟨b0_aP, b1_aP⟩ := two bx_aP.out
  obtain ⟨b0_x0, b1_x0⟩ := two bx_x0.out
  go_wp2_with fail
  go_ret
  exact ⟨rfl, B11.out⟩
end Go.Proofs.YtnmomlaimffonaaGreat.WExactTerminates
