/- FnExactIsValidProgram: the law's walk, written by program out of the law's own text. -/
import Derived.Test.YteioojdgipodjaaGreatZXi
import Derived.Deep.RegionHeld3
set_option maxRecDepth 100000
namespace Go.Proofs.YteioojdgipodjaaGreat.WExactIsValidProgram
open Go.RowKit Go.Lib Go.Proofs.YteioojdgipodjaaGreat.Com Go.Proofs.YteioojdgipodjaaGreat.Mem Go.Proofs.YteioojdgipodjaaGreat.Os Go.Proofs.YteioojdgipodjaaGreat.Tr Go.Proofs.YteioojdgipodjaaGreat.Gd Go.Proofs.YteioojdgipodjaaGreat.Sr
set_option maxHeartbeats 8000000 in
theorem walkIsValidProgram (w : World) (v_aP : Value) (p : Pg) (h_aP : PgAt w w.heap.size v_aP p) :
    Calls Tryz.prog 4 #[v_aP] w fun e w' => e = .returned (.bool true) ∧ Below w.heap.size w w' := by
  obtain ⟨A_aP, l_aP, c_aP, B_aP, lb_aP, cb_aP, f_aP⟩ := h_aP.form
  subst f_aP
  have hbx := box_below (w) (.cells #[.slice A_aP l_aP c_aP, .slice B_aP lb_aP cb_aP] 38)
  have q_aP := box_blk2 (w) A_aP l_aP c_aP B_aP lb_aP cb_aP 38
  have bx_aP := hid q_aP
  clear q_aP
  have Y0 := hid hbx
  clear hbx
  generalize hw0 : ((w).alloc (.cells #[.slice A_aP l_aP c_aP, .slice B_aP lb_aP cb_aP] 38)) = W0 at *
  have Z0 := Y0
  by_cases hsm_aP : 1048576 < ((szP8 p : Nat) : Int)
  · have hsz_aP := hid (fun (w1 : World) (hb : Below w.heap.size w w1) => szP_over p (1048576) w1 _ (h_aP.go hb) (by omega) (by omega) (by omega))
    go_enter Tryz.func4, Tryz.ntmps4
    obtain ⟨b0_aP, b1_aP⟩ := two bx_aP.out
    go_wp2_with fail
    refine (hsz_aP.out _ Z0.out).mono ?_
    rintro e wz1 ⟨rfl, hb⟩
    have Z1 := hid (Z0.out.trans (hb.mono Z0.out.size))
    replace bx_aP := hid (bx_aP.out.below hb bx_aP.out.lt)
    clear hb
    clear b0_aP b1_aP
    obtain ⟨b0_aP, b1_aP⟩ := two bx_aP.out
    go_wp2_with fail
    go_ret
    exact ⟨rfl, Z1.out⟩
  have hsz_aP := hid (fun (w1 : World) (hb : Below w.heap.size w w1) => szP_fit p (1048576) w1 _ (h_aP.go hb) (by omega) (by omega) (by omega))
  have hz_aP : szP8 p ≤ 1048576 := by omega
  have t_aP : decide (1048576 - ((szP8 p : Nat) : Int) < 0) = false := decide_eq_false (by omega)
  have cmp0 : ((okP p) != (okP p)) = false := bne_self_eq_false _
  have to_aP := hid (fun (w1 : World) (hb : Below w.heap.size w w1) => toP_own p w1 _ (h_aP.go hb) hz_aP)
  go_enter Tryz.func4, Tryz.ntmps4
  obtain ⟨b0_aP, b1_aP⟩ := two bx_aP.out
  go_wp2_with fail
  refine (hsz_aP.out _ Z0.out).mono ?_
  rintro e wz1 ⟨rfl, hb⟩
  have Z1 := hid (Z0.out.trans (hb.mono Z0.out.size))
  replace bx_aP := hid (bx_aP.out.below hb bx_aP.out.lt)
  clear hb
  clear b0_aP b1_aP
  obtain ⟨b0_aP, b1_aP⟩ := two bx_aP.out
  go_wp2_with fail
  have B0 := Z1
  have s0 := B0.out.size
  refine (to_aP.out _ B0.out).mono ?_
  rintro e W1 ⟨r_t1, rfl, o_t1, hb⟩
  have s1 := hb.size
  have o_t1 := hid o_t1
  replace bx_aP := hid (bx_aP.out.below hb bx_aP.out.lt)
  have B1 := hid (B0.out.trans (hb.mono (by omega)))
  clear hb
  clear b0_aP b1_aP
  obtain ⟨b0_aP, b1_aP⟩ := two bx_aP.out
  go_wp2_with fail
  refine (svalidP_own _ o_t1.out hz_aP).mono ?_
  rintro e W2 ⟨rfl, hb⟩
  clear o_t1
  have s2 := hb.size
  replace bx_aP := hid (bx_aP.out.below hb bx_aP.out.lt)
  have B2 := hid (B1.out.trans (hb.mono (by omega)))
  clear hb
  clear b0_aP b1_aP
  obtain ⟨b0_aP, b1_aP⟩ := two bx_aP.out
  go_wp2_with fail
  refine (to_aP.out _ B2.out).mono ?_
  rintro e W3 ⟨r_t2, rfl, o_t2, hb⟩
  have s3 := hb.size
  have o_t2 := hid o_t2
  replace bx_aP := hid (bx_aP.out.below hb bx_aP.out.lt)
  have B3 := hid (B2.out.trans (hb.mono (by omega)))
  clear hb
  clear b0_aP b1_aP
  obtain ⟨A_x0, l_x0, c_x0, B_x0, lb_x0, cb_x0, rfl⟩ := o_t2.out.form
  have hb := box_below W3 (.cells #[.slice A_x0 l_x0 c_x0, .slice B_x0 lb_x0 cb_x0] 27)
  have bx_x0 := hid (box_blk2 W3 A_x0 l_x0 c_x0 B_x0 lb_x0 cb_x0 27)
  have s4 := hb.size
  replace o_t2 := hid (o_t2.out.same (same_below hb (by omega)))
  replace bx_aP := hid (bx_aP.out.below hb bx_aP.out.lt)
  have B4 := hid (B3.out.trans (hb.mono (by omega)))
  clear hb
  obtain ⟨b0_aP, b1_aP⟩ := two bx_aP.out
  obtain ⟨b0_x0, b1_x0⟩ := two bx_x0.out
  go_wp2_with fail
  generalize (W3.alloc (.cells #[.slice A_x0 l_x0 c_x0, .slice B_x0 lb_x0 cb_x0] 27)) = W4 at *
  refine (ivalidP_own _ o_t2.out hz_aP).mono ?_
  rintro e W5 ⟨rfl, hb⟩
  have s5 := hb.size
  replace o_t2 := hid (o_t2.out.same (same_below hb (by omega)))
  replace bx_aP := hid (bx_aP.out.below hb bx_aP.out.lt)
  replace bx_x0 := hid (bx_x0.out.below hb bx_x0.out.lt)
  have B5 := hid (B4.out.trans (hb.mono (by omega)))
  clear hb
  clear b0_aP b1_aP b0_x0 b1_x0
  obtain ⟨b0_aP, b1_aP⟩ := two bx_aP.out
  obtain ⟨b0_x0, b1_x0⟩ := two bx_x0.out
  go_wp2_with fail
  go_region_held3 (fun w' => (w'.cell? ⟨w.heap.size, 0, none⟩ = some (.slice A_aP l_aP c_aP) ∧ w'.cell? ⟨w.heap.size, 1, none⟩ = some (.slice B_aP lb_aP cb_aP)) ∧ (w'.cell? ⟨W3.heap.size, 0, none⟩ = some (.slice A_x0 l_x0 c_x0) ∧ w'.cell? ⟨W3.heap.size, 1, none⟩ = some (.slice B_x0 lb_x0 cb_x0))) (first | (exact ⟨q1, p1⟩) | (exact ⟨q2, p2⟩) | go_keep)
    (first
     | (go_at_call 20; refine (to_aP.out _ (B5.out.trans ((Below.refl _ _).drew.mono B5.out.size))).mono ?_; rintro e W6 ⟨r_t3, rfl, o_t3, hb⟩; have s6 : W5.heap.size ≤ W6.heap.size := hb.size; have B6 := hid (B5.out.trans (((Below.refl _ _).drew.trans hb).mono B5.out.size)); have bx1_aP := hid (bx_aP.out.below ((Below.refl _ _).drew.trans hb) bx_aP.out.lt); have bx1_x0 := hid (bx_x0.out.below ((Below.refl _ _).drew.trans hb) bx_x0.out.lt); have o1_t2 := hid (o_t2.out.same (same_below (B := W5.heap.size) ((Below.refl _ _).drew.trans hb) (by omega))); have q1 := two bx1_aP.out; have p1 := two bx1_x0.out; have o_t3 := hid o_t3; clear hb)
     | (go_at_call 21; refine (eqP_own _ o1_t2.out o_t3.out).mono ?_; rintro e W7 ⟨rfl, hb⟩; have s7 := hb.size; have B7 := hid (B6.out.trans (hb.mono B6.out.size)); have bx2_aP := hid (bx1_aP.out.below hb bx1_aP.out.lt); have bx2_x0 := hid (bx1_x0.out.below hb bx1_x0.out.lt); have o2_t2 := hid (o1_t2.out.same (same_below hb (by omega))); have q2 := two bx2_aP.out; have p2 := two bx2_x0.out; clear hb))
  clear b0_aP b1_aP b0_x0 b1_x0
  clear q1 p1 q2 p2 o_t3 bx_aP bx1_aP bx_x0 bx1_x0 o_t2 o1_t2
  have bx_aP := bx2_aP
  clear bx2_aP
  have bx_x0 := bx2_x0
  clear bx2_x0
  have o_t2 := o2_t2
  clear o2_t2
  obtain ⟨b0_aP, b1_aP⟩ := two bx_aP.out
  obtain ⟨b0_x0, b1_x0⟩ := two bx_x0.out
  go_wp2_with fail
  go_ret
  exact ⟨rfl, B7.out⟩
end Go.Proofs.YteioojdgipodjaaGreat.WExactIsValidProgram
