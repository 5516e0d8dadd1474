/- FnExactDepthOfExpr: the law's walk, written by program out of the law's own text. -/
import Derived.Test.YteioojdgipodjaaZXm
import Derived.Deep.RegionHeld3
set_option maxRecDepth 100000
namespace Go.Proofs.Yteioojdgipodjaa.WExactDepthOfExpr
open Go.RowKit Go.Lib Go.Proofs.Yteioojdgipodjaa.Com Go.Proofs.Yteioojdgipodjaa.Mem Go.Proofs.Yteioojdgipodjaa.Os Go.Proofs.Yteioojdgipodjaa.Tr
set_option maxHeartbeats 8000000 in
theorem walkDepthOfExpr (w : World) (v_aE : Value) (t : T) (h_aE : Ex w w.heap.size v_aE t) :
    Calls Try.prog 9 #[v_aE] w fun e w' => e = .returned (.bool true) ∧ Below w.heap.size w w' := by
  obtain ⟨k_aE, n_aE, s_aE, A_aE, l_aE, c_aE, f_aE⟩ := h_aE.form
  subst f_aE
  have hbx := box_below (w) (.cells #[.int .i64 k_aE, .int .i64 n_aE, sv s_aE, .slice A_aE l_aE c_aE] 55)
  have q_aE := box_blk (w) k_aE n_aE s_aE A_aE l_aE c_aE 55
  have bx_aE := hid q_aE
  clear q_aE
  have Y0 := hid hbx
  clear hbx
  generalize hw0 : ((w).alloc (.cells #[.int .i64 k_aE, .int .i64 n_aE, sv s_aE, .slice A_aE l_aE c_aE] 55)) = W0 at *
  have Z0 := Y0
  by_cases hsm_aE : 1048576 < ((szT t : Nat) : Int)
  · have hsz_aE := hid (fun (w1 : World) (hb : Below w.heap.size w w1) => szE_over t (1048576) w1 _ (h_aE.go hb) (by omega) (by omega) (by omega))
    go_enter Try.func9, Try.ntmps9
    obtain ⟨b0_aE, b1_aE, b2_aE, b3_aE⟩ := four bx_aE.out
    go_wp2_with fail
    refine (hsz_aE.out _ Z0.out).mono ?_
    rintro e wz1 ⟨rfl, hb⟩
    have Z1 := hid (Z0.out.trans (hb.mono Z0.out.size))
    replace bx_aE := hid (bx_aE.out.below hb bx_aE.out.lt)
    clear hb
    clear b0_aE b1_aE b2_aE b3_aE
    obtain ⟨b0_aE, b1_aE, b2_aE, b3_aE⟩ := four bx_aE.out
    go_wp2_with fail
    go_ret
    exact ⟨rfl, Z1.out⟩
  have hsz_aE := hid (fun (w1 : World) (hb : Below w.heap.size w w1) => szE_fit t (1048576) w1 _ (h_aE.go hb) (by omega) (by omega) (by omega))
  have hz_aE : szT t ≤ 1048576 := by omega
  have t_aE : decide (1048576 - ((szT t : Nat) : Int) < 0) = false := decide_eq_false (by omega)
  have cmp0 : (((depT t : Int)) != ((depT t : Int))) = false := bne_self_eq_false _
  have to_aE := hid (fun (w1 : World) (hb : Below w.heap.size w w1) => toE_own t w1 _ (h_aE.go hb) hz_aE)
  go_enter Try.func9, Try.ntmps9
  obtain ⟨b0_aE, b1_aE, b2_aE, b3_aE⟩ := four bx_aE.out
  go_wp2_with fail
  refine (hsz_aE.out _ Z0.out).mono ?_
  rintro e wz1 ⟨rfl, hb⟩
  have Z1 := hid (Z0.out.trans (hb.mono Z0.out.size))
  replace bx_aE := hid (bx_aE.out.below hb bx_aE.out.lt)
  clear hb
  clear b0_aE b1_aE b2_aE b3_aE
  obtain ⟨b0_aE, b1_aE, b2_aE, b3_aE⟩ := four bx_aE.out
  go_wp2_with fail
  have B0 := Z1
  have s0 := B0.out.size
  refine (to_aE.out _ B0.out).mono ?_
  rintro e W1 ⟨r_t1, rfl, o_t1, hb⟩
  have s1 := hb.size
  have o_t1 := hid o_t1
  replace bx_aE := hid (bx_aE.out.below hb bx_aE.out.lt)
  have B1 := hid (B0.out.trans (hb.mono (by omega)))
  clear hb
  clear b0_aE b1_aE b2_aE b3_aE
  obtain ⟨b0_aE, b1_aE, b2_aE, b3_aE⟩ := four bx_aE.out
  go_wp2_with fail
  refine (sdepth_own _ o_t1.out hz_aE).mono ?_
  rintro e W2 ⟨rfl, hb⟩
  clear o_t1
  have s2 := hb.size
  replace bx_aE := hid (bx_aE.out.below hb bx_aE.out.lt)
  have B2 := hid (B1.out.trans (hb.mono (by omega)))
  clear hb
  clear b0_aE b1_aE b2_aE b3_aE
  obtain ⟨b0_aE, b1_aE, b2_aE, b3_aE⟩ := four bx_aE.out
  go_wp2_with fail
  refine (to_aE.out _ B2.out).mono ?_
  rintro e W3 ⟨r_t2, rfl, o_t2, hb⟩
  have s3 := hb.size
  have o_t2 := hid o_t2
  replace bx_aE := hid (bx_aE.out.below hb bx_aE.out.lt)
  have B3 := hid (B2.out.trans (hb.mono (by omega)))
  clear hb
  clear b0_aE b1_aE b2_aE b3_aE
  obtain ⟨k_x0, n_x0, s_x0, A_x0, l_x0, c_x0, rfl⟩ := o_t2.out.form
  have hb := box_below W3 (.cells #[.int .i64 k_x0, .int .i64 n_x0, sv s_x0, .slice A_x0 l_x0 c_x0] 46)
  have bx_x0 := hid (box_blk W3 k_x0 n_x0 s_x0 A_x0 l_x0 c_x0 46)
  have s4 := hb.size
  replace o_t2 := hid (o_t2.out.same (same_below hb (by omega)))
  replace bx_aE := hid (bx_aE.out.below hb bx_aE.out.lt)
  have B4 := hid (B3.out.trans (hb.mono (by omega)))
  clear hb
  obtain ⟨b0_aE, b1_aE, b2_aE, b3_aE⟩ := four bx_aE.out
  obtain ⟨b0_x0, b1_x0, b2_x0, b3_x0⟩ := four bx_x0.out
  go_wp2_with fail
  generalize (W3.alloc (.cells #[.int .i64 k_x0, .int .i64 n_x0, sv s_x0, .slice A_x0 l_x0 c_x0] 46)) = W4 at *
  refine (depth_own _ o_t2.out hz_aE).mono ?_
  rintro e W5 ⟨rfl, hb⟩
  have s5 := hb.size
  replace o_t2 := hid (o_t2.out.same (same_below hb (by omega)))
  replace bx_aE := hid (bx_aE.out.below hb bx_aE.out.lt)
  replace bx_x0 := hid (bx_x0.out.below hb bx_x0.out.lt)
  have B5 := hid (B4.out.trans (hb.mono (by omega)))
  clear hb
  clear b0_aE b1_aE b2_aE b3_aE b0_x0 b1_x0 b2_x0 b3_x0
  obtain ⟨b0_aE, b1_aE, b2_aE, b3_aE⟩ := four bx_aE.out
  obtain ⟨b0_x0, b1_x0, b2_x0, b3_x0⟩ := four bx_x0.out
  go_wp2_with fail
  go_region_held3 (fun w' => (w'.cell? ⟨w.heap.size, 0, none⟩ = some (.int .i64 k_aE) ∧ w'.cell? ⟨w.heap.size, 1, none⟩ = some (.int .i64 n_aE) ∧ w'.cell? ⟨w.heap.size, 2, none⟩ = some (sv s_aE) ∧ w'.cell? ⟨w.heap.size, 3, none⟩ = some (.slice A_aE l_aE c_aE)) ∧ (w'.cell? ⟨W3.heap.size, 0, none⟩ = some (.int .i64 k_x0) ∧ w'.cell? ⟨W3.heap.size, 1, none⟩ = some (.int .i64 n_x0) ∧ w'.cell? ⟨W3.heap.size, 2, none⟩ = some (sv s_x0) ∧ w'.cell? ⟨W3.heap.size, 3, none⟩ = some (.slice A_x0 l_x0 c_x0))) (first | (exact ⟨q1, p1⟩) | (exact ⟨q2, p2⟩) | go_keep)
    (first
     | (go_at_call 43; refine (to_aE.out _ (B5.out.trans ((Below.refl _ _).drew.mono B5.out.size))).mono ?_; rintro e W6 ⟨r_t3, rfl, o_t3, hb⟩; have s6 : W5.heap.size ≤ W6.heap.size := hb.size; have B6 := hid (B5.out.trans (((Below.refl _ _).drew.trans hb).mono B5.out.size)); have bx1_aE := hid (bx_aE.out.below ((Below.refl _ _).drew.trans hb) bx_aE.out.lt); have bx1_x0 := hid (bx_x0.out.below ((Below.refl _ _).drew.trans hb) bx_x0.out.lt); have o1_t2 := hid (o_t2.out.same (same_below (B := W5.heap.size) ((Below.refl _ _).drew.trans hb) (by omega))); have q1 := four bx1_aE.out; have p1 := four bx1_x0.out; have o_t3 := hid o_t3; clear hb)
     | (go_at_call 44; refine (eqE_own _ o1_t2.out o_t3.out).mono ?_; rintro e W7 ⟨rfl, hb⟩; have s7 := hb.size; have B7 := hid (B6.out.trans (hb.mono B6.out.size)); have bx2_aE := hid (bx1_aE.out.below hb bx1_aE.out.lt); have bx2_x0 := hid (bx1_x0.out.below hb bx1_x0.out.lt); have o2_t2 := hid (o1_t2.out.same (same_below hb (by omega))); have q2 := four bx2_aE.out; have p2 := four bx2_x0.out; clear hb))
  clear b0_aE b1_aE b2_aE b3_aE b0_x0 b1_x0 b2_x0 b3_x0
  clear q1 p1 q2 p2 o_t3 bx_aE bx1_aE bx_x0 bx1_x0 o_t2 o1_t2
  have bx_aE := bx2_aE
  clear bx2_aE
  have bx_x0 := bx2_x0
  clear bx2_x0
  have o_t2 := o2_t2
  clear o2_t2
  obtain ⟨b0_aE, b1_aE, b2_aE, b3_aE⟩ := four bx_aE.out
  obtain ⟨b0_x0, b1_x0, b2_x0, b3_x0⟩ := four bx_x0.out
  go_wp2_with fail
  go_ret
  exact ⟨rfl, B7.out⟩
end Go.Proofs.Yteioojdgipodjaa.WExactDepthOfExpr
