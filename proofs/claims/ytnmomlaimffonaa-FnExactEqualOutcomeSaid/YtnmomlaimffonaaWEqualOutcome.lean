/- FnExactEqualOutcome: the law's walk, written by program out of the law's own text. -/
import Derived.Test.YtnmomlaimffonaaOc11
import Derived.Deep.RegionHeld3
set_option maxRecDepth 100000
namespace Go.Proofs.Ytnmomlaimffonaa.WExactEqualOutcome
open Go.RowKit Go.Lib Go.Proofs.Ytnmomlaimffonaa.Com Go.Proofs.Ytnmomlaimffonaa.Mem Go.Proofs.Ytnmomlaimffonaa.Os Go.Proofs.Ytnmomlaimffonaa.Oc
set_option maxHeartbeats 8000000 in
theorem walkEqualOutcome (w : World) (v_aA : Value) (o : Oc) (h_aA : OcAt w w.heap.size v_aA o) (v_aB : Value) (p : Oc) (h_aB : OcAt w w.heap.size v_aB p) :
    Calls Try.prog 3 #[v_aA, v_aB] w fun e w' => e = .returned (.bool true) ∧ Below w.heap.size w w' := by
  obtain ⟨st_aA, A_aA, l_aA, c_aA, B_aA, lb_aA, cb_aA, co_aA, f_aA⟩ := h_aA.form
  subst f_aA
  obtain ⟨st_aB, A_aB, l_aB, c_aB, B_aB, lb_aB, cb_aB, co_aB, f_aB⟩ := h_aB.form
  subst f_aB
  have hbx := bxb (w) (.cells #[.int .i64 st_aA, .slice A_aA l_aA c_aA, .slice B_aA lb_aA cb_aA, .int .i64 co_aA] 24)
  have q_aA := box_blkO (w) st_aA A_aA l_aA c_aA B_aA lb_aA cb_aA co_aA 24
  have bx_aA := hid q_aA
  clear q_aA
  have Y0 := hid hbx
  clear hbx
  have hbx := bxb ((w).alloc (.cells #[.int .i64 st_aA, .slice A_aA l_aA c_aA, .slice B_aA lb_aA cb_aA, .int .i64 co_aA] 24)) (.cells #[.int .i64 st_aB, .slice A_aB l_aB c_aB, .slice B_aB lb_aB cb_aB, .int .i64 co_aB] 24)
  have q_aB := box_blkO ((w).alloc (.cells #[.int .i64 st_aA, .slice A_aA l_aA c_aA, .slice B_aA lb_aA cb_aA, .int .i64 co_aA] 24)) st_aB A_aB l_aB c_aB B_aB lb_aB cb_aB co_aB 24
  rw [size_alloc'] at q_aB
  have bx_aB := hid q_aB
  clear q_aB
  replace bx_aA := hid (bx_aA.out.below hbx bx_aA.out.lt)
  have Y1 := hid (Y0.out.trans (hbx.mono Y0.out.size))
  clear hbx
  generalize hw0 : (((w).alloc (.cells #[.int .i64 st_aA, .slice A_aA l_aA c_aA, .slice B_aA lb_aA cb_aA, .int .i64 co_aA] 24)).alloc (.cells #[.int .i64 st_aB, .slice A_aB l_aB c_aB, .slice B_aB lb_aB cb_aB, .int .i64 co_aB] 24)) = W0 at *
  have Z0 := Y1
  by_cases hsm_aA : 1048576 < ((szOc o : Nat) : Int)
  · have hsz_aA := hid (fun (w1 : World) (hb : Below w.heap.size w w1) => szOc_over o (1048576) w1 _ (h_aA.go hb) (by omega) (by omega) (by omega))
    go_enter Try.func3, Try.ntmps3
    obtain ⟨b0_aA, b1_aA, b2_aA, b3_aA⟩ := fourO bx_aA.out
    obtain ⟨b0_aB, b1_aB, b2_aB, b3_aB⟩ := fourO bx_aB.out
    go_wp2_with fail
    refine (hsz_aA.out _ Z0.out).mono ?_
    rintro e wz1 ⟨rfl, hb⟩
    have Z1 := hid (Z0.out.trans (hb.mono Z0.out.size))
    replace bx_aA := hid (bx_aA.out.below hb bx_aA.out.lt)
    replace bx_aB := hid (bx_aB.out.below hb bx_aB.out.lt)
    clear hb
    clear b0_aA b1_aA b2_aA b3_aA b0_aB b1_aB b2_aB b3_aB
    obtain ⟨b0_aA, b1_aA, b2_aA, b3_aA⟩ := fourO bx_aA.out
    obtain ⟨b0_aB, b1_aB, b2_aB, b3_aB⟩ := fourO bx_aB.out
    go_wp2_with fail
    go_ret
    exact ⟨rfl, Z1.out⟩
  have hsz_aA := hid (fun (w1 : World) (hb : Below w.heap.size w w1) => szOc_fit o (1048576) w1 _ (h_aA.go hb) (by omega) (by omega) (by omega))
  have hz_aA : szOc o ≤ 1048576 := by omega
  have t_aA : decide (1048576 - ((szOc o : Nat) : Int) < 0) = false := decide_eq_false (by omega)
  by_cases hsm_aB : 1048576 - ((szOc o : Nat) : Int) < ((szOc p : Nat) : Int)
  · have hsz_aB := hid (fun (w1 : World) (hb : Below w.heap.size w w1) => szOc_over p (1048576 - ((szOc o : Nat) : Int)) w1 _ (h_aB.go hb) (by omega) (by omega) (by omega))
    go_enter Try.func3, Try.ntmps3
    obtain ⟨b0_aA, b1_aA, b2_aA, b3_aA⟩ := fourO bx_aA.out
    obtain ⟨b0_aB, b1_aB, b2_aB, b3_aB⟩ := fourO bx_aB.out
    go_wp2_with fail
    refine (hsz_aA.out _ Z0.out).mono ?_
    rintro e wz1 ⟨rfl, hb⟩
    have Z1 := hid (Z0.out.trans (hb.mono Z0.out.size))
    replace bx_aA := hid (bx_aA.out.below hb bx_aA.out.lt)
    replace bx_aB := hid (bx_aB.out.below hb bx_aB.out.lt)
    clear hb
    clear b0_aA b1_aA b2_aA b3_aA b0_aB b1_aB b2_aB b3_aB
    obtain ⟨b0_aA, b1_aA, b2_aA, b3_aA⟩ := fourO bx_aA.out
    obtain ⟨b0_aB, b1_aB, b2_aB, b3_aB⟩ := fourO bx_aB.out
    go_wp2_with fail
    refine (hsz_aB.out _ Z1.out).mono ?_
    rintro e wz2 ⟨rfl, hb⟩
    have Z2 := hid (Z1.out.trans (hb.mono Z1.out.size))
    replace bx_aA := hid (bx_aA.out.below hb bx_aA.out.lt)
    replace bx_aB := hid (bx_aB.out.below hb bx_aB.out.lt)
    clear hb
    clear b0_aA b1_aA b2_aA b3_aA b0_aB b1_aB b2_aB b3_aB
    obtain ⟨b0_aA, b1_aA, b2_aA, b3_aA⟩ := fourO bx_aA.out
    obtain ⟨b0_aB, b1_aB, b2_aB, b3_aB⟩ := fourO bx_aB.out
    go_wp2_with fail
    go_ret
    exact ⟨rfl, Z2.out⟩
  have hsz_aB := hid (fun (w1 : World) (hb : Below w.heap.size w w1) => szOc_fit p (1048576 - ((szOc o : Nat) : Int)) w1 _ (h_aB.go hb) (by omega) (by omega) (by omega))
  have hz_aB : szOc p ≤ 1048576 := by omega
  have t_aB : decide (1048576 - ((szOc o : Nat) : Int) - ((szOc p : Nat) : Int) < 0) = false := decide_eq_false (by omega)
  have cmp0 : ((eqOB o p) != (eqOB o p)) = false := bne_self_eq_false _
  have to_aA := hid (fun (w1 : World) (hb : Below w.heap.size w w1) => toOc_own o w1 _ (h_aA.go hb) hz_aA)
  have to_aB := hid (fun (w1 : World) (hb : Below w.heap.size w w1) => toOc_own p w1 _ (h_aB.go hb) hz_aB)
  go_enter Try.func3, Try.ntmps3
  obtain ⟨b0_aA, b1_aA, b2_aA, b3_aA⟩ := fourO bx_aA.out
  obtain ⟨b0_aB, b1_aB, b2_aB, b3_aB⟩ := fourO bx_aB.out
  go_wp2_with fail
  refine (hsz_aA.out _ Z0.out).mono ?_
  rintro e wz1 ⟨rfl, hb⟩
  have Z1 := hid (Z0.out.trans (hb.mono Z0.out.size))
  replace bx_aA := hid (bx_aA.out.below hb bx_aA.out.lt)
  replace bx_aB := hid (bx_aB.out.below hb bx_aB.out.lt)
  clear hb
  clear b0_aA b1_aA b2_aA b3_aA b0_aB b1_aB b2_aB b3_aB
  obtain ⟨b0_aA, b1_aA, b2_aA, b3_aA⟩ := fourO bx_aA.out
  obtain ⟨b0_aB, b1_aB, b2_aB, b3_aB⟩ := fourO bx_aB.out
  go_wp2_with fail
  refine (hsz_aB.out _ Z1.out).mono ?_
  rintro e wz2 ⟨rfl, hb⟩
  have Z2 := hid (Z1.out.trans (hb.mono Z1.out.size))
  replace bx_aA := hid (bx_aA.out.below hb bx_aA.out.lt)
  replace bx_aB := hid (bx_aB.out.below hb bx_aB.out.lt)
  clear hb
  clear b0_aA b1_aA b2_aA b3_aA b0_aB b1_aB b2_aB b3_aB
  obtain ⟨b0_aA, b1_aA, b2_aA, b3_aA⟩ := fourO bx_aA.out
  obtain ⟨b0_aB, b1_aB, b2_aB, b3_aB⟩ := fourO bx_aB.out
  go_wp2_with fail
  have B0 := Z2
  have s0 := B0.out.size
  go_region_held3 (fun w' => (w'.cell? ⟨w.heap.size, 0, none⟩ = some (.int .i64 st_aA) ∧ w'.cell? ⟨w.heap.size, 1, none⟩ = some (.slice A_aA l_aA c_aA) ∧ w'.cell? ⟨w.heap.size, 2, none⟩ = some (.slice B_aA lb_aA cb_aA) ∧ w'.cell? ⟨w.heap.size, 3, none⟩ = some (.int .i64 co_aA)) ∧ (w'.cell? ⟨w.heap.size + 1, 0, none⟩ = some (.int .i64 st_aB) ∧ w'.cell? ⟨w.heap.size + 1, 1, none⟩ = some (.slice A_aB l_aB c_aB) ∧ w'.cell? ⟨w.heap.size + 1, 2, none⟩ = some (.slice B_aB lb_aB cb_aB) ∧ w'.cell? ⟨w.heap.size + 1, 3, none⟩ = some (.int .i64 co_aB))) (first | (exact ⟨qa1, qb1⟩) | (exact ⟨qa2, qb2⟩) | (exact ⟨qa3, qb3⟩) | go_keep)
    (first
     | (go_at_call 5; refine (sEqO_own _ o1_t1.out o_t2.out ).mono ?_; rintro e W3 ⟨rfl, hb⟩; have s3 := hb.size; have B3 := hid (B2.out.trans (hb.mono B2.out.size)); have bx3_aA := hid (bx2_aA.out.below hb bx2_aA.out.lt); have bx3_aB := hid (bx2_aB.out.below hb bx2_aB.out.lt); have qa3 := fourO bx3_aA.out; have qb3 := fourO bx3_aB.out; clear hb)
     | (go_at_call 6; have _o := o_t1; clear _o; refine (to_aB.out _ B1.out).mono ?_; rintro e W2 ⟨r_t2, rfl, o_t2, hb⟩; have s2 := hb.size; have B2 := hid (B1.out.trans (hb.mono B1.out.size)); have bx2_aA := hid (bx1_aA.out.below hb bx1_aA.out.lt); have bx2_aB := hid (bx1_aB.out.below hb bx1_aB.out.lt); have o1_t1 := hid (o_t1.out.same (same_below hb (by omega))); have qa2 := fourO bx2_aA.out; have qb2 := fourO bx2_aB.out; have o_t2 := hid o_t2; clear hb)
     | (go_at_call 6; refine (to_aA.out _ (B0.out.trans ((Below.refl _ _).drew.mono B0.out.size))).mono ?_; rintro e W1 ⟨r_t1, rfl, o_t1, hb⟩; have s1 : wz2.heap.size ≤ W1.heap.size := hb.size; have B1 := hid (B0.out.trans (((Below.refl _ _).drew.trans hb).mono B0.out.size)); have bx1_aA := hid (bx_aA.out.below ((Below.refl _ _).drew.trans hb) bx_aA.out.lt); have bx1_aB := hid (bx_aB.out.below ((Below.refl _ _).drew.trans hb) bx_aB.out.lt); have qa1 := fourO bx1_aA.out; have qb1 := fourO bx1_aB.out; have o_t1 := hid o_t1; clear hb))
  clear b0_aA b1_aA b2_aA b3_aA b0_aB b1_aB b2_aB b3_aB
  clear qa1 qb1 qa2 qb2 qa3 qb3 o_t1 o1_t1 o_t2 bx_aA bx1_aA bx2_aA bx_aB bx1_aB bx2_aB
  have bx_aA := bx3_aA
  clear bx3_aA
  have bx_aB := bx3_aB
  clear bx3_aB
  obtain ⟨b0_aA, b1_aA, b2_aA, b3_aA⟩ := fourO bx_aA.out
  obtain ⟨b0_aB, b1_aB, b2_aB, b3_aB⟩ := fourO bx_aB.out
  go_wp2_with fail
  refine (to_aA.out _ B3.out).mono ?_
  rintro e W4 ⟨r_t3, rfl, o_t3, hb⟩
  have s4 := hb.size
  have o_t3 := hid o_t3
  replace bx_aA := hid (bx_aA.out.below hb bx_aA.out.lt)
  replace bx_aB := hid (bx_aB.out.below hb bx_aB.out.lt)
  have B4 := hid (B3.out.trans (hb.mono (by omega)))
  clear hb
  clear b0_aA b1_aA b2_aA b3_aA b0_aB b1_aB b2_aB b3_aB
  obtain ⟨st_x0, A_x0, l_x0, c_x0, B_x0, lb_x0, cb_x0, co_x0, rfl⟩ := o_t3.out.form
  have hb := bxb W4 (.cells #[.int .i64 st_x0, .slice A_x0 l_x0 c_x0, .slice B_x0 lb_x0 cb_x0, .int .i64 co_x0] 27)
  have bx_x0 := hid (box_blkO W4 st_x0 A_x0 l_x0 c_x0 B_x0 lb_x0 cb_x0 co_x0 27)
  have s5 := hb.size
  replace o_t3 := hid (o_t3.out.same (same_below hb (by omega)))
  replace bx_aA := hid (bx_aA.out.below hb bx_aA.out.lt)
  replace bx_aB := hid (bx_aB.out.below hb bx_aB.out.lt)
  have B5 := hid (B4.out.trans (hb.mono (by omega)))
  clear hb
  obtain ⟨b0_aA, b1_aA, b2_aA, b3_aA⟩ := fourO bx_aA.out
  obtain ⟨b0_aB, b1_aB, b2_aB, b3_aB⟩ := fourO bx_aB.out
  obtain ⟨b0_x0, b1_x0, b2_x0, b3_x0⟩ := fourO bx_x0.out
  go_wp2_with fail
  generalize (W4.alloc (.cells #[.int .i64 st_x0, .slice A_x0 l_x0 c_x0, .slice B_x0 lb_x0 cb_x0, .int .i64 co_x0] 27)) = W5 at *
  refine (to_aB.out _ B5.out).mono ?_
  rintro e W6 ⟨r_t4, rfl, o_t4, hb⟩
  have s6 := hb.size
  replace o_t3 := hid (o_t3.out.same (same_below hb (by omega)))
  have o_t4 := hid o_t4
  replace bx_aA := hid (bx_aA.out.below hb bx_aA.out.lt)
  replace bx_aB := hid (bx_aB.out.below hb bx_aB.out.lt)
  replace bx_x0 := hid (bx_x0.out.below hb bx_x0.out.lt)
  have B6 := hid (B5.out.trans (hb.mono (by omega)))
  clear hb
  clear b0_aA b1_aA b2_aA b3_aA b0_aB b1_aB b2_aB b3_aB b0_x0 b1_x0 b2_x0 b3_x0
  obtain ⟨st_x1, A_x1, l_x1, c_x1, B_x1, lb_x1, cb_x1, co_x1, rfl⟩ := o_t4.out.form
  have hb := bxb W6 (.cells #[.int .i64 st_x1, .slice A_x1 l_x1 c_x1, .slice B_x1 lb_x1 cb_x1, .int .i64 co_x1] 27)
  have bx_x1 := hid (box_blkO W6 st_x1 A_x1 l_x1 c_x1 B_x1 lb_x1 cb_x1 co_x1 27)
  have s7 := hb.size
  replace o_t3 := hid (o_t3.out.same (same_below hb (by omega)))
  replace o_t4 := hid (o_t4.out.same (same_below hb (by omega)))
  replace bx_aA := hid (bx_aA.out.below hb bx_aA.out.lt)
  replace bx_aB := hid (bx_aB.out.below hb bx_aB.out.lt)
  replace bx_x0 := hid (bx_x0.out.below hb bx_x0.out.lt)
  have B7 := hid (B6.out.trans (hb.mono (by omega)))
  clear hb
  obtain ⟨b0_aA, b1_aA, b2_aA, b3_aA⟩ := fourO bx_aA.out
  obtain ⟨b0_aB, b1_aB, b2_aB, b3_aB⟩ := fourO bx_aB.out
  obtain ⟨b0_x0, b1_x0, b2_x0, b3_x0⟩ := fourO bx_x0.out
  obtain ⟨b0_x1, b1_x1, b2_x1, b3_x1⟩ := fourO bx_x1.out
  go_wp2_with fail
  generalize (W6.alloc (.cells #[.int .i64 st_x1, .slice A_x1 l_x1 c_x1, .slice B_x1 lb_x1 cb_x1, .int .i64 co_x1] 27)) = W7 at *
  refine (iEqO_own _ o_t3.out o_t4.out).mono ?_
  rintro e W8 ⟨rfl, hb⟩
  have s8 := hb.size
  replace o_t3 := hid (o_t3.out.same (same_below hb (by omega)))
  replace o_t4 := hid (o_t4.out.same (same_below hb (by omega)))
  replace bx_aA := hid (bx_aA.out.below hb bx_aA.out.lt)
  replace bx_aB := hid (bx_aB.out.below hb bx_aB.out.lt)
  replace bx_x0 := hid (bx_x0.out.below hb bx_x0.out.lt)
  replace bx_x1 := hid (bx_x1.out.below hb bx_x1.out.lt)
  have B8 := hid (B7.out.trans (hb.mono (by omega)))
  clear hb
  clear b0_aA b1_aA b2_aA b3_aA b0_aB b1_aB b2_aB b3_aB b0_x0 b1_x0 b2_x0 b3_x0 b0_x1 b1_x1 b2_x1 b3_x1
  obtain ⟨b0_aA, b1_aA, b2_aA, b3_aA⟩ := fourO bx_aA.out
  obtain ⟨b0_aB, b1_aB, b2_aB, b3_aB⟩ := fourO bx_aB.out
  obtain ⟨b0_x0, b1_x0, b2_x0, b3_x0⟩ := fourO bx_x0.out
  obtain ⟨b0_x1, b1_x1, b2_x1, b3_x1⟩ := fourO bx_x1.out
  go_wp2_with fail
  go_region_held3 (fun w' => (w'.cell? ⟨w.heap.size, 0, none⟩ = some (.int .i64 st_aA) ∧ w'.cell? ⟨w.heap.size, 1, none⟩ = some (.slice A_aA l_aA c_aA) ∧ w'.cell? ⟨w.heap.size, 2, none⟩ = some (.slice B_aA lb_aA cb_aA) ∧ w'.cell? ⟨w.heap.size, 3, none⟩ = some (.int .i64 co_aA)) ∧ (w'.cell? ⟨W4.heap.size, 0, none⟩ = some (.int .i64 st_x0) ∧ w'.cell? ⟨W4.heap.size, 1, none⟩ = some (.slice A_x0 l_x0 c_x0) ∧ w'.cell? ⟨W4.heap.size, 2, none⟩ = some (.slice B_x0 lb_x0 cb_x0) ∧ w'.cell? ⟨W4.heap.size, 3, none⟩ = some (.int .i64 co_x0))) (first | (exact ⟨q1, p1⟩) | (exact ⟨q2, p2⟩) | go_keep)
    (first
     | (go_at_call 6; refine (to_aA.out _ (B8.out.trans ((Below.refl _ _).drew.mono B8.out.size))).mono ?_; rintro e W9 ⟨r_t5, rfl, o_t5, hb⟩; have s9 : W8.heap.size ≤ W9.heap.size := hb.size; have B9 := hid (B8.out.trans (((Below.refl _ _).drew.trans hb).mono B8.out.size)); have bx1_aA := hid (bx_aA.out.below ((Below.refl _ _).drew.trans hb) bx_aA.out.lt); have bx1_aB := hid (bx_aB.out.below ((Below.refl _ _).drew.trans hb) bx_aB.out.lt); have bx1_x0 := hid (bx_x0.out.below ((Below.refl _ _).drew.trans hb) bx_x0.out.lt); have bx1_x1 := hid (bx_x1.out.below ((Below.refl _ _).drew.trans hb) bx_x1.out.lt); have o1_t3 := hid (o_t3.out.same (same_below (B := W8.heap.size) ((Below.refl _ _).drew.trans hb) (by omega))); have o1_t4 := hid (o_t4.out.same (same_below (B := W8.heap.size) ((Below.refl _ _).drew.trans hb) (by omega))); have q1 := fourO bx1_aA.out; have p1 := fourO bx1_x0.out; have o_t5 := hid o_t5; clear hb)
     | (go_at_call 8; refine (eqOc_own _ o1_t3.out o_t5.out).mono ?_; rintro e W10 ⟨rfl, hb⟩; have s10 := hb.size; have B10 := hid (B9.out.trans (hb.mono B9.out.size)); have bx2_aA := hid (bx1_aA.out.below hb bx1_aA.out.lt); have bx2_aB := hid (bx1_aB.out.below hb bx1_aB.out.lt); have bx2_x0 := hid (bx1_x0.out.below hb bx1_x0.out.lt); have bx2_x1 := hid (bx1_x1.out.below hb bx1_x1.out.lt); have o2_t3 := hid (o1_t3.out.same (same_below hb (by omega))); have o2_t4 := hid (o1_t4.out.same (same_below hb (by omega))); have q2 := fourO bx2_aA.out; have p2 := fourO bx2_x0.out; clear hb))
  clear b0_aA b1_aA b2_aA b3_aA b0_aB b1_aB b2_aB b3_aB b0_x0 b1_x0 b2_x0 b3_x0 b0_x1 b1_x1 b2_x1 b3_x1
  clear q1 p1 q2 p2 o_t5 bx_aA bx1_aA bx_aB bx1_aB bx_x0 bx1_x0 bx_x1 bx1_x1 o_t3 o1_t3 o_t4 o1_t4
  have bx_aA := bx2_aA
  clear bx2_aA
  have bx_aB := bx2_aB
  clear bx2_aB
  have bx_x0 := bx2_x0
  clear bx2_x0
  have bx_x1 := bx2_x1
  clear bx2_x1
  have o_t3 := o2_t3
  clear o2_t3
  have o_t4 := o2_t4
  clear o2_t4
  obtain ⟨b0_aA, b1_aA, b2_aA, b3_aA⟩ := fourO bx_aA.out
  obtain ⟨b0_aB, b1_aB, b2_aB, b3_aB⟩ := fourO bx_aB.out
  obtain ⟨b0_x0, b1_x0, b2_x0, b3_x0⟩ := fourO bx_x0.out
  obtain ⟨b0_x1, b1_x1, b2_x1, b3_x1⟩ := fourO bx_x1.out
  go_wp2_with fail
  go_region_held3 (fun w' => (w'.cell? ⟨w.heap.size + 1, 0, none⟩ = some (.int .i64 st_aB) ∧ w'.cell? ⟨w.heap.size + 1, 1, none⟩ = some (.slice A_aB l_aB c_aB) ∧ w'.cell? ⟨w.heap.size + 1, 2, none⟩ = some (.slice B_aB lb_aB cb_aB) ∧ w'.cell? ⟨w.heap.size + 1, 3, none⟩ = some (.int .i64 co_aB)) ∧ (w'.cell? ⟨W6.heap.size, 0, none⟩ = some (.int .i64 st_x1) ∧ w'.cell? ⟨W6.heap.size, 1, none⟩ = some (.slice A_x1 l_x1 c_x1) ∧ w'.cell? ⟨W6.heap.size, 2, none⟩ = some (.slice B_x1 lb_x1 cb_x1) ∧ w'.cell? ⟨W6.heap.size, 3, none⟩ = some (.int .i64 co_x1))) (first | (exact ⟨q1, p1⟩) | (exact ⟨q2, p2⟩) | go_keep)
    (first
     | (go_at_call 6; refine (to_aB.out _ (B10.out.trans ((Below.refl _ _).drew.mono B10.out.size))).mono ?_; rintro e W11 ⟨r_t6, rfl, o_t6, hb⟩; have s11 : W10.heap.size ≤ W11.heap.size := hb.size; have B11 := hid (B10.out.trans (((Below.refl _ _).drew.trans hb).mono B10.out.size)); have bx1_aA := hid (bx_aA.out.below ((Below.refl _ _).drew.trans hb) bx_aA.out.lt); have bx1_aB := hid (bx_aB.out.below ((Below.refl _ _).drew.trans hb) bx_aB.out.lt); have bx1_x0 := hid (bx_x0.out.below ((Below.refl _ _).drew.trans hb) bx_x0.out.lt); have bx1_x1 := hid (bx_x1.out.below ((Below.refl _ _).drew.trans hb) bx_x1.out.lt); have o1_t3 := hid (o_t3.out.same (same_below (B := W10.heap.size) ((Below.refl _ _).drew.trans hb) (by omega))); have o1_t4 := hid (o_t4.out.same (same_below (B := W10.heap.size) ((Below.refl _ _).drew.trans hb) (by omega))); have q1 := fourO bx1_aB.out; have p1 := fourO bx1_x1.out; have o_t6 := hid o_t6; clear hb)
     | (go_at_call 8; refine (eqOc_own _ o1_t4.out o_t6.out).mono ?_; rintro e W12 ⟨rfl, hb⟩; have s12 := hb.size; have B12 := hid (B11.out.trans (hb.mono B11.out.size)); have bx2_aA := hid (bx1_aA.out.below hb bx1_aA.out.lt); have bx2_aB := hid (bx1_aB.out.below hb bx1_aB.out.lt); have bx2_x0 := hid (bx1_x0.out.below hb bx1_x0.out.lt); have bx2_x1 := hid (bx1_x1.out.below hb bx1_x1.out.lt); have o2_t3 := hid (o1_t3.out.same (same_below hb (by omega))); have o2_t4 := hid (o1_t4.out.same (same_below hb (by omega))); have q2 := fourO bx2_aB.out; have p2 := fourO bx2_x1.out; clear hb))
  clear b0_aA b1_aA b2_aA b3_aA b0_aB b1_aB b2_aB b3_aB b0_x0 b1_x0 b2_x0 b3_x0 b0_x1 b1_x1 b2_x1 b3_x1
  clear q1 p1 q2 p2 o_t6 bx_aA bx1_aA bx_aB bx1_aB bx_x0 bx1_x0 bx_x1 bx1_x1 o_t3 o1_t3 o_t4 o1_t4
  have bx_aA := bx2_aA
  clear bx2_aA
  have bx_aB := bx2_aB
  clear bx2_aB
  have bx_x0 := bx2_x0
  clear bx2_x0
  have bx_x1 := bx2_x1
  clear bx2_x1
  have o_t3 := o2_t3
  clear o2_t3
  have o_t4 := o2_t4
  clear o2_t4
  obtain ⟨b0_aA, b1_aA, b2_aA, b3_aA⟩ := fourO bx_aA.out
  obtain ⟨b0_aB, b1_aB, b2_aB, b3_aB⟩ := fourO bx_aB.out
  obtain ⟨b0_x0, b1_x0, b2_x0, b3_x0⟩ := fourO bx_x0.out
  obtain ⟨b0_x1, b1_x1, b2_x1, b3_x1⟩ := fourO bx_x1.out
  go_wp2_with fail
  go_ret
  exact ⟨rfl, B12.out⟩
end Go.Proofs.Ytnmomlaimffonaa.WExactEqualOutcome
