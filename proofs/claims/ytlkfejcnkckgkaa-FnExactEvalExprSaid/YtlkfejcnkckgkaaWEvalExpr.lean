/- FnExactEvalExpr: the law's walk, written by program out of the law's own text. -/
import Derived.Test.YtlkfejcnkckgkaaC4d
import Derived.Test.YtlkfejcnkckgkaaEx5
import Derived.Deep.RegionHeld3
set_option maxRecDepth 100000
namespace Go.Proofs.Ytlkfejcnkckgkaa.WExactEvalExpr
open Go.RowKit Go.Lib Go.Proofs.Ytlkfejcnkckgkaa.Com Go.Proofs.Ytlkfejcnkckgkaa.Mem Go.Proofs.Ytlkfejcnkckgkaa.Lh Go.Proofs.Ytlkfejcnkckgkaa.Os Go.Proofs.Ytlkfejcnkckgkaa.Tr
set_option maxHeartbeats 8000000 in
theorem walkEvalExpr (w : World) (v_aE : Value) (t : T) (h_aE : Ex w w.heap.size v_aE t) (A_aVars : Option Addr) (c_aVars : Nat) (L : List (List UInt8)) (h_aVars : Rd w w.heap.size A_aVars (L.map sv)) (hm_aVars : ∀ x ∈ L, x.length ≤ 9223372036854775807) (hl_aVars : L.length ≤ 9223372036854775807) (A_aState : Option Addr) (c_aState : Nat) (S : List Int) (h_aState : Rd w w.heap.size A_aState (S.map (Value.int .i64))) (_hm_aState : ∀ x ∈ S, (Lit.int .i64 x).wf = true) (_hl_aState : S.length ≤ 9223372036854775807) :
    Calls Try.prog 10 #[v_aE, .slice A_aVars L.length c_aVars, .slice A_aState S.length c_aState] w fun e w' => e = .returned (.bool true) ∧ Below w.heap.size w w' := by
  obtain ⟨k_aE, n_aE, s_aE, A_aE, l_aE, c_aE, f_aE⟩ := h_aE.form
  subst f_aE
  have hbx := box_below (w) (.cells #[.int .i64 k_aE, .int .i64 n_aE, sv s_aE, .slice A_aE l_aE c_aE] 44)
  have q_aE := box_blk (w) k_aE n_aE s_aE A_aE l_aE c_aE 44
  have bx_aE := hid q_aE
  clear q_aE
  have Y0 := hid hbx
  clear hbx
  generalize hw0 : ((w).alloc (.cells #[.int .i64 k_aE, .int .i64 n_aE, sv s_aE, .slice A_aE l_aE c_aE] 44)) = W0 at *
  have Z0 := Y0
  by_cases hbig_aState : 1048576 < S.length
  · have t_aState : decide (1048576 < (S.length : Int)) = true := decide_eq_true (by omega)
    go_enter Try.func10, Try.ntmps10
    obtain ⟨b0_aE, b1_aE, b2_aE, b3_aE⟩ := four bx_aE.out
    go_wp2_with fail
    go_ret
    exact ⟨rfl, Z0.out⟩
  have t_aState : decide (1048576 < (S.length : Int)) = false := decide_eq_false (by omega)
  have hz_aState : S.length ≤ 1048576 := by omega
  by_cases hsm_aE : 1048576 < ((szT t : Nat) : Int)
  · have hsz_aE := hid (fun (w1 : World) (hb : Below w.heap.size w w1) => szE_over t (1048576) w1 _ (h_aE.go hb) (by omega) (by omega) (by omega))
    go_enter Try.func10, Try.ntmps10
    obtain ⟨b0_aE, b1_aE, b2_aE, b3_aE⟩ := four bx_aE.out
    go_wp2_with fail
    refine (hsz_aE.out _ Z0.out).mono ?_
    rintro e wz1 ⟨rfl, hb⟩
    have Z1 := hid (Z0.out.trans (hb.mono Z0.out.size))
    replace bx_aE := hid (bx_aE.out.below hb bx_aE.out.lt)
    clear hb
    clear b0_aE b1_aE b2_aE b3_aE
    obtain ⟨b0_aE, b1_aE, b2_aE, b3_aE⟩ := four bx_aE.out
    go_wp2_with fail
    go_ret
    exact ⟨rfl, Z1.out⟩
  have hsz_aE := hid (fun (w1 : World) (hb : Below w.heap.size w w1) => szE_fit t (1048576) w1 _ (h_aE.go hb) (by omega) (by omega) (by omega))
  have hz_aE : szT t ≤ 1048576 := by omega
  have bc_aE : markC t ≤ 3145728 := by have := cnt_sz t; unfold markC; omega
  have t_aE : decide (1048576 - ((szT t : Nat) : Int) < 0) = false := decide_eq_false (by omega)
  by_cases hsm_aVars : 1048576 - ((szT t : Nat) : Int) < ((szL L : Nat) : Int)
  · have hsz_aVars := hid (fun (w1 : World) (hb : Below w.heap.size w w1) => szS_over A_aVars c_aVars L (1048576 - ((szT t : Nat) : Int)) w1 ((h_aVars.below hb).more hb.size) hm_aVars hl_aVars (by omega) (by omega) (by omega))
    go_enter Try.func10, Try.ntmps10
    obtain ⟨b0_aE, b1_aE, b2_aE, b3_aE⟩ := four bx_aE.out
    go_wp2_with fail
    refine (hsz_aE.out _ Z0.out).mono ?_
    rintro e wz1 ⟨rfl, hb⟩
    have Z1 := hid (Z0.out.trans (hb.mono Z0.out.size))
    replace bx_aE := hid (bx_aE.out.below hb bx_aE.out.lt)
    clear hb
    clear b0_aE b1_aE b2_aE b3_aE
    obtain ⟨b0_aE, b1_aE, b2_aE, b3_aE⟩ := four bx_aE.out
    go_wp2_with fail
    refine (hsz_aVars.out _ Z1.out).mono ?_
    rintro e wz ⟨rfl, rfl⟩
    go_wp2_with fail
    go_ret
    exact ⟨rfl, Z1.out⟩
  have hsz_aVars := hid (fun (w1 : World) (hb : Below w.heap.size w w1) => szS_fit A_aVars c_aVars L (1048576 - ((szT t : Nat) : Int)) w1 ((h_aVars.below hb).more hb.size) hm_aVars hl_aVars (by omega) (by omega) (by omega))
  have hz_aVars : szL L ≤ 1048576 := by omega
  have bc_aVars : L.length ≤ 1048576 := by have := szL_len L; omega
  have t_aVars : decide (1048576 - ((szT t : Nat) : Int) - ((szL L : Nat) : Int) < 0) = false := decide_eq_false (by omega)
  have cmp0 : (((evT L S t).1) != ((evT L S t).1)) = false := bne_self_eq_false _
  have cmp1 : (((evT L S t).2) != ((evT L S t).2)) = false := bne_self_eq_false _
  have to_aE := hid (fun (w1 : World) (hb : Below w.heap.size w w1) => toE_own t w1 _ (h_aE.go hb) hz_aE)
  have to_aVars := hid (fun (w1 : World) (hb : Below w.heap.size w w1) => toS_own A_aVars c_aVars L w w1 h_aVars (by have := szL_len L; omega) hb)
  have to_aState := hid (fun (w1 : World) (hb : Below w.heap.size w w1) => toI_own A_aState c_aState S w w1 h_aState (by omega) hb)
  go_enter Try.func10, Try.ntmps10
  obtain ⟨b0_aE, b1_aE, b2_aE, b3_aE⟩ := four bx_aE.out
  go_wp2_with fail
  refine (hsz_aE.out _ Z0.out).mono ?_
  rintro e wz1 ⟨rfl, hb⟩
  have Z1 := hid (Z0.out.trans (hb.mono Z0.out.size))
  replace bx_aE := hid (bx_aE.out.below hb bx_aE.out.lt)
  clear hb
  clear b0_aE b1_aE b2_aE b3_aE
  obtain ⟨b0_aE, b1_aE, b2_aE, b3_aE⟩ := four bx_aE.out
  go_wp2_with fail
  refine (hsz_aVars.out _ Z1.out).mono ?_
  rintro e wz ⟨rfl, rfl⟩
  go_wp2_with fail
  have B0 := Z1
  have s0 := B0.out.size
  refine (to_aE.out _ B0.out).mono ?_
  rintro e W1 ⟨r_t1, rfl, o_t1, hb⟩
  have s1 := hb.size
  have o_t1 := hid o_t1
  replace bx_aE := hid (bx_aE.out.below hb bx_aE.out.lt)
  have B1 := hid (B0.out.trans (hb.mono (by omega)))
  clear hb
  clear b0_aE b1_aE b2_aE b3_aE
  obtain ⟨b0_aE, b1_aE, b2_aE, b3_aE⟩ := four bx_aE.out
  go_wp2_with fail
  refine (to_aVars.out _ B1.out).mono ?_
  rintro e W2 ⟨rfl, o_t2, hb⟩
  have s2 := hb.size
  replace o_t1 := hid (o_t1.out.same (same_below hb (by omega)))
  have o_t2 := hid o_t2
  replace bx_aE := hid (bx_aE.out.below hb bx_aE.out.lt)
  have B2 := hid (B1.out.trans (hb.mono (by omega)))
  clear hb
  clear b0_aE b1_aE b2_aE b3_aE
  obtain ⟨b0_aE, b1_aE, b2_aE, b3_aE⟩ := four bx_aE.out
  go_wp2_with fail
  refine (to_aState.out _ B2.out).mono ?_
  rintro e W3 ⟨rfl, o_t3, hb⟩
  have s3 := hb.size
  replace o_t1 := hid (o_t1.out.same (same_below hb (by omega)))
  replace o_t2 := hid (o_t2.out.same (same_below hb (by omega)))
  have o_t3 := hid o_t3
  replace bx_aE := hid (bx_aE.out.below hb bx_aE.out.lt)
  have B3 := hid (B2.out.trans (hb.mono (by omega)))
  clear hb
  clear b0_aE b1_aE b2_aE b3_aE
  obtain ⟨b0_aE, b1_aE, b2_aE, b3_aE⟩ := four bx_aE.out
  go_wp2_with fail
  refine (seval_own _ o_t1.out o_t2.out o_t3.out hz_aE).mono ?_
  rintro e W4 ⟨rfl, hb⟩
  clear o_t1
  clear o_t2
  clear o_t3
  have s4 := hb.size
  replace bx_aE := hid (bx_aE.out.below hb bx_aE.out.lt)
  have B4 := hid (B3.out.trans (hb.mono (by omega)))
  clear hb
  clear b0_aE b1_aE b2_aE b3_aE
  obtain ⟨b0_aE, b1_aE, b2_aE, b3_aE⟩ := four bx_aE.out
  go_wp2_with fail
  refine (to_aE.out _ B4.out).mono ?_
  rintro e W5 ⟨r_t4, rfl, o_t4, hb⟩
  have s5 := hb.size
  have o_t4 := hid o_t4
  replace bx_aE := hid (bx_aE.out.below hb bx_aE.out.lt)
  have B5 := hid (B4.out.trans (hb.mono (by omega)))
  clear hb
  clear b0_aE b1_aE b2_aE b3_aE
  obtain ⟨k_x0, n_x0, s_x0, A_x0, l_x0, c_x0, rfl⟩ := o_t4.out.form
  have hb := box_below W5 (.cells #[.int .i64 k_x0, .int .i64 n_x0, sv s_x0, .slice A_x0 l_x0 c_x0] 26)
  have bx_x0 := hid (box_blk W5 k_x0 n_x0 s_x0 A_x0 l_x0 c_x0 26)
  have s6 := hb.size
  replace o_t4 := hid (o_t4.out.same (same_below hb (by omega)))
  replace bx_aE := hid (bx_aE.out.below hb bx_aE.out.lt)
  have B6 := hid (B5.out.trans (hb.mono (by omega)))
  clear hb
  obtain ⟨b0_aE, b1_aE, b2_aE, b3_aE⟩ := four bx_aE.out
  obtain ⟨b0_x0, b1_x0, b2_x0, b3_x0⟩ := four bx_x0.out
  go_wp2_with fail
  generalize (W5.alloc (.cells #[.int .i64 k_x0, .int .i64 n_x0, sv s_x0, .slice A_x0 l_x0 c_x0] 26)) = W6 at *
  refine (to_aVars.out _ B6.out).mono ?_
  rintro e W7 ⟨rfl, o_t5, hb⟩
  have s7 := hb.size
  replace o_t4 := hid (o_t4.out.same (same_below hb (by omega)))
  have o_t5 := hid o_t5
  replace bx_aE := hid (bx_aE.out.below hb bx_aE.out.lt)
  replace bx_x0 := hid (bx_x0.out.below hb bx_x0.out.lt)
  have B7 := hid (B6.out.trans (hb.mono (by omega)))
  clear hb
  clear b0_aE b1_aE b2_aE b3_aE b0_x0 b1_x0 b2_x0 b3_x0
  obtain ⟨b0_aE, b1_aE, b2_aE, b3_aE⟩ := four bx_aE.out
  obtain ⟨b0_x0, b1_x0, b2_x0, b3_x0⟩ := four bx_x0.out
  go_wp2_with fail
  refine (to_aState.out _ B7.out).mono ?_
  rintro e W8 ⟨rfl, o_t6, hb⟩
  have s8 := hb.size
  replace o_t4 := hid (o_t4.out.same (same_below hb (by omega)))
  replace o_t5 := hid (o_t5.out.same (same_below hb (by omega)))
  have o_t6 := hid o_t6
  replace bx_aE := hid (bx_aE.out.below hb bx_aE.out.lt)
  replace bx_x0 := hid (bx_x0.out.below hb bx_x0.out.lt)
  have B8 := hid (B7.out.trans (hb.mono (by omega)))
  clear hb
  clear b0_aE b1_aE b2_aE b3_aE b0_x0 b1_x0 b2_x0 b3_x0
  obtain ⟨b0_aE, b1_aE, b2_aE, b3_aE⟩ := four bx_aE.out
  obtain ⟨b0_x0, b1_x0, b2_x0, b3_x0⟩ := four bx_x0.out
  go_wp2_with fail
  refine (ieval_own _ o_t4.out o_t5.out o_t6.out hz_aE).mono ?_
  rintro e W9 ⟨rfl, hb⟩
  have s9 := hb.size
  replace o_t4 := hid (o_t4.out.same (same_below hb (by omega)))
  replace o_t5 := hid (o_t5.out.same (same_below hb (by omega)))
  replace o_t6 := hid (o_t6.out.same (same_below hb (by omega)))
  replace bx_aE := hid (bx_aE.out.below hb bx_aE.out.lt)
  replace bx_x0 := hid (bx_x0.out.below hb bx_x0.out.lt)
  have B9 := hid (B8.out.trans (hb.mono (by omega)))
  clear hb
  clear b0_aE b1_aE b2_aE b3_aE b0_x0 b1_x0 b2_x0 b3_x0
  obtain ⟨b0_aE, b1_aE, b2_aE, b3_aE⟩ := four bx_aE.out
  obtain ⟨b0_x0, b1_x0, b2_x0, b3_x0⟩ := four bx_x0.out
  go_wp2_with fail
  go_region_held3 (fun w' => (w'.cell? ⟨w.heap.size, 0, none⟩ = some (.int .i64 k_aE) ∧ w'.cell? ⟨w.heap.size, 1, none⟩ = some (.int .i64 n_aE) ∧ w'.cell? ⟨w.heap.size, 2, none⟩ = some (sv s_aE) ∧ w'.cell? ⟨w.heap.size, 3, none⟩ = some (.slice A_aE l_aE c_aE)) ∧ (w'.cell? ⟨W5.heap.size, 0, none⟩ = some (.int .i64 k_x0) ∧ w'.cell? ⟨W5.heap.size, 1, none⟩ = some (.int .i64 n_x0) ∧ w'.cell? ⟨W5.heap.size, 2, none⟩ = some (sv s_x0) ∧ w'.cell? ⟨W5.heap.size, 3, none⟩ = some (.slice A_x0 l_x0 c_x0))) (first | (exact ⟨q1, p1⟩) | (exact ⟨q2, p2⟩) | go_keep)
    (first
     | (go_at_call 29; refine (to_aE.out _ (B9.out.trans ((Below.refl _ _).drew.mono B9.out.size))).mono ?_; rintro e W10 ⟨r_t7, rfl, o_t7, hb⟩; have s10 : W9.heap.size ≤ W10.heap.size := hb.size; have B10 := hid (B9.out.trans (((Below.refl _ _).drew.trans hb).mono B9.out.size)); have bx1_aE := hid (bx_aE.out.below ((Below.refl _ _).drew.trans hb) bx_aE.out.lt); have bx1_x0 := hid (bx_x0.out.below ((Below.refl _ _).drew.trans hb) bx_x0.out.lt); have o1_t4 := hid (o_t4.out.same (same_below (B := W9.heap.size) ((Below.refl _ _).drew.trans hb) (by omega))); have o1_t5 := hid (o_t5.out.same (same_below (B := W9.heap.size) ((Below.refl _ _).drew.trans hb) (by omega))); have o1_t6 := hid (o_t6.out.same (same_below (B := W9.heap.size) ((Below.refl _ _).drew.trans hb) (by omega))); have q1 := four bx1_aE.out; have p1 := four bx1_x0.out; have o_t7 := hid o_t7; clear hb)
     | (go_at_call 30; refine (eqE_own _ o1_t4.out o_t7.out).mono ?_; rintro e W11 ⟨rfl, hb⟩; have s11 := hb.size; have B11 := hid (B10.out.trans (hb.mono B10.out.size)); have bx2_aE := hid (bx1_aE.out.below hb bx1_aE.out.lt); have bx2_x0 := hid (bx1_x0.out.below hb bx1_x0.out.lt); have o2_t4 := hid (o1_t4.out.same (same_below hb (by omega))); have o2_t5 := hid (o1_t5.out.same (same_below hb (by omega))); have o2_t6 := hid (o1_t6.out.same (same_below hb (by omega))); have q2 := four bx2_aE.out; have p2 := four bx2_x0.out; clear hb))
  clear b0_aE b1_aE b2_aE b3_aE b0_x0 b1_x0 b2_x0 b3_x0
  clear q1 p1 q2 p2 o_t7 bx_aE bx1_aE bx_x0 bx1_x0 o_t4 o1_t4 o_t5 o1_t5 o_t6 o1_t6
  have bx_aE := bx2_aE
  clear bx2_aE
  have bx_x0 := bx2_x0
  clear bx2_x0
  have o_t4 := o2_t4
  clear o2_t4
  have o_t5 := o2_t5
  clear o2_t5
  have o_t6 := o2_t6
  clear o2_t6
  obtain ⟨b0_aE, b1_aE, b2_aE, b3_aE⟩ := four bx_aE.out
  obtain ⟨b0_x0, b1_x0, b2_x0, b3_x0⟩ := four bx_x0.out
  go_wp2_with fail
  refine (to_aVars.out _ B11.out).mono ?_
  rintro e W12 ⟨rfl, o_t8, hb⟩
  have s12 := hb.size
  replace o_t4 := hid (o_t4.out.same (same_below hb (by omega)))
  replace o_t5 := hid (o_t5.out.same (same_below hb (by omega)))
  replace o_t6 := hid (o_t6.out.same (same_below hb (by omega)))
  have o_t8 := hid o_t8
  replace bx_aE := hid (bx_aE.out.below hb bx_aE.out.lt)
  replace bx_x0 := hid (bx_x0.out.below hb bx_x0.out.lt)
  have B12 := hid (B11.out.trans (hb.mono (by omega)))
  clear hb
  clear b0_aE b1_aE b2_aE b3_aE b0_x0 b1_x0 b2_x0 b3_x0
  obtain ⟨b0_aE, b1_aE, b2_aE, b3_aE⟩ := four bx_aE.out
  obtain ⟨b0_x0, b1_x0, b2_x0, b3_x0⟩ := four bx_x0.out
  go_wp2_with fail
  refine (eqS_own _ o_t5.out o_t8.out).mono ?_
  rintro e W13 ⟨rfl, hb⟩
  clear o_t8
  have s13 := hb.size
  replace o_t4 := hid (o_t4.out.same (same_below hb (by omega)))
  replace o_t5 := hid (o_t5.out.same (same_below hb (by omega)))
  replace o_t6 := hid (o_t6.out.same (same_below hb (by omega)))
  replace bx_aE := hid (bx_aE.out.below hb bx_aE.out.lt)
  replace bx_x0 := hid (bx_x0.out.below hb bx_x0.out.lt)
  have B13 := hid (B12.out.trans (hb.mono (by omega)))
  clear hb
  clear b0_aE b1_aE b2_aE b3_aE b0_x0 b1_x0 b2_x0 b3_x0
  obtain ⟨b0_aE, b1_aE, b2_aE, b3_aE⟩ := four bx_aE.out
  obtain ⟨b0_x0, b1_x0, b2_x0, b3_x0⟩ := four bx_x0.out
  go_wp2_with fail
  refine (to_aState.out _ B13.out).mono ?_
  rintro e W14 ⟨rfl, o_t9, hb⟩
  have s14 := hb.size
  replace o_t4 := hid (o_t4.out.same (same_below hb (by omega)))
  replace o_t5 := hid (o_t5.out.same (same_below hb (by omega)))
  replace o_t6 := hid (o_t6.out.same (same_below hb (by omega)))
  have o_t9 := hid o_t9
  replace bx_aE := hid (bx_aE.out.below hb bx_aE.out.lt)
  replace bx_x0 := hid (bx_x0.out.below hb bx_x0.out.lt)
  have B14 := hid (B13.out.trans (hb.mono (by omega)))
  clear hb
  clear b0_aE b1_aE b2_aE b3_aE b0_x0 b1_x0 b2_x0 b3_x0
  obtain ⟨b0_aE, b1_aE, b2_aE, b3_aE⟩ := four bx_aE.out
  obtain ⟨b0_x0, b1_x0, b2_x0, b3_x0⟩ := four bx_x0.out
  go_wp2_with fail
  refine (eqI_own _ o_t6.out o_t9.out).mono ?_
  rintro e W15 ⟨rfl, hb⟩
  clear o_t9
  have s15 := hb.size
  replace o_t4 := hid (o_t4.out.same (same_below hb (by omega)))
  replace o_t5 := hid (o_t5.out.same (same_below hb (by omega)))
  replace o_t6 := hid (o_t6.out.same (same_below hb (by omega)))
  replace bx_aE := hid (bx_aE.out.below hb bx_aE.out.lt)
  replace bx_x0 := hid (bx_x0.out.below hb bx_x0.out.lt)
  have B15 := hid (B14.out.trans (hb.mono (by omega)))
  clear hb
  clear b0_aE b1_aE b2_aE b3_aE b0_x0 b1_x0 b2_x0 b3_x0
  obtain ⟨b0_aE, b1_aE, b2_aE, b3_aE⟩ := four bx_aE.out
  obtain ⟨b0_x0, b1_x0, b2_x0, b3_x0⟩ := four bx_x0.out
  go_wp2_with fail
  go_ret
  exact ⟨rfl, B15.out⟩
end Go.Proofs.Ytlkfejcnkckgkaa.WExactEvalExpr
