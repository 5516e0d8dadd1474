/- FnExactSortNames: the law's walk, written by program out of the law's own text. -/
import Derived.Test.YtkoppcpkkpgaiaaC2o
namespace Go.Proofs.Ytkoppcpkkpgaiaa.WExactSortNames
open Go.RowKit Go.Lib Go.Proofs.Ytkoppcpkkpgaiaa.Com Go.Proofs.Ytkoppcpkkpgaiaa.Mem Go.Proofs.Ytkoppcpkkpgaiaa.Lh Go.Proofs.Ytkoppcpkkpgaiaa.Os Go.Proofs.Ytkoppcpkkpgaiaa.C2 Go.Proofs.Ytkoppcpkkpgaiaa.Nm
set_option maxHeartbeats 4000000 in
theorem walkSortNames (w : World) (A_aList : Option Addr) (c_aList : Nat) (l : List (List UInt8)) (h_aList : Rd w w.heap.size A_aList (l.map sv)) (hm_aList : ∀ x ∈ l, x.length ≤ 9223372036854775807) (hl_aList : l.length ≤ 9223372036854775807) :
    Calls Try.prog 10 #[.slice A_aList l.length c_aList] w fun e w' => e = .returned (.bool true) ∧ Below w.heap.size w w' := by
  by_cases hsm_aList : 1048576 < ((szL l : Nat) : Int)
  · have hsz_aList := hid (szS_over A_aList c_aList l (1048576) w h_aList hm_aList hl_aList (by omega) (by omega) (by omega))
    go_enter Try.func10, Try.ntmps10
    go_wp2_with fail
    refine hsz_aList.out.mono ?_
    rintro e w' ⟨rfl, rfl⟩
    go_wp2_with fail
    go_ret
    exact ⟨rfl, Below.refl _ _⟩
  have hsz_aList := hid (szS_fit A_aList c_aList l (1048576) w h_aList hm_aList hl_aList (by omega) (by omega) (by omega))
  have hz_aList : szL l ≤ 1048576 := by omega
  have bc_aList : l.length ≤ 1048576 := by have := szL_len l; omega
  have t_aList : decide (1048576 - ((szL l : Nat) : Int) < 0) = false := decide_eq_false (by omega)
  have bd0 : (sortU l).length ≤ 1048576 := by have := sortU_len l; have := szL_len l; omega
  have to_aList := hid (fun (w1 : World) (hb : Below w.heap.size w w1) => toS_own A_aList c_aList l w w1 h_aList (by have := szL_len l; omega) hb)
  have B0 := hid (Below.refl w.heap.size w)
  go_enter Try.func10, Try.ntmps10
  go_wp2_with fail
  refine hsz_aList.out.mono ?_
  rintro e w' ⟨rfl, rfl⟩
  go_wp2_with fail
  refine (to_aList.out _ B0.out).mono ?_
  rintro e W1 ⟨rfl, o_t1, hb⟩
  have s1 := hb.size
  have o_t1 := hid o_t1
  have B1 := hid (B0.out.trans (hb.mono (by omega)))
  clear hb
  go_wp2_with fail
  refine (ssort_own _ o_t1.out hz_aList).mono ?_
  rintro e W2 ⟨r_w0, rfl, o_w0, hb⟩
  clear o_t1
  have s2 := hb.size
  have o_w0 := hid o_w0
  have B2 := hid (B1.out.trans (hb.mono (by omega)))
  clear hb
  go_wp2_with fail
  refine (to_aList.out _ B2.out).mono ?_
  rintro e W3 ⟨rfl, o_t2, hb⟩
  have s3 := hb.size
  replace o_w0 := hid (o_w0.out.same (same_below hb (by omega)))
  have o_t2 := hid o_t2
  have B3 := hid (B2.out.trans (hb.mono (by omega)))
  clear hb
  go_wp2_with fail
  refine (sort_own _ o_t2.out hz_aList).mono ?_
  rintro e W4 ⟨r_g0, rfl, o_g0, hb⟩
  have s4 := hb.size
  replace o_w0 := hid (o_w0.out.same (same_below hb (by omega)))
  replace o_t2 := hid (o_t2.out.same (same_below hb (by omega)))
  have o_g0 := hid o_g0
  have B4 := hid (B3.out.trans (hb.mono (by omega)))
  clear hb
  go_wp2_with fail
  refine (eqS_own _ o_g0.out o_w0.out).mono ?_
  rintro e W5 ⟨rfl, hb⟩
  have s5 := hb.size
  replace o_w0 := hid (o_w0.out.same (same_below hb (by omega)))
  replace o_t2 := hid (o_t2.out.same (same_below hb (by omega)))
  replace o_g0 := hid (o_g0.out.same (same_below hb (by omega)))
  have B5 := hid (B4.out.trans (hb.mono (by omega)))
  clear hb
  go_wp2_with fail
  refine (to_aList.out _ B5.out).mono ?_
  rintro e W6 ⟨rfl, o_t3, hb⟩
  have s6 := hb.size
  replace o_w0 := hid (o_w0.out.same (same_below hb (by omega)))
  replace o_t2 := hid (o_t2.out.same (same_below hb (by omega)))
  replace o_g0 := hid (o_g0.out.same (same_below hb (by omega)))
  have o_t3 := hid o_t3
  have B6 := hid (B5.out.trans (hb.mono (by omega)))
  clear hb
  go_wp2_with fail
  refine (eqS_own _ o_t2.out o_t3.out).mono ?_
  rintro e W7 ⟨rfl, hb⟩
  clear o_t3
  have s7 := hb.size
  replace o_w0 := hid (o_w0.out.same (same_below hb (by omega)))
  replace o_t2 := hid (o_t2.out.same (same_below hb (by omega)))
  replace o_g0 := hid (o_g0.out.same (same_below hb (by omega)))
  have B7 := hid (B6.out.trans (hb.mono (by omega)))
  clear hb
  go_wp2_with fail
  refine (markS_own (1) _ o_t2.out (by omega) (by omega)).mono ?_
  rintro e W8 ⟨rfl, o_t2, hc⟩
  have s8 := hc.size
  replace o_w0 := hid (o_w0.out.same (same_chg hc (by omega) (by omega)))
  replace o_g0 := hid (o_g0.out.same (same_chg hc (by omega) (by omega)))
  replace o_t2 := hid o_t2
  have B8 := hid (below_chg B7.out hc (by omega) (by omega))
  clear hc
  go_wp2_with fail
  refine (eqS_own _ o_g0.out o_w0.out).mono ?_
  rintro e W9 ⟨rfl, hb⟩
  have s9 := hb.size
  replace o_w0 := hid (o_w0.out.same (same_below hb (by omega)))
  replace o_t2 := hid (o_t2.out.same (same_below hb (by omega)))
  replace o_g0 := hid (o_g0.out.same (same_below hb (by omega)))
  have B9 := hid (B8.out.trans (hb.mono (by omega)))
  clear hb
  go_wp2_with fail
  refine (markS_own (1) _ o_g0.out (by omega) (by omega)).mono ?_
  rintro e W10 ⟨rfl, o_g0, hc⟩
  have s10 := hc.size
  replace o_w0 := hid (o_w0.out.same (same_chg hc (by omega) (by omega)))
  replace o_t2 := hid (o_t2.out.same (same_chg hc (by omega) (by omega)))
  replace o_g0 := hid o_g0
  have B10 := hid (below_chg B9.out hc (by omega) (by omega))
  clear hc
  go_wp2_with fail
  refine (heldS_own (1) _ o_g0.out (by omega) (by omega)).mono ?_
  rintro e W11 ⟨rfl, hb⟩
  have s11 := hb.size
  replace o_w0 := hid (o_w0.out.same (same_below hb (by omega)))
  replace o_t2 := hid (o_t2.out.same (same_below hb (by omega)))
  replace o_g0 := hid (o_g0.out.same (same_below hb (by omega)))
  have B11 := hid (B10.out.trans (hb.mono (by omega)))
  clear hb
  go_wp2_with fail
  refine (to_aList.out _ B11.out).mono ?_
  rintro e W12 ⟨rfl, o_t4, hb⟩
  have s12 := hb.size
  replace o_w0 := hid (o_w0.out.same (same_below hb (by omega)))
  replace o_t2 := hid (o_t2.out.same (same_below hb (by omega)))
  replace o_g0 := hid (o_g0.out.same (same_below hb (by omega)))
  have o_t4 := hid o_t4
  have B12 := hid (B11.out.trans (hb.mono (by omega)))
  clear hb
  go_wp2_with fail
  refine (sort_own _ o_t4.out hz_aList).mono ?_
  rintro e W13 ⟨r_h0, rfl, o_h0, hb⟩
  clear o_t4
  have s13 := hb.size
  replace o_w0 := hid (o_w0.out.same (same_below hb (by omega)))
  replace o_t2 := hid (o_t2.out.same (same_below hb (by omega)))
  replace o_g0 := hid (o_g0.out.same (same_below hb (by omega)))
  have o_h0 := hid o_h0
  have B13 := hid (B12.out.trans (hb.mono (by omega)))
  clear hb
  go_wp2_with fail
  refine (eqS_own _ o_h0.out o_w0.out).mono ?_
  rintro e W14 ⟨rfl, hb⟩
  have s14 := hb.size
  replace o_w0 := hid (o_w0.out.same (same_below hb (by omega)))
  replace o_t2 := hid (o_t2.out.same (same_below hb (by omega)))
  replace o_g0 := hid (o_g0.out.same (same_below hb (by omega)))
  replace o_h0 := hid (o_h0.out.same (same_below hb (by omega)))
  have B14 := hid (B13.out.trans (hb.mono (by omega)))
  clear hb
  go_wp2_with fail
  refine (heldS_own (1) _ o_g0.out (by omega) (by omega)).mono ?_
  rintro e W15 ⟨rfl, hb⟩
  have s15 := hb.size
  replace o_w0 := hid (o_w0.out.same (same_below hb (by omega)))
  replace o_t2 := hid (o_t2.out.same (same_below hb (by omega)))
  replace o_g0 := hid (o_g0.out.same (same_below hb (by omega)))
  replace o_h0 := hid (o_h0.out.same (same_below hb (by omega)))
  have B15 := hid (B14.out.trans (hb.mono (by omega)))
  clear hb
  go_wp2_with fail
  go_ret
  exact ⟨rfl, B15.out⟩
end Go.Proofs.Ytkoppcpkkpgaiaa.WExactSortNames
