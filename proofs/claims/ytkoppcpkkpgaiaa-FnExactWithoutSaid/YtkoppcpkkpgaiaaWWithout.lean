/- FnExactWithout: the law's walk, written by program out of the law's own text. -/
import Derived.Test.YtkoppcpkkpgaiaaC2o
namespace Go.Proofs.Ytkoppcpkkpgaiaa.WExactWithout
open Go.RowKit Go.Lib Go.Proofs.Ytkoppcpkkpgaiaa.Com Go.Proofs.Ytkoppcpkkpgaiaa.Mem Go.Proofs.Ytkoppcpkkpgaiaa.Lh Go.Proofs.Ytkoppcpkkpgaiaa.Os Go.Proofs.Ytkoppcpkkpgaiaa.C2 Go.Proofs.Ytkoppcpkkpgaiaa.Nm
set_option maxHeartbeats 4000000 in
theorem walkWithout (w : World) (A_aList : Option Addr) (c_aList : Nat) (l : List (List UInt8)) (h_aList : Rd w w.heap.size A_aList (l.map sv)) (hm_aList : ∀ x ∈ l, x.length ≤ 9223372036854775807) (hl_aList : l.length ≤ 9223372036854775807) (A_aRemove : Option Addr) (c_aRemove : Nat) (r : List (List UInt8)) (h_aRemove : Rd w w.heap.size A_aRemove (r.map sv)) (hm_aRemove : ∀ x ∈ r, x.length ≤ 9223372036854775807) (hl_aRemove : r.length ≤ 9223372036854775807) :
    Calls Try.prog 11 #[.slice A_aList l.length c_aList, .slice A_aRemove r.length c_aRemove] w fun e w' => e = .returned (.bool true) ∧ Below w.heap.size w w' := by
  by_cases hsm_aList : 1048576 < ((szL l : Nat) : Int)
  · have hsz_aList := hid (szS_over A_aList c_aList l (1048576) w h_aList hm_aList hl_aList (by omega) (by omega) (by omega))
    go_enter Try.func11, Try.ntmps11
    go_wp2_with fail
    refine hsz_aList.out.mono ?_
    rintro e w' ⟨rfl, rfl⟩
    go_wp2_with fail
    go_ret
    exact ⟨rfl, Below.refl _ _⟩
  have hsz_aList := hid (szS_fit A_aList c_aList l (1048576) w h_aList hm_aList hl_aList (by omega) (by omega) (by omega))
  have hz_aList : szL l ≤ 1048576 := by omega
  have bc_aList : l.length ≤ 1048576 := by have := szL_len l; omega
  have t_aList : decide (1048576 - ((szL l : Nat) : Int) < 0) = false := decide_eq_false (by omega)
  by_cases hsm_aRemove : 1048576 - ((szL l : Nat) : Int) < ((szL r : Nat) : Int)
  · have hsz_aRemove := hid (szS_over A_aRemove c_aRemove r (1048576 - ((szL l : Nat) : Int)) w h_aRemove hm_aRemove hl_aRemove (by omega) (by omega) (by omega))
    go_enter Try.func11, Try.ntmps11
    go_wp2_with fail
    refine hsz_aList.out.mono ?_
    rintro e w' ⟨rfl, rfl⟩
    go_wp2_with fail
    refine hsz_aRemove.out.mono ?_
    rintro e w' ⟨rfl, rfl⟩
    go_wp2_with fail
    go_ret
    exact ⟨rfl, Below.refl _ _⟩
  have hsz_aRemove := hid (szS_fit A_aRemove c_aRemove r (1048576 - ((szL l : Nat) : Int)) w h_aRemove hm_aRemove hl_aRemove (by omega) (by omega) (by omega))
  have hz_aRemove : szL r ≤ 1048576 := by omega
  have bc_aRemove : r.length ≤ 1048576 := by have := szL_len r; omega
  have t_aRemove : decide (1048576 - ((szL l : Nat) : Int) - ((szL r : Nat) : Int) < 0) = false := decide_eq_false (by omega)
  have bl : l.length ≤ 1048576 := by have := szL_len l; omega
  have br : r.length ≤ 1048576 := by have := szL_len r; omega
  have bd0 : (keepS l r).length ≤ 1048576 := by have := keep_len l r; omega
  have to_aList := hid (fun (w1 : World) (hb : Below w.heap.size w w1) => toS_own A_aList c_aList l w w1 h_aList (by have := szL_len l; omega) hb)
  have to_aRemove := hid (fun (w1 : World) (hb : Below w.heap.size w w1) => toS_own A_aRemove c_aRemove r w w1 h_aRemove (by have := szL_len r; omega) hb)
  have B0 := hid (Below.refl w.heap.size w)
  go_enter Try.func11, Try.ntmps11
  go_wp2_with fail
  refine hsz_aList.out.mono ?_
  rintro e w' ⟨rfl, rfl⟩
  go_wp2_with fail
  refine hsz_aRemove.out.mono ?_
  rintro e w' ⟨rfl, rfl⟩
  go_wp2_with fail
  refine (to_aList.out _ B0.out).mono ?_
  rintro e W1 ⟨rfl, o_t1, hb⟩
  have s1 := hb.size
  have o_t1 := hid o_t1
  have B1 := hid (B0.out.trans (hb.mono (by omega)))
  clear hb
  go_wp2_with fail
  refine (to_aRemove.out _ B1.out).mono ?_
  rintro e W2 ⟨rfl, o_t2, hb⟩
  have s2 := hb.size
  replace o_t1 := hid (o_t1.out.same (same_below hb (by omega)))
  have o_t2 := hid o_t2
  have B2 := hid (B1.out.trans (hb.mono (by omega)))
  clear hb
  go_wp2_with fail
  refine (swithout_own _ o_t1.out o_t2.out hz_aList hz_aRemove).mono ?_
  rintro e W3 ⟨r_w0, rfl, o_w0, hb⟩
  clear o_t1
  clear o_t2
  have s3 := hb.size
  have o_w0 := hid o_w0
  have B3 := hid (B2.out.trans (hb.mono (by omega)))
  clear hb
  go_wp2_with fail
  refine (to_aList.out _ B3.out).mono ?_
  rintro e W4 ⟨rfl, o_t3, hb⟩
  have s4 := hb.size
  replace o_w0 := hid (o_w0.out.same (same_below hb (by omega)))
  have o_t3 := hid o_t3
  have B4 := hid (B3.out.trans (hb.mono (by omega)))
  clear hb
  go_wp2_with fail
  refine (to_aRemove.out _ B4.out).mono ?_
  rintro e W5 ⟨rfl, o_t4, hb⟩
  have s5 := hb.size
  replace o_w0 := hid (o_w0.out.same (same_below hb (by omega)))
  replace o_t3 := hid (o_t3.out.same (same_below hb (by omega)))
  have o_t4 := hid o_t4
  have B5 := hid (B4.out.trans (hb.mono (by omega)))
  clear hb
  go_wp2_with fail
  refine (without_own _ o_t3.out o_t4.out hz_aList hz_aRemove).mono ?_
  rintro e W6 ⟨r_g0, rfl, o_g0, hb⟩
  have s6 := hb.size
  replace o_w0 := hid (o_w0.out.same (same_below hb (by omega)))
  replace o_t3 := hid (o_t3.out.same (same_below hb (by omega)))
  replace o_t4 := hid (o_t4.out.same (same_below hb (by omega)))
  have o_g0 := hid o_g0
  have B6 := hid (B5.out.trans (hb.mono (by omega)))
  clear hb
  go_wp2_with fail
  refine (eqS_own _ o_g0.out o_w0.out).mono ?_
  rintro e W7 ⟨rfl, hb⟩
  have s7 := hb.size
  replace o_w0 := hid (o_w0.out.same (same_below hb (by omega)))
  replace o_t3 := hid (o_t3.out.same (same_below hb (by omega)))
  replace o_t4 := hid (o_t4.out.same (same_below hb (by omega)))
  replace o_g0 := hid (o_g0.out.same (same_below hb (by omega)))
  have B7 := hid (B6.out.trans (hb.mono (by omega)))
  clear hb
  go_wp2_with fail
  refine (to_aList.out _ B7.out).mono ?_
  rintro e W8 ⟨rfl, o_t5, hb⟩
  have s8 := hb.size
  replace o_w0 := hid (o_w0.out.same (same_below hb (by omega)))
  replace o_t3 := hid (o_t3.out.same (same_below hb (by omega)))
  replace o_t4 := hid (o_t4.out.same (same_below hb (by omega)))
  replace o_g0 := hid (o_g0.out.same (same_below hb (by omega)))
  have o_t5 := hid o_t5
  have B8 := hid (B7.out.trans (hb.mono (by omega)))
  clear hb
  go_wp2_with fail
  refine (eqS_own _ o_t3.out o_t5.out).mono ?_
  rintro e W9 ⟨rfl, hb⟩
  clear o_t5
  have s9 := hb.size
  replace o_w0 := hid (o_w0.out.same (same_below hb (by omega)))
  replace o_t3 := hid (o_t3.out.same (same_below hb (by omega)))
  replace o_t4 := hid (o_t4.out.same (same_below hb (by omega)))
  replace o_g0 := hid (o_g0.out.same (same_below hb (by omega)))
  have B9 := hid (B8.out.trans (hb.mono (by omega)))
  clear hb
  go_wp2_with fail
  refine (to_aRemove.out _ B9.out).mono ?_
  rintro e W10 ⟨rfl, o_t6, hb⟩
  have s10 := hb.size
  replace o_w0 := hid (o_w0.out.same (same_below hb (by omega)))
  replace o_t3 := hid (o_t3.out.same (same_below hb (by omega)))
  replace o_t4 := hid (o_t4.out.same (same_below hb (by omega)))
  replace o_g0 := hid (o_g0.out.same (same_below hb (by omega)))
  have o_t6 := hid o_t6
  have B10 := hid (B9.out.trans (hb.mono (by omega)))
  clear hb
  go_wp2_with fail
  refine (eqS_own _ o_t4.out o_t6.out).mono ?_
  rintro e W11 ⟨rfl, hb⟩
  clear o_t6
  have s11 := hb.size
  replace o_w0 := hid (o_w0.out.same (same_below hb (by omega)))
  replace o_t3 := hid (o_t3.out.same (same_below hb (by omega)))
  replace o_t4 := hid (o_t4.out.same (same_below hb (by omega)))
  replace o_g0 := hid (o_g0.out.same (same_below hb (by omega)))
  have B11 := hid (B10.out.trans (hb.mono (by omega)))
  clear hb
  go_wp2_with fail
  refine (markS_own (1) _ o_t3.out (by omega) (by omega)).mono ?_
  rintro e W12 ⟨rfl, o_t3, hc⟩
  have s12 := hc.size
  replace o_w0 := hid (o_w0.out.same (same_chg hc (by omega) (by omega)))
  replace o_t4 := hid (o_t4.out.same (same_chg hc (by omega) (by omega)))
  replace o_g0 := hid (o_g0.out.same (same_chg hc (by omega) (by omega)))
  replace o_t3 := hid o_t3
  have B12 := hid (below_chg B11.out hc (by omega) (by omega))
  clear hc
  go_wp2_with fail
  refine (markS_own (1 + (((l).length : Nat) : Int)) _ o_t4.out (by omega) (by omega)).mono ?_
  rintro e W13 ⟨rfl, o_t4, hc⟩
  have s13 := hc.size
  replace o_w0 := hid (o_w0.out.same (same_chg hc (by omega) (by omega)))
  replace o_t3 := hid (o_t3.out.same (same_chg hc (by omega) (by omega)))
  replace o_g0 := hid (o_g0.out.same (same_chg hc (by omega) (by omega)))
  replace o_t4 := hid o_t4
  have B13 := hid (below_chg B12.out hc (by omega) (by omega))
  clear hc
  go_wp2_with fail
  refine (eqS_own _ o_g0.out o_w0.out).mono ?_
  rintro e W14 ⟨rfl, hb⟩
  have s14 := hb.size
  replace o_w0 := hid (o_w0.out.same (same_below hb (by omega)))
  replace o_t3 := hid (o_t3.out.same (same_below hb (by omega)))
  replace o_t4 := hid (o_t4.out.same (same_below hb (by omega)))
  replace o_g0 := hid (o_g0.out.same (same_below hb (by omega)))
  have B14 := hid (B13.out.trans (hb.mono (by omega)))
  clear hb
  go_wp2_with fail
  refine (markS_own (1) _ o_g0.out (by omega) (by omega)).mono ?_
  rintro e W15 ⟨rfl, o_g0, hc⟩
  have s15 := hc.size
  replace o_w0 := hid (o_w0.out.same (same_chg hc (by omega) (by omega)))
  replace o_t3 := hid (o_t3.out.same (same_chg hc (by omega) (by omega)))
  replace o_t4 := hid (o_t4.out.same (same_chg hc (by omega) (by omega)))
  replace o_g0 := hid o_g0
  have B15 := hid (below_chg B14.out hc (by omega) (by omega))
  clear hc
  go_wp2_with fail
  refine (heldS_own (1) _ o_g0.out (by omega) (by omega)).mono ?_
  rintro e W16 ⟨rfl, hb⟩
  have s16 := hb.size
  replace o_w0 := hid (o_w0.out.same (same_below hb (by omega)))
  replace o_t3 := hid (o_t3.out.same (same_below hb (by omega)))
  replace o_t4 := hid (o_t4.out.same (same_below hb (by omega)))
  replace o_g0 := hid (o_g0.out.same (same_below hb (by omega)))
  have B16 := hid (B15.out.trans (hb.mono (by omega)))
  clear hb
  go_wp2_with fail
  refine (to_aList.out _ B16.out).mono ?_
  rintro e W17 ⟨rfl, o_t7, hb⟩
  have s17 := hb.size
  replace o_w0 := hid (o_w0.out.same (same_below hb (by omega)))
  replace o_t3 := hid (o_t3.out.same (same_below hb (by omega)))
  replace o_t4 := hid (o_t4.out.same (same_below hb (by omega)))
  replace o_g0 := hid (o_g0.out.same (same_below hb (by omega)))
  have o_t7 := hid o_t7
  have B17 := hid (B16.out.trans (hb.mono (by omega)))
  clear hb
  go_wp2_with fail
  refine (to_aRemove.out _ B17.out).mono ?_
  rintro e W18 ⟨rfl, o_t8, hb⟩
  have s18 := hb.size
  replace o_w0 := hid (o_w0.out.same (same_below hb (by omega)))
  replace o_t3 := hid (o_t3.out.same (same_below hb (by omega)))
  replace o_t4 := hid (o_t4.out.same (same_below hb (by omega)))
  replace o_g0 := hid (o_g0.out.same (same_below hb (by omega)))
  replace o_t7 := hid (o_t7.out.same (same_below hb (by omega)))
  have o_t8 := hid o_t8
  have B18 := hid (B17.out.trans (hb.mono (by omega)))
  clear hb
  go_wp2_with fail
  refine (without_own _ o_t7.out o_t8.out hz_aList hz_aRemove).mono ?_
  rintro e W19 ⟨r_h0, rfl, o_h0, hb⟩
  clear o_t7
  clear o_t8
  have s19 := hb.size
  replace o_w0 := hid (o_w0.out.same (same_below hb (by omega)))
  replace o_t3 := hid (o_t3.out.same (same_below hb (by omega)))
  replace o_t4 := hid (o_t4.out.same (same_below hb (by omega)))
  replace o_g0 := hid (o_g0.out.same (same_below hb (by omega)))
  have o_h0 := hid o_h0
  have B19 := hid (B18.out.trans (hb.mono (by omega)))
  clear hb
  go_wp2_with fail
  refine (eqS_own _ o_h0.out o_w0.out).mono ?_
  rintro e W20 ⟨rfl, hb⟩
  have s20 := hb.size
  replace o_w0 := hid (o_w0.out.same (same_below hb (by omega)))
  replace o_t3 := hid (o_t3.out.same (same_below hb (by omega)))
  replace o_t4 := hid (o_t4.out.same (same_below hb (by omega)))
  replace o_g0 := hid (o_g0.out.same (same_below hb (by omega)))
  replace o_h0 := hid (o_h0.out.same (same_below hb (by omega)))
  have B20 := hid (B19.out.trans (hb.mono (by omega)))
  clear hb
  go_wp2_with fail
  refine (heldS_own (1) _ o_g0.out (by omega) (by omega)).mono ?_
  rintro e W21 ⟨rfl, hb⟩
  have s21 := hb.size
  replace o_w0 := hid (o_w0.out.same (same_below hb (by omega)))
  replace o_t3 := hid (o_t3.out.same (same_below hb (by omega)))
  replace o_t4 := hid (o_t4.out.same (same_below hb (by omega)))
  replace o_g0 := hid (o_g0.out.same (same_below hb (by omega)))
  replace o_h0 := hid (o_h0.out.same (same_below hb (by omega)))
  have B21 := hid (B20.out.trans (hb.mono (by omega)))
  clear hb
  go_wp2_with fail
  go_ret
  exact ⟨rfl, B21.out⟩
end Go.Proofs.Ytkoppcpkkpgaiaa.WExactWithout
