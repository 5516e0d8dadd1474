/- FnExactBlockDepth: the law's walk, written by program out of the law's own text. -/
import Derived.Test.YteioojdgipodjaaZXs
set_option maxRecDepth 100000
namespace Go.Proofs.Yteioojdgipodjaa.WExactBlockDepth
open Go.RowKit Go.Lib Go.Proofs.Yteioojdgipodjaa.Com Go.Proofs.Yteioojdgipodjaa.Mem Go.Proofs.Yteioojdgipodjaa.Os Go.Proofs.Yteioojdgipodjaa.Tr Go.Proofs.Yteioojdgipodjaa.Gd
set_option maxHeartbeats 8000000 in
theorem walkBlockDepth (w : World) (A_aList : Option Addr) (c_aList : Nat) (L : List St) (rows_aList : Nat → List Value) (h_aList : Row w w.heap.size 1 A_aList (dl L) rows_aList) (hl_aList : L.length ≤ maxI) :
    Calls Try.prog 4 #[.slice A_aList L.length c_aList] w fun e w' => e = .returned (.bool true) ∧ Below w.heap.size w w' := by
  have Z0 := hid (Below.refl w.heap.size w)
  by_cases hsm_aList : 1048576 < ((szL8 L : Nat) : Int)
  · have hsz_aList := hid (fun (w1 : World) (hb : Below w.heap.size w w1) => szL8_over A_aList c_aList L rows_aList (1048576) w1 (h_aList.go hb) hl_aList (by omega) (by omega) (by omega))
    go_enter Try.func4, Try.ntmps4
    go_wp2_with fail
    refine (hsz_aList.out _ Z0.out).mono ?_
    rintro e wz1 ⟨rfl, hb⟩
    have Z1 := hid (Z0.out.trans (hb.mono Z0.out.size))
    clear hb
    go_wp2_with fail
    go_ret
    exact ⟨rfl, Z1.out⟩
  have hsz_aList := hid (fun (w1 : World) (hb : Below w.heap.size w w1) => szL8_fit A_aList c_aList L rows_aList (1048576) w1 (h_aList.go hb) hl_aList (by omega) (by omega) (by omega))
  have hz_aList : szL8 L ≤ 1048576 := by omega
  have t_aList : decide (1048576 - ((szL8 L : Nat) : Int) < 0) = false := decide_eq_false (by omega)
  have cmp0 : ((((depL L : Nat) : Int)) != (((depL L : Nat) : Int))) = false := bne_self_eq_false _
  have to_aList := hid (fun (w1 : World) (hb : Below w.heap.size w w1) => toL_own A_aList c_aList L rows_aList w1 (h_aList.go hb) hz_aList)
  go_enter Try.func4, Try.ntmps4
  go_wp2_with fail
  refine (hsz_aList.out _ Z0.out).mono ?_
  rintro e wz1 ⟨rfl, hb⟩
  have Z1 := hid (Z0.out.trans (hb.mono Z0.out.size))
  clear hb
  go_wp2_with fail
  have B0 := Z1
  have s0 := B0.out.size
  refine (to_aList.out _ B0.out).mono ?_
  rintro e W1 ⟨rfl, o_t1, hb⟩
  have s1 := hb.size
  have o_t1 := hid o_t1
  have B1 := hid (B0.out.trans (hb.mono (by omega)))
  clear hb
  go_wp2_with fail
  refine (sdepthL_own _ o_t1.out hz_aList).mono ?_
  rintro e W2 ⟨rfl, hb⟩
  clear o_t1
  have s2 := hb.size
  have B2 := hid (B1.out.trans (hb.mono (by omega)))
  clear hb
  go_wp2_with fail
  refine (to_aList.out _ B2.out).mono ?_
  rintro e W3 ⟨rfl, o_t2, hb⟩
  have s3 := hb.size
  have o_t2 := hid o_t2
  have B3 := hid (B2.out.trans (hb.mono (by omega)))
  clear hb
  go_wp2_with fail
  refine (idepthL_own _ o_t2.out hz_aList).mono ?_
  rintro e W4 ⟨rfl, hb⟩
  have s4 := hb.size
  replace o_t2 := hid (o_t2.out.same (same_below hb (by omega)))
  have B4 := hid (B3.out.trans (hb.mono (by omega)))
  clear hb
  go_wp2_with fail
  refine (to_aList.out _ B4.out).mono ?_
  rintro e W5 ⟨rfl, o_t3, hb⟩
  have s5 := hb.size
  replace o_t2 := hid (o_t2.out.same (same_below hb (by omega)))
  have o_t3 := hid o_t3
  have B5 := hid (B4.out.trans (hb.mono (by omega)))
  clear hb
  go_wp2_with fail
  refine (eqL_own _ o_t2.out o_t3.out).mono ?_
  rintro e W6 ⟨rfl, hb⟩
  clear o_t3
  have s6 := hb.size
  replace o_t2 := hid (o_t2.out.same (same_below hb (by omega)))
  have B6 := hid (B5.out.trans (hb.mono (by omega)))
  clear hb
  go_wp2_with fail
  go_ret
  exact ⟨rfl, B6.out⟩
end Go.Proofs.Yteioojdgipodjaa.WExactBlockDepth
