/- FnExactFormatProgram: the law's walk, written by program out of the law's own text. -/
import Derived.Test.YtiogceepjffmkaaGreatDoorYP6a
import Derived.Test.YtiogceepjffmkaaGreatDoorYC5i
import Derived.Test.YtiogceepjffmkaaGreatDoorYAs6
import Derived.LaidHandle
import Derived.LaidLaws
import Derived.Stop.LaidErr
import Derived.Deep.DeepHandedRow
set_option maxHeartbeats 8000000
set_option maxRecDepth 100000
namespace Go.Proofs.YtiogceepjffmkaaGreatDoor.WExactFormatProgram
open Go.RowKit Go.Lib Com Mem YtiogceepjffmkaaGreatDoor.Os Tr Gd Gp
theorem walkFormatProgram (w : World) (hp : L1b.Pow w) (v_aP : Value) (p : Pg) (h_aP : PgAt w w.heap.size v_aP p) :
    Calls Tryz.prog 4 #[v_aP] w fun e w' => e = .returned (.bool true) ∧ Below w.heap.size w w' := by
  have hp := hid (fun (w' : World) (h : Below w.heap.size w w') => hp.below h)
  obtain ⟨A_aP, l_aP, c_aP, B_aP, lb_aP, cb_aP, f_aP⟩ := h_aP.form
  subst f_aP
  have hbx := box_below (w) (.cells #[.slice A_aP l_aP c_aP, .slice B_aP lb_aP cb_aP] 42)
  have q_aP := box_blk2 (w) A_aP l_aP c_aP B_aP lb_aP cb_aP 42
  have bx_aP := hid q_aP
  clear q_aP
  have Y0 := hid hbx
  clear hbx
  generalize hw0 : ((w).alloc (.cells #[.slice A_aP l_aP c_aP, .slice B_aP lb_aP cb_aP] 42)) = W0 at *
  have Z0 := Y0
  by_cases hsm_aP : 1048576 < ((szP8 p : Nat) : Int)
  · have hsz_aP := hid (fun (w1 : World) (hb : Below w.heap.size w w1) => szP_over p (1048576) w1 _ (h_aP.go hb) (by omega) (by omega) (by omega))
    go_enter Tryz.func4, Tryz.ntmps4
    obtain ⟨b0_aP, b1_aP⟩ := two bx_aP.out
    go_wp2_with fail
    refine (hsz_aP.out _ Z0.out).mono ?_
    rintro e wz1 ⟨rfl, hb⟩
    have Z1 := hid (Z0.out.trans (hb.mono Z0.out.size))
    replace bx_aP := hid (bx_aP.out.below hb bx_aP.out.lt)
    clear hb
    clear b0_aP b1_aP
    obtain ⟨b0_aP, b1_aP⟩ := two bx_aP.out
    go_wp2_with fail
    go_ret
    exact ⟨rfl, Z1.out⟩
  have hsz_aP := hid (fun (w1 : World) (hb : Below w.heap.size w w1) => szP_fit p (1048576) w1 _ (h_aP.go hb) (by omega) (by omega) (by omega))
  have hz_aP : szP8 p ≤ 1048576 := by omega
  have t_aP : decide (1048576 - ((szP8 p : Nat) : Int) < 0) = false := decide_eq_false (by omega)
  have cmp0 : ((fmtP p) != (fmtP p)) = false := bne_self_eq_false _
  have to_aP := hid (fun (w1 : World) (hb : Below w.heap.size w w1) => toP_own p w1 _ (h_aP.go hb) hz_aP)
  go_enter Tryz.func4, Tryz.ntmps4
  obtain ⟨b0_aP, b1_aP⟩ := two bx_aP.out
  go_wp2_with fail
  refine (hsz_aP.out _ Z0.out).mono ?_
  rintro e wz1 ⟨rfl, hb⟩
  have Z1 := hid (Z0.out.trans (hb.mono Z0.out.size))
  replace bx_aP := hid (bx_aP.out.below hb bx_aP.out.lt)
  clear hb
  clear b0_aP b1_aP
  obtain ⟨b0_aP, b1_aP⟩ := two bx_aP.out
  go_wp2_with fail
  have B0 := Z1
  have s0 := B0.out.size
  refine (to_aP.out _ B0.out).mono ?_
  rintro e W1 ⟨r_t1, rfl, o_t1, hb⟩
  have s1 := hb.size
  have o_t1 := hid o_t1
  replace bx_aP := hid (bx_aP.out.below hb bx_aP.out.lt)
  have B1 := hid (B0.out.trans (hb.mono (by omega)))
  clear hb
  clear b0_aP b1_aP
  obtain ⟨b0_aP, b1_aP⟩ := two bx_aP.out
  go_wp2_with fail
  refine (sformatP_own _ o_t1.out hz_aP).mono ?_
  rintro e W2 ⟨rfl, hb⟩
  clear o_t1
  have s2 := hb.size
  replace bx_aP := hid (bx_aP.out.below hb bx_aP.out.lt)
  have B2 := hid (B1.out.trans (hb.mono (by omega)))
  clear hb
  clear b0_aP b1_aP
  obtain ⟨b0_aP, b1_aP⟩ := two bx_aP.out
  go_wp2_with fail
  refine (to_aP.out _ B2.out).mono ?_
  rintro e W3 ⟨r_t2, rfl, o_t2, hb⟩
  have s3 := hb.size
  have o_t2 := hid o_t2
  replace bx_aP := hid (bx_aP.out.below hb bx_aP.out.lt)
  have B3 := hid (B2.out.trans (hb.mono (by omega)))
  clear hb
  clear b0_aP b1_aP
  obtain ⟨A_x0, l_x0, c_x0, B_x0, lb_x0, cb_x0, rfl⟩ := o_t2.out.form
  have hb := box_below W3 (.cells #[.slice A_x0 l_x0 c_x0, .slice B_x0 lb_x0 cb_x0] 27)
  have bx_x0 := hid (box_blk2 W3 A_x0 l_x0 c_x0 B_x0 lb_x0 cb_x0 27)
  have s4 := hb.size
  replace o_t2 := hid (o_t2.out.same (same_below hb (by omega)))
  replace bx_aP := hid (bx_aP.out.below hb bx_aP.out.lt)
  have B4 := hid (B3.out.trans (hb.mono (by omega)))
  clear hb
  obtain ⟨b0_aP, b1_aP⟩ := two bx_aP.out
  obtain ⟨b0_x0, b1_x0⟩ := two bx_x0.out
  go_wp2_with fail
  generalize (W3.alloc (.cells #[.slice A_x0 l_x0 c_x0, .slice B_x0 lb_x0 cb_x0] 27)) = W4 at *
  refine (iformatP_own _ (hp.out _ B4.out) o_t2.out hz_aP).mono ?_
  rintro e W5 ⟨rfl, hb⟩
  have s5 := hb.size
  replace o_t2 := hid (o_t2.out.same (same_below hb (by omega)))
  replace bx_aP := hid (bx_aP.out.below hb bx_aP.out.lt)
  replace bx_x0 := hid (bx_x0.out.below hb bx_x0.out.lt)
  have B5 := hid (B4.out.trans (hb.mono (by omega)))
  clear hb
  clear b0_aP b1_aP b0_x0 b1_x0
  obtain ⟨b0_aP, b1_aP⟩ := two bx_aP.out
  obtain ⟨b0_x0, b1_x0⟩ := two bx_x0.out
  go_wp2_with fail
  go_region_held3 (fun w' => (w'.cell? ⟨w.heap.size, 0, none⟩ = some (.slice A_aP l_aP c_aP) ∧ w'.cell? ⟨w.heap.size, 1, none⟩ = some (.slice B_aP lb_aP cb_aP)) ∧ (w'.cell? ⟨W3.heap.size, 0, none⟩ = some (.slice A_x0 l_x0 c_x0) ∧ w'.cell? ⟨W3.heap.size, 1, none⟩ = some (.slice B_x0 lb_x0 cb_x0))) (first | (exact ⟨q1, p1⟩) | (exact ⟨q2, p2⟩) | go_keep)
    (first
     | (go_at_call 17; refine (to_aP.out _ (B5.out.trans ((Below.refl _ _).drew.mono B5.out.size))).mono ?_; rintro e W6 ⟨r_t3, rfl, o_t3, hb⟩; have s6 : W5.heap.size ≤ W6.heap.size := hb.size; have B6 := hid (B5.out.trans (((Below.refl _ _).drew.trans hb).mono B5.out.size)); have bx1_aP := hid (bx_aP.out.below ((Below.refl _ _).drew.trans hb) bx_aP.out.lt); have bx1_x0 := hid (bx_x0.out.below ((Below.refl _ _).drew.trans hb) bx_x0.out.lt); have o1_t2 := hid (o_t2.out.same (same_below (B := W5.heap.size) ((Below.refl _ _).drew.trans hb) (by omega))); have q1 := two bx1_aP.out; have p1 := two bx1_x0.out; have o_t3 := hid o_t3; clear hb)
     | (go_at_call 18; refine (eqP_own _ o1_t2.out o_t3.out).mono ?_; rintro e W7 ⟨rfl, hb⟩; have s7 := hb.size; have B7 := hid (B6.out.trans (hb.mono B6.out.size)); have bx2_aP := hid (bx1_aP.out.below hb bx1_aP.out.lt); have bx2_x0 := hid (bx1_x0.out.below hb bx1_x0.out.lt); have o2_t2 := hid (o1_t2.out.same (same_below hb (by omega))); have q2 := two bx2_aP.out; have p2 := two bx2_x0.out; clear hb))
  clear b0_aP b1_aP b0_x0 b1_x0
  clear q1 p1 q2 p2 o_t3 bx_aP bx1_aP bx_x0 bx1_x0 o_t2 o1_t2
  have bx_aP := bx2_aP
  clear bx2_aP
  have bx_x0 := bx2_x0
  clear bx2_x0
  have o_t2 := o2_t2
  clear o2_t2
  obtain ⟨b0_aP, b1_aP⟩ := two bx_aP.out
  obtain ⟨b0_x0, b1_x0⟩ := two bx_x0.out
  go_wp2_with fail
  go_ret
  exact ⟨rfl, B7.out⟩
end Go.Proofs.YtiogceepjffmkaaGreatDoor.WExactFormatProgram
namespace Go.Proofs.YtiogceepjffmkaaGreatDoor.L1b
open Go.RowKit Go.Lib Go.ChangeShapes Go.WideShapes
theorem pow_ofFP {W : World} (h : laidMetH Tryz.prog Rows.fnExactFormatProgramRow.laid W) : Pow W :=
  Lib.tabIs_of_head (rest := []) (g := 3) (t := 329) (e := 313) (n := 20) (by kernel_rfl) (by kernel_rfl) Tryz.underlying329 Tryz.underlying313 (by kernel_rfl) (by kernel_rfl) (met_tail (met_tail h))
end Go.Proofs.YtiogceepjffmkaaGreatDoor.L1b
set_option maxRecDepth 100000
namespace Go.Proofs.YtiogceepjffmkaaGreatDoor.Tk
open Go.RowKit Go.Lib Go.Sort Num Com Mem YtiogceepjffmkaaGreatDoor.Os Tr
end Go.Proofs.YtiogceepjffmkaaGreatDoor.Tk
set_option maxRecDepth 100000
namespace Go.Proofs.YtiogceepjffmkaaGreatDoor.La
open Go.ChangeShapes Go.WideShapes Go.ChangeAt Go.RowKit Go.Proofs.YtiogceepjffmkaaGreatDoor Close
noncomputable def low : Nat := (World.holding Tryz.prog default ⟨#[], #[], []⟩).heap.size
abbrev text : ByteArray := { data := #[116, 104, 101, 32, 115, 121, 110, 116, 97, 120, 32, 105, 115, 32, 114, 105, 103, 104, 116, 44, 32, 98, 117, 116, 32, 116, 104, 101, 32, 114, 101, 115, 117, 108, 116, 32, 105, 115, 32, 110, 111, 116, 32, 118, 97, 108, 105, 100] }
def f0 : DataW Unit → List Value
  | .lit (.int k n) => [.int k n]
  | _ => []
def f1 : DataW Unit → List Value
  | .agg l => l.flatMap f0
  | d => f0 d
def lay (h : Array Obj) (x : Nat × DataW Unit) : Array Obj := h.modify x.1 fun
  | .cells _ t frozen => .cells (f1 x.2).toArray t frozen
  | o => o
noncomputable def laidWorld (os : Os) : World :=
  let w0 := World.holding Tryz.prog os ⟨#[.cells #[.string text] 352], #[], []⟩
  let h1 := [(4, Rows.laid_math_bits_deBruijn32tab), (5, Rows.laid_math_bits_deBruijn64tab), (3, Rows.laid_internal_strconv_uint64pow10)].foldl lay w0.heap
  { w0 with heap := (h1.modify 0 fun
      | .cells _ t frozen => .cells #[.iface 333 (.pointer (some ⟨low, 0, none⟩))] t frozen
      | o => o).modify 1 fun
      | .cells _ t frozen => .cells #[.iface 250 (.agg #[.pointer (some ⟨As.HB, As.ERR, none⟩)])] t frozen
      | o => o }
end Go.Proofs.YtiogceepjffmkaaGreatDoor.La
