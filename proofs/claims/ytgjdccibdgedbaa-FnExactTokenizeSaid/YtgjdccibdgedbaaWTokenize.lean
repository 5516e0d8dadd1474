/- FnExactTokenize: the law's walk, written by program out of the law's own text. -/
import Derived.Test.YtgjdccibdgedbaaC5k
import Derived.Test.YtgjdccibdgedbaaC5u
set_option maxRecDepth 100000
namespace Go.Proofs.Ytgjdccibdgedbaa.WExactTokenize
open Go.RowKit Go.Lib Go.Proofs.Ytgjdccibdgedbaa.Com Go.Proofs.Ytgjdccibdgedbaa.Mem Go.Proofs.Ytgjdccibdgedbaa.Os Go.Proofs.Ytgjdccibdgedbaa.Tk
set_option maxHeartbeats 8000000 in
theorem walkTokenize (w : World) (s : List UInt8) (hl_s : s.length ≤ 9223372036854775807) :
    Calls Try.prog 3 #[.string ⟨s.toArray⟩] w fun e w' => e = .returned (.bool true) ∧ Below w.heap.size w w' := by
  have Z0 := hid (Below.refl w.heap.size w)
  by_cases hbig_aS : 1048576 < s.length
  · have t_aS : decide (1048576 < (s.length : Int)) = true := decide_eq_true (by omega)
    go_enter Try.func3, Try.ntmps3
    go_wp2_with fail
    go_ret
    exact ⟨rfl, Z0.out⟩
  have t_aS : decide (1048576 < (s.length : Int)) = false := decide_eq_false (by omega)
  have hz_aS : s.length ≤ 1048576 := by omega
  have bd0 : (((tokz s).1).length * 4) ≤ 4194304 := by have := tokz_len s; omega
  have cmp1 : (((tokz s).2) != ((tokz s).2)) = false := bne_self_eq_false _
  go_enter Try.func3, Try.ntmps3
  go_wp2_with fail
  have B0 := Z0
  have s0 := B0.out.size
  refine (stokz_own _ hl_s).mono ?_
  rintro e W1 ⟨r_w0, rfl, o_w0, hb⟩
  have s1 := hb.size
  have o_w0 := hid o_w0
  have B1 := hid (B0.out.trans (hb.mono (by omega)))
  clear hb
  go_wp2_with fail
  refine (itokz_own _ hl_s).mono ?_
  rintro e W2 ⟨r_g0, rfl, o_g0, hb⟩
  have s2 := hb.size
  replace o_w0 := hid (o_w0.out.same (same_below hb (by omega)))
  have o_g0 := hid o_g0
  have B2 := hid (B1.out.trans (hb.mono (by omega)))
  clear hb
  go_wp2_with fail
  refine (eqT_own _ o_g0.out o_w0.out).mono ?_
  rintro e W3 ⟨rfl, hb⟩
  have s3 := hb.size
  replace o_w0 := hid (o_w0.out.same (same_below hb (by omega)))
  replace o_g0 := hid (o_g0.out.same (same_below hb (by omega)))
  have B3 := hid (B2.out.trans (hb.mono (by omega)))
  clear hb
  go_wp2_with fail
  refine (markT_own (1) _ o_g0.out (by omega) (by omega)).mono ?_
  rintro e W4 ⟨rfl, o_g0, hc⟩
  have s4 := hc.size
  replace o_w0 := hid (o_w0.out.same (same_chg hc (by omega) (by omega)))
  replace o_g0 := hid o_g0
  have B4 := hid (below_chg B3.out hc (by omega) (by omega))
  clear hc
  go_wp2_with fail
  refine (heldT_own (1) _ o_g0.out (by omega) (by omega)).mono ?_
  rintro e W5 ⟨rfl, hb⟩
  have s5 := hb.size
  replace o_w0 := hid (o_w0.out.same (same_below hb (by omega)))
  replace o_g0 := hid (o_g0.out.same (same_below hb (by omega)))
  have B5 := hid (B4.out.trans (hb.mono (by omega)))
  clear hb
  go_wp2_with fail
  refine (itokz_own _ hl_s).mono ?_
  rintro e W6 ⟨r_h0, rfl, o_h0, hb⟩
  have s6 := hb.size
  replace o_w0 := hid (o_w0.out.same (same_below hb (by omega)))
  replace o_g0 := hid (o_g0.out.same (same_below hb (by omega)))
  have o_h0 := hid o_h0
  have B6 := hid (B5.out.trans (hb.mono (by omega)))
  clear hb
  go_wp2_with fail
  refine (eqT_own _ o_h0.out o_w0.out).mono ?_
  rintro e W7 ⟨rfl, hb⟩
  have s7 := hb.size
  replace o_w0 := hid (o_w0.out.same (same_below hb (by omega)))
  replace o_g0 := hid (o_g0.out.same (same_below hb (by omega)))
  replace o_h0 := hid (o_h0.out.same (same_below hb (by omega)))
  have B7 := hid (B6.out.trans (hb.mono (by omega)))
  clear hb
  go_wp2_with fail
  refine (heldT_own (1) _ o_g0.out (by omega) (by omega)).mono ?_
  rintro e W8 ⟨rfl, hb⟩
  have s8 := hb.size
  replace o_w0 := hid (o_w0.out.same (same_below hb (by omega)))
  replace o_g0 := hid (o_g0.out.same (same_below hb (by omega)))
  replace o_h0 := hid (o_h0.out.same (same_below hb (by omega)))
  have B8 := hid (B7.out.trans (hb.mono (by omega)))
  clear hb
  go_wp2_with fail
  go_ret
  exact ⟨rfl, B8.out⟩
end Go.Proofs.Ytgjdccibdgedbaa.WExactTokenize
