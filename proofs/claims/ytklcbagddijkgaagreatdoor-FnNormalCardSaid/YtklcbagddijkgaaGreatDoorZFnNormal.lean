/- FnNormal: normalized code is parsed to the same expression, and normalizing is idempotent: the walk. -/
import Derived.Test.YtklcbagddijkgaaGreatDoorZI7c
import Derived.Test.YtklcbagddijkgaaGreatDoorZDt
import Derived.Test.YtklcbagddijkgaaGreatDoorZC4r
import Derived.Test.YtklcbagddijkgaaGreatDoorZBig
set_option maxRecDepth 100000
namespace Go.Proofs.YtklcbagddijkgaaGreatDoor.FnNormal
open Go.RowKit Go.Lib Go.Sort Go.Proofs.YtklcbagddijkgaaGreatDoor.Com Go.Proofs.YtklcbagddijkgaaGreatDoor.Mem Go.Proofs.YtklcbagddijkgaaGreatDoor.Os Go.Proofs.YtklcbagddijkgaaGreatDoor.Ow Go.Proofs.YtklcbagddijkgaaGreatDoor.Tr Go.Proofs.YtklcbagddijkgaaGreatDoor.Tk

set_option maxRecDepth 100000 in
set_option maxHeartbeats 4000000 in
theorem walk (w : World) (hnv : NotV w) (hh : As.Handle w) (hpw : L1b.Pow w) (A : Option Addr) (c : Nat) (xs : List UInt8) (hr : Rd w w.heap.size A (xs.map bv)) (_ : xs.length ≤ 9223372036854775807) :
    Calls Tryz.prog 5 #[.slice A xs.length c] w fun e w' => e = .returned (.bool true) ∧ Below w.heap.size w w' := by
  have hbig := hid (Big.big_any A xs.length c w)
  by_cases hb : 1048576 < xs.length
  · rw [decide_eq_true (show 1048576 < (xs.length : Int) by omega)] at hbig
    go_enter Tryz.func5, Tryz.ntmps5
    go_wp2_with fail
    refine hbig.out.mono ?_
    rintro e w1 ⟨rfl, rfl⟩
    go_wp2_with fail
    go_ret
    exact ⟨rfl, Below.refl _ _⟩
  rw [decide_eq_false (show ¬ 1048576 < (xs.length : Int) by omega)] at hbig
  have hd1 := hid (Dr.drawNormalize A c xs w hr (by omega))
  have hnv := hid (fun (w1 : World) (h : Below w.heap.size w w1) => hnv.below h)
  have hh := hid (fun (w1 : World) (h : Below w.heap.size w w1) => hand_below hh h)
  have hpw := hid (fun (w1 : World) (h : Below w.heap.size w w1) => hpw.below h)
  clear hb hr
  go_enter Tryz.func5, Tryz.ntmps5
  go_wp2_with fail
  refine hbig.out.mono ?_
  rintro e w1 ⟨rfl, rfl⟩
  go_wp2_with fail
  refine hd1.out.mono ?_
  rintro e w1 ⟨⟨S, rfl, hS⟩, hb⟩
  have B1 := hid hb
  clear hb hd1 hbig
  have hN := fun w' hn hh hp => inorm_any S (by omega) w' hn hh hp
  have hM := fun w' => snorm_any S (by omega) w'
  rcases parse_off S with ⟨t, hR, hok⟩ | ⟨a, hR, h0, _⟩
  · rw [norm_ok hR] at hN hM
    have hN := hid hN
    have hM := hid hM
    have hlen := fmtX_len t
    have hI := hid (fun w' hn hh => (iparse_any S (by omega) w' hn hh).mono fun e w'' h => ans_ok hR h)
    have hpa := parse_txt hok
    have hJ := hid (fun w' hn hh => (iparse_any (fmtX t) (by omega) w' hn hh).mono fun e w'' h => ans_ok hpa h)
    have hU := fun w' hn hh hp => inorm_any (fmtX t) (by omega) w' hn hh hp
    rw [norm_ok hpa] at hU
    have hU := hid hU
    have hcn := ok_cnt hok
    have hQ := hid (fun w' v v' lo hi lo' hi' (h' : OwnX lo' hi' w' v' t) (h : OwnX lo hi w' v t) => iequal t t v' v _ _ _ _ w' h' h hcn)
    rw [eqT_self] at hQ
    have cmp : (fmtX t != fmtX t) = false := bne_self_eq_false _
    have cmp2 : (fmtX t == fmtX t) = true := beq_self_eq_true _
    clear hpa hok hR
    generalize fmtX t = F at *
    dsimp only at hN hM hU
    go_wp2_with fail
    refine (hN.out w1 (hnv.out _ B1.out) (hh.out _ B1.out) (hpw.out _ B1.out)).mono ?_
    rintro e w2 ⟨rfl, hb⟩
    have B2 := hid (B1.out.trans (hb.mono B1.out.size))
    clear hb hN
    go_wp2_with fail
    refine (hM.out w2).mono ?_
    rintro e w3 ⟨rfl, hb⟩
    have B3 := hid (B2.out.trans (hb.mono B2.out.size))
    clear hb hM
    go_wp2_with fail
    refine (hI.out w3 (hnv.out _ B3.out) (hh.out _ B3.out)).mono ?_
    rintro e w4 ⟨K, N, s, A1, L, cc, rfl, o4, hb⟩
    have b5 := box_below w4 (.cells #[.int .i64 K, .int .i64 N, .string ⟨s.toArray⟩, .slice A1 L cc] ET)
    have B5 := hid ((B3.out.trans (hb.mono B3.out.size)).trans (b5.mono (B3.out.trans (hb.mono B3.out.size)).size))
    have O5 := hid (Boxed.new o4)
    clear o4 hb b5 hI
    go_wp2_with fail
    generalize (w4.alloc (.cells #[.int .i64 K, .int .i64 N, .string ⟨s.toArray⟩, .slice A1 L cc] ET)) = w5 at *
    refine (hJ.out w5 (hnv.out _ B5.out) (hh.out _ B5.out)).mono ?_
    rintro e w6 ⟨K2, N2, s2, A2, L2, c2, rfl, o6, hb⟩
    have b7 := box_below w6 (.cells #[.int .i64 K2, .int .i64 N2, .string ⟨s2.toArray⟩, .slice A2 L2 c2] ET)
    have B7 := hid ((B5.out.trans (hb.mono B5.out.size)).trans (b7.mono (B5.out.trans (hb.mono B5.out.size)).size))
    have O7 := hid ((O5.out.below hb).below b7)
    have P7 := hid (Boxed.new o6)
    clear o6 hb b7 O5 hJ
    go_wp2_with fail
    generalize (w6.alloc (.cells #[.int .i64 K2, .int .i64 N2, .string ⟨s2.toArray⟩, .slice A2 L2 c2] ET)) = w7 at *
    refine (hU.out w7 (hnv.out _ B7.out) (hh.out _ B7.out) (hpw.out _ B7.out)).mono ?_
    rintro e w8 ⟨rfl, hb⟩
    have B8 := hid (B7.out.trans (hb.mono B7.out.size))
    have O8 := hid (O7.out.below hb)
    have P8 := hid (P7.out.below hb)
    clear hb O7 P7 hU
    obtain ⟨m0, m1, m2, m3⟩ := Tr.four O8.out.box
    obtain ⟨n0, n1, n2, n3⟩ := Tr.four P8.out.box
    go_wp2_with fail
    refine (hQ.out w8 _ _ _ _ _ _ P8.out.own O8.out.own).mono ?_
    rintro e w9 ⟨rfl, hb⟩
    have B9 := hid (B8.out.trans (hb.mono B8.out.size))
    clear hb m0 m1 m2 m3 n0 n1 n2 n3 O8 P8 hQ
    go_wp2_with fail
    go_ret
    exact ⟨rfl, B9.out⟩
  · rw [norm_err hR] at hN hM
    have hN := hid hN
    have hM := hid hM
    have hI := hid (fun w' hn hh => (iparse_any S (by omega) w' hn hh).mono fun e w'' h => ans_err hR h)
    have t1 : decide (0 ≤ a) = true := decide_eq_true h0
    clear hR
    dsimp only at hN hM
    go_wp2_with fail
    refine (hN.out w1 (hnv.out _ B1.out) (hh.out _ B1.out) (hpw.out _ B1.out)).mono ?_
    rintro e w2 ⟨rfl, hb⟩
    have B2 := hid (B1.out.trans (hb.mono B1.out.size))
    clear hb hN
    go_wp2_with fail
    refine (hM.out w2).mono ?_
    rintro e w3 ⟨rfl, hb⟩
    have B3 := hid (B2.out.trans (hb.mono B2.out.size))
    clear hb hM
    go_wp2_with fail
    refine (hI.out w3 (hnv.out _ B3.out) (hh.out _ B3.out)).mono ?_
    rintro e w4 ⟨K, N, s, A1, L, cc, rfl, o4, hb⟩
    have b5 := box_below w4 (.cells #[.int .i64 K, .int .i64 N, .string ⟨s.toArray⟩, .slice A1 L cc] ET)
    have B5 := hid ((B3.out.trans (hb.mono B3.out.size)).trans (b5.mono (B3.out.trans (hb.mono B3.out.size)).size))
    clear o4 hb b5 hI
    go_wp2_with fail
    go_ret
    exact ⟨rfl, B5.out⟩
end Go.Proofs.YtklcbagddijkgaaGreatDoor.FnNormal
