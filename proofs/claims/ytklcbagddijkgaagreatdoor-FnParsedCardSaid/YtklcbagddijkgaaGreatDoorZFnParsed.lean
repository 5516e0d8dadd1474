/- FnParsed: a valid expression is parsed from its source code: the walk. -/
import Derived.Test.YtklcbagddijkgaaGreatDoorZP6o
import Derived.Test.YtklcbagddijkgaaGreatDoorZI7c
import Derived.Test.YtklcbagddijkgaaGreatDoorZP6i
import Derived.Test.YtklcbagddijkgaaGreatDoorZRt
import Derived.Test.YtklcbagddijkgaaGreatDoorZDt
import Derived.Test.YtklcbagddijkgaaGreatDoorZC4r
import Derived.Test.YtklcbagddijkgaaGreatDoorZBig
set_option maxRecDepth 100000
namespace Go.Proofs.YtklcbagddijkgaaGreatDoor.FnParsed
open Go.RowKit Go.Lib Go.Sort Go.Proofs.YtklcbagddijkgaaGreatDoor.Com Go.Proofs.YtklcbagddijkgaaGreatDoor.Mem Go.Proofs.YtklcbagddijkgaaGreatDoor.Os Go.Proofs.YtklcbagddijkgaaGreatDoor.Ow Go.Proofs.YtklcbagddijkgaaGreatDoor.Tr Go.Proofs.YtklcbagddijkgaaGreatDoor.Tk

set_option maxRecDepth 100000 in
set_option maxHeartbeats 4000000 in
theorem walk (w : World) (hnv : NotV w) (hh : As.Handle w) (hpw : L1b.Pow w) (A : Option Addr) (c : Nat) (xs : List UInt8) (hr : Rd w w.heap.size A (xs.map bv)) (_ : xs.length ≤ 9223372036854775807) :
    Calls Tryz.prog 4 #[.slice A xs.length c] w fun e w' => e = .returned (.bool true) ∧ Below w.heap.size w w' := by
  have hbig := hid (Big.big_any A xs.length c w)
  by_cases hb : 1048576 < xs.length
  · rw [decide_eq_true (show 1048576 < (xs.length : Int) by omega)] at hbig
    go_enter Tryz.func4, Tryz.ntmps4
    go_wp2_with fail
    refine hbig.out.mono ?_
    rintro e w1 ⟨rfl, rfl⟩
    go_wp2_with fail
    go_ret
    exact ⟨rfl, Below.refl _ _⟩
  rw [decide_eq_false (show ¬ 1048576 < (xs.length : Int) by omega)] at hbig
  have hd1 := hid (Dr.drawFormat A c xs w hr (by omega))
  have hnv := hid (fun (w1 : World) (h : Below w.heap.size w w1) => hnv.below h)
  have hh := hid (fun (w1 : World) (h : Below w.heap.size w w1) => hand_below hh h)
  have hpw := hid (fun (w1 : World) (h : Below w.heap.size w w1) => hpw.below h)
  clear hb hr
  go_enter Tryz.func4, Tryz.ntmps4
  go_wp2_with fail
  refine hbig.out.mono ?_
  rintro e w1 ⟨rfl, rfl⟩
  go_wp2_with fail
  refine hd1.out.mono ?_
  rintro e w1 ⟨v, t, rfl, o1, hcn, hb⟩
  obtain ⟨K, N, s, B, L, cc, rfl⟩ := o1.form
  have b2 := box_below w1 (.cells #[.int .i64 K, .int .i64 N, .string ⟨s.toArray⟩, .slice B L cc] ET)
  have B2 := hid (hb.trans (b2.mono hb.size))
  have O2 := hid (Boxed.new o1)
  clear o1 hb b2 hd1 hbig
  have hF := hid (fun w' (hp : L1b.Pow w') (h : OwnX w.heap.size w1.heap.size w' (nv K N s B L cc) t) => iformat_any t _ w' hp h.ex)
  have hG := hid (fun w' (h : OwnX w.heap.size w1.heap.size w' (nv K N s B L cc) t) => sformat_any t _ w' h.ex (by omega))
  have hV := hid (fun w' (h : OwnX w.heap.size w1.heap.size w' (nv K N s B L cc) t) => svalidE t _ w' h.ex (by omega))
  have hlen := fmtX_len t
  cases hok : okT t with
  | true =>
    have hpa := parse_txt hok
    have hne : (fmtX t != []) = true := bne_iff_ne.2 (fmtX_ne hok)
    have heq0 : (fmtX t == []) = false := beq_false_of_ne (fmtX_ne hok)
    have hI := hid (fun w' hn hh => (iparse_any (fmtX t) (by omega) w' hn hh).mono fun e w'' h => ans_ok hpa h)
    have hQ := hid (fun w' v' lo hi (h' : OwnX lo hi w' v' t) (h : OwnX w.heap.size w1.heap.size w' (nv K N s B L cc) t) => iequal t t v' _ _ _ _ _ w' h' h (by omega))
    rw [hok] at hV
    rw [eqT_self] at hQ
    have cmp : (fmtX t != fmtX t) = false := bne_self_eq_false _
    clear hok hpa
    generalize fmtX t = S at *
    obtain ⟨m0, m1, m2, m3⟩ := Tr.four O2.out.box
    go_wp2_with fail
    generalize (w1.alloc (.cells #[.int .i64 K, .int .i64 N, .string ⟨s.toArray⟩, .slice B L cc] ET)) = w2 at *
    refine (hF.out w2 (hpw.out _ B2.out) O2.out.own).mono ?_
    rintro e w3 ⟨rfl, hb⟩
    have B3 := hid (B2.out.trans (hb.mono B2.out.size))
    have O3 := hid (O2.out.below hb)
    clear hb m0 m1 m2 m3 O2 hF
    obtain ⟨m0, m1, m2, m3⟩ := Tr.four O3.out.box
    go_wp2_with fail
    refine (hG.out w3 O3.out.own).mono ?_
    rintro e w4 ⟨rfl, hb⟩
    have B4 := hid (B3.out.trans (hb.mono B3.out.size))
    have O4 := hid (O3.out.below hb)
    clear hb m0 m1 m2 m3 O3 hG
    obtain ⟨m0, m1, m2, m3⟩ := Tr.four O4.out.box
    go_wp2_with fail
    refine (hV.out w4 O4.out.own).mono ?_
    rintro e w5 ⟨rfl, hb⟩
    have B5 := hid (B4.out.trans (hb.mono B4.out.size))
    have O5 := hid (O4.out.below hb)
    clear hb m0 m1 m2 m3 O4 hV
    go_wp2_with fail
    refine (hI.out w5 (hnv.out _ B5.out) (hh.out _ B5.out)).mono ?_
    rintro e w6 ⟨K2, N2, s2, A2, L2, c2, rfl, o6, hb⟩
    have b7 := box_below w6 (.cells #[.int .i64 K2, .int .i64 N2, .string ⟨s2.toArray⟩, .slice A2 L2 c2] ET)
    have B7 := hid ((B5.out.trans (hb.mono B5.out.size)).trans (b7.mono (B5.out.trans (hb.mono B5.out.size)).size))
    have O7 := hid ((O5.out.below hb).below b7)
    have P7 := hid (Boxed.new o6)
    clear o6 hb b7 O5 hI
    obtain ⟨m0, m1, m2, m3⟩ := Tr.four O7.out.box
    obtain ⟨n0, n1, n2, n3⟩ := Tr.four P7.out.box
    go_wp2_with fail
    generalize (w6.alloc (.cells #[.int .i64 K2, .int .i64 N2, .string ⟨s2.toArray⟩, .slice A2 L2 c2] ET)) = w7 at *
    refine (hQ.out w7 _ _ _ P7.out.own O7.out.own).mono ?_
    rintro e w8 ⟨rfl, hb⟩
    have B8 := hid (B7.out.trans (hb.mono B7.out.size))
    clear hb m0 m1 m2 m3 n0 n1 n2 n3 O7 P7 hQ
    go_wp2_with fail
    go_ret
    exact ⟨rfl, B8.out⟩
  | false =>
    have hI := hid (fun w' hn hh => (iparse_any [] (by simp) w' hn hh).mono fun e w'' h => ans_err parse_nil h)
    rw [hok] at hV
    rw [fmtX_nil hok] at hF hG
    clear hok hlen
    obtain ⟨m0, m1, m2, m3⟩ := Tr.four O2.out.box
    go_wp2_with fail
    generalize (w1.alloc (.cells #[.int .i64 K, .int .i64 N, .string ⟨s.toArray⟩, .slice B L cc] ET)) = w2 at *
    refine (hF.out w2 (hpw.out _ B2.out) O2.out.own).mono ?_
    rintro e w3 ⟨rfl, hb⟩
    have B3 := hid (B2.out.trans (hb.mono B2.out.size))
    have O3 := hid (O2.out.below hb)
    clear hb m0 m1 m2 m3 O2 hF
    obtain ⟨m0, m1, m2, m3⟩ := Tr.four O3.out.box
    go_wp2_with fail
    refine (hG.out w3 O3.out.own).mono ?_
    rintro e w4 ⟨rfl, hb⟩
    have B4 := hid (B3.out.trans (hb.mono B3.out.size))
    have O4 := hid (O3.out.below hb)
    clear hb m0 m1 m2 m3 O3 hG
    obtain ⟨m0, m1, m2, m3⟩ := Tr.four O4.out.box
    go_wp2_with fail
    refine (hV.out w4 O4.out.own).mono ?_
    rintro e w5 ⟨rfl, hb⟩
    have B5 := hid (B4.out.trans (hb.mono B4.out.size))
    clear hb m0 m1 m2 m3 O4 hV
    go_wp2_with fail
    refine (hI.out w5 (hnv.out _ B5.out) (hh.out _ B5.out)).mono ?_
    rintro e w6 ⟨K2, N2, s2, A2, L2, c2, rfl, o6, hb⟩
    have b7 := box_below w6 (.cells #[.int .i64 K2, .int .i64 N2, .string ⟨s2.toArray⟩, .slice A2 L2 c2] ET)
    have B7 := hid ((B5.out.trans (hb.mono B5.out.size)).trans (b7.mono (B5.out.trans (hb.mono B5.out.size)).size))
    clear o6 hb b7 hI
    go_wp2_with fail
    go_ret
    exact ⟨rfl, B7.out⟩
end Go.Proofs.YtklcbagddijkgaaGreatDoor.FnParsed
