/- Chapter 3's draws. -/
import Derived.Test.YtjopcajecnnchaaDr0
namespace Go.Proofs.Ytjopcajecnnchaa.Dr
open Go.RowKit Go.Lib Go.Proofs.Ytjopcajecnnchaa.Com Go.Proofs.Ytjopcajecnnchaa.Mem Go.Proofs.Ytjopcajecnnchaa.Cur

def words3 : List Int := [0, 1, 2, 3, 4, -1, 7, -8, 9223372036854775807, -9223372036854775808]
theorem words3_in : ∀ x ∈ words3, -9223372036854775808 ≤ x ∧ x ≤ 9223372036854775807 := by decide
set_option maxHeartbeats 1000000 in
theorem any3 (g : Nat) (A : Option Addr) (c : Nat) (xs : List UInt8) (w : World) (hc : CurAt w g A c xs) :
    Calls Try.prog 28 #[.pointer (some ⟨g, 0, none⟩)] w fun e w' => (∃ n : Int, -9223372036854775808 ≤ n ∧ n ≤ 9223372036854775807 ∧ e = .returned (.int .i64 n)) ∧ Drew w g A c xs w' := by
  have hp := hid (pickInt_lit g A c xs words3 w hc (by decide) (by decide))
  clear hc
  go_enter Try.func28, Try.ntmps28
  go_wp2_with fail
  refine hp.out.mono ?_
  rintro e w1 ⟨⟨s, hs, rfl⟩, hd⟩
  have hs := words3_in s hs
  have hd := hid hd
  go_wp2_with fail
  go_ret
  exact ⟨⟨s, hs.1, hs.2, rfl⟩, hd.out⟩
set_option maxHeartbeats 1000000 in
theorem drawApplyOp (A : Option Addr) (c : Nat) (xs : List UInt8) (w : World) (hr : Rd w w.heap.size A (xs.map bv)) (hn : xs.length ≤ 1048576) :
    Calls Try.prog 11 #[.slice A xs.length c] w fun e w' => (∃ k x y : Int, -1 ≤ k ∧ k ≤ 9 ∧ e = .returned (.tuple #[.int .i64 k, .int .i64 x, .int .i64 y])) ∧ Below w.heap.size w w' := by
  have h1 := hid (new_any A c xs w hr hn)
  clear hr hn
  go_enter Try.func11, Try.ntmps11
  go_wp2_with fail
  refine h1.out.mono ?_
  rintro e w1 ⟨g, hg, rfl, hc, hb⟩
  go_wp2_with fail
  refine (below_any g A c xs 11 w1 hc (by omega) (by omega)).mono ?_
  rintro e w2 ⟨⟨q, rfl, hq, hq2⟩, hd⟩
  have hb2 := hid (drew_below hg hb hd)
  have hc2 := hd.1
  have hq : q < 11 := by omega
  clear hd hc hb
  go_wp2_with fail
  refine (any3 g A c xs w2 hc2).mono ?_
  rintro e w3 ⟨⟨x, hx1, hx2, rfl⟩, hd⟩
  have hb3 := hid (drew_below hg hb2.out hd)
  have hc3 := hd.1
  clear hd hc2 hb2
  go_wp2_with fail
  refine (any3 g A c xs w3 hc3).mono ?_
  rintro e w4 ⟨⟨y, hy1, hy2, rfl⟩, hd⟩
  have hb4 := hid (drew_below hg hb3.out hd)
  clear hd hc3 hb3
  go_wp2_with fail
  go_ret3
  exact ⟨⟨_, x, y, by omega, by omega, rfl⟩, hb4.out⟩
set_option maxHeartbeats 1000000 in
theorem drawAllStates (A : Option Addr) (c : Nat) (xs : List UInt8) (w : World) (hr : Rd w w.heap.size A (xs.map bv)) (hn : xs.length ≤ 1048576) :
    Calls Try.prog 18 #[.slice A xs.length c] w fun e w' => (∃ n : Int, -1 ≤ n ∧ n ≤ 3 ∧ e = .returned (.int .i64 n)) ∧ Below w.heap.size w w' := by
  have h1 := hid (new_any A c xs w hr hn)
  clear hr hn
  go_enter Try.func18, Try.ntmps18
  go_wp2_with fail
  refine h1.out.mono ?_
  rintro e w1 ⟨g, hg, rfl, hc, hb⟩
  go_wp2_with fail
  refine (below_any g A c xs 5 w1 hc (by omega) (by omega)).mono ?_
  rintro e w2 ⟨⟨q, rfl, hq, hq2⟩, hd⟩
  have hb2 := hid (drew_below hg hb hd)
  have hq : q < 5 := by omega
  clear hd hc hb
  go_wp2_with fail
  go_ret
  exact ⟨⟨_, by omega, by omega, rfl⟩, hb2.out⟩
end Go.Proofs.Ytjopcajecnnchaa.Dr
