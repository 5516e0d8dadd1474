/- Chapter 3's draws. -/
import Derived.Test.YtlkfejcnkckgkaaDr0
set_option maxRecDepth 100000
namespace Go.Proofs.Ytlkfejcnkckgkaa.Dr
open Go.RowKit Go.Lib Go.Proofs.Ytlkfejcnkckgkaa.Com Go.Proofs.Ytlkfejcnkckgkaa.Mem Go.Proofs.Ytlkfejcnkckgkaa.Cur

def words3 : List Int := [0, 1, 2, 3, 4, -1, 7, -8, 9223372036854775807, -9223372036854775808]
theorem words3_in : ∀ x ∈ words3, -9223372036854775808 ≤ x ∧ x ≤ 9223372036854775807 := by decide
set_option maxHeartbeats 1000000 in
theorem any3 (g : Nat) (A : Option Addr) (c : Nat) (xs : List UInt8) (w : World) (hc : CurAt w g A c xs) :
    Calls Try.prog 53 #[.pointer (some ⟨g, 0, none⟩)] w fun e w' => (∃ n : Int, -9223372036854775808 ≤ n ∧ n ≤ 9223372036854775807 ∧ e = .returned (.int .i64 n)) ∧ Drew w g A c xs w' := by
  have hp := hid (pickInt_lit g A c xs words3 w hc (by decide) (by decide))
  clear hc
  go_enter Try.func53, Try.ntmps53
  go_wp2_with fail
  refine hp.out.mono ?_
  rintro e w1 ⟨⟨s, hs, rfl⟩, hd⟩
  have hs := words3_in s hs
  have hd := hid hd
  go_wp2_with fail
  go_ret
  exact ⟨⟨s, hs.1, hs.2, rfl⟩, hd.out⟩
end Go.Proofs.Ytlkfejcnkckgkaa.Dr
