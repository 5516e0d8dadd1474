/- Reading the text of a valid expression gives the expression again: the tokens of a text. -/
import Derived.Test.YtiogceepjffmkaaGreatDoorYF7a
import Derived.Test.YtiogceepjffmkaaGreatDoorYPz
set_option maxRecDepth 100000
namespace Go.Proofs.YtiogceepjffmkaaGreatDoor.Tk
open Go.RowKit Go.Lib Num Mem Ch Tr
theorem itoa_one {n : Int} (h0 : 0 ≤ n) (h1 : n < 4) : itoa n = [UInt8.ofNat (48 + n.toNat)] := by
  unfold itoa
  rw [if_neg (by omega)]
  exact decDigits_one (by omega)
theorem valid_name {s : List UInt8} (h : C2.validB s = true) : NameS s := by
  unfold C2.validB at h
  rw [Bool.and_eq_true, Bool.and_eq_true, decide_eq_true_eq] at h
  obtain ⟨h8, hs, _⟩ := h
  cases s with
  | nil => cases hs
  | cons b r =>
    unfold C2.shape at hs
    rw [Bool.and_eq_true, List.all_eq_true] at hs
    refine ⟨b, r, rfl, hs.1, fun x hx => ?_, h8⟩
    rcases List.mem_cons.1 hx with rfl | hx
    · exact low_wd hs.1
    · exact hs.2 x hx
end Go.Proofs.YtiogceepjffmkaaGreatDoor.Tk
