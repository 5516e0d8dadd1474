/- FnExactParseNumber and FnExactParseInt: for every string the program's ParseNumber and ParseInt answer as the model's. Conditions: none. -/
import Derived.Test.YtkoppcpkkpgaiaaSn
import Derived.Test.YtkoppcpkkpgaiaaClose
namespace Go.Proofs.Ytkoppcpkkpgaiaa.L1a
open Go.RowKit Go.Lib Go.Proofs.Ytkoppcpkkpgaiaa.Num Go.Proofs.Ytkoppcpkkpgaiaa.Com Go.Proofs.Ytkoppcpkkpgaiaa.C1 Go.Proofs.Ytkoppcpkkpgaiaa.Sn

set_option maxHeartbeats 400000 in
theorem walkNumber (w : World) (l : List UInt8) (hl : l.length ≤ 9223372036854775807) : Calls Try.prog 4 #[.string ⟨l.toArray⟩] w fun e w' => e = .returned (.bool true) ∧ Below w.heap.size w w' := by
  by_cases hbig : 1048576 < l.length
  · have t0 : decide (1048576 < (l.length : Int)) = true := decide_eq_true (by omega)
    go_enter Try.func4, Try.ntmps4
    go_wp2_with fail
    go_ret
    exact ⟨rfl, Below.refl _ _⟩
  · have t0 : decide (1048576 < (l.length : Int)) = false := decide_eq_false (by omega)
    cases hn : numOf l 6 with
    | some n =>
      have h1 := hid (specNumber_some hn w hl)
      have h2 := hid (fun w => parseNumber_some w hn hl)
      clear hn hbig
      go_enter Try.func4, Try.ntmps4
      go_wp2_with fail
      refine h1.out.mono ?_
      rintro e w' ⟨rfl, hb⟩
      go_wp2_with fail
      refine (h2.out _).mono ?_
      rintro e w' ⟨rfl, rfl⟩
      go_wp2_with fail
      go_ret
      exact ⟨rfl, hb⟩
    | none =>
      have h1 := hid (specNumber_none hn w hl)
      have h2 := hid (fun w => parseNumber_none w hn hl)
      clear hn hbig
      go_enter Try.func4, Try.ntmps4
      go_wp2_with fail
      refine h1.out.mono ?_
      rintro e w' ⟨rfl, hb⟩
      go_wp2_with fail
      refine (h2.out _).mono ?_
      rintro e w' ⟨rfl, rfl⟩
      go_wp2_with fail
      go_ret
      exact ⟨rfl, hb⟩

set_option maxHeartbeats 400000 in
theorem walkInt (w : World) (l : List UInt8) (hl : l.length ≤ 9223372036854775807) : Calls Try.prog 5 #[.string ⟨l.toArray⟩] w fun e w' => e = .returned (.bool true) ∧ Below w.heap.size w w' := by
  by_cases hbig : 1048576 < l.length
  · have t0 : decide (1048576 < (l.length : Int)) = true := decide_eq_true (by omega)
    go_enter Try.func5, Try.ntmps5
    go_wp2_with fail
    go_ret
    exact ⟨rfl, Below.refl _ _⟩
  · have t0 : decide (1048576 < (l.length : Int)) = false := decide_eq_false (by omega)
    cases hn : Num.intOf l 12 with
    | some n =>
      have h1 := hid (specInt_some hn w hl)
      have h2 := hid (fun w => parseInt_some w hn hl)
      clear hn hbig
      go_enter Try.func5, Try.ntmps5
      go_wp2_with fail
      refine h1.out.mono ?_
      rintro e w' ⟨rfl, hb⟩
      go_wp2_with fail
      refine (h2.out _).mono ?_
      rintro e w' ⟨rfl, rfl⟩
      go_wp2_with fail
      go_ret
      exact ⟨rfl, hb⟩
    | none =>
      have h1 := hid (specInt_none hn w hl)
      have h2 := hid (fun w => parseInt_none w hn hl)
      clear hn hbig
      go_enter Try.func5, Try.ntmps5
      go_wp2_with fail
      refine h1.out.mono ?_
      rintro e w' ⟨rfl, hb⟩
      go_wp2_with fail
      refine (h2.out _).mono ?_
      rintro e w' ⟨rfl, rfl⟩
      go_wp2_with fail
      go_ret
      exact ⟨rfl, hb⟩
end Go.Proofs.Ytkoppcpkkpgaiaa.L1a
