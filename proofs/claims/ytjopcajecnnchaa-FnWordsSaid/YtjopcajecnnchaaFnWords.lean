/- FnWords: arithmetic depends only on the operands modulo 4, results are words, and symbols are those of the operators: the walk. -/
import Derived.Test.YtjopcajecnnchaaC3e
import Derived.Test.YtjopcajecnnchaaDr3
import Derived.Test.YtjopcajecnnchaaBig
namespace Go.Proofs.Ytjopcajecnnchaa.FnWords
open Go.RowKit Go.Lib Go.Proofs.Ytjopcajecnnchaa.Com Go.Proofs.Ytjopcajecnnchaa.Mem Go.Proofs.Ytjopcajecnnchaa.C3

theorem bit_word (b : Bool) : isW (bit b) = true := by cases b <;> rfl
theorem opV_word {k x y : Int} (hx : 0 ≤ x) (hx2 : x < 4) (hy : 0 ≤ y) : isW (opV k x y) = true := by
  unfold opV
  repeat' split
  · exact isW_wrap _
  · exact isW_wrap _
  · exact isW_wrap _
  · rfl
  · have h1 : 0 ≤ x / y := Int.ediv_nonneg hx hy
    have h2 : x / y ≤ x := Int.ediv_le_self _ hx
    rw [isW_iff]; omega
  · exact bit_word _
  · exact bit_word _
  · exact bit_word _
  · exact bit_word _
  · rfl
theorem appV_word (k x y : Int) : isW (appV k x y) = true := opV_word (word_lo x) (word_hi x) (word_lo y)
theorem appV_wrap (k x y : Int) : appV k (x % 4) (y % 4) = appV k x y := by unfold appV; rw [wrap_wrap, wrap_wrap]
theorem appOk_wrap (k y : Int) : appOk k (y % 4) = appOk k y := by unfold appOk; rw [wrap_wrap]
theorem symL_in {k : Int} (h1 : 1 ≤ k) (h2 : k ≤ 8) : (symL k == [63]) = false := by
  rcases op_cases h1 h2 with rfl | rfl | rfl | rfl | rfl | rfl | rfl | rfl <;> decide
theorem symL_out {k : Int} (h : k < 1 ∨ 8 < k) : (symL k == [63]) = true := by rw [symL_not h]; rfl

set_option maxRecDepth 100000 in
set_option maxHeartbeats 4000000 in
theorem walk (w : World) (A : Option Addr) (k : Nat) (xs : List UInt8) (hr : Rd w w.heap.size A (xs.map bv)) (_ : xs.length ≤ 9223372036854775807) :
    Calls Try.prog 3 #[.slice A xs.length k] w fun e w' => e = .returned (.bool true) ∧ Below w.heap.size w w' := by
  have hbig := hid (Big.big_any A xs.length k w)
  by_cases hb : 1048576 < xs.length
  · rw [decide_eq_true (show 1048576 < (xs.length : Int) by omega)] at hbig
    go_enter Try.func3, Try.ntmps3
    go_wp2_with fail
    refine hbig.out.mono ?_
    rintro e w1 ⟨rfl, rfl⟩
    go_wp2_with fail
    go_ret
    exact ⟨rfl, Below.refl _ _⟩
  rw [decide_eq_false (show ¬ 1048576 < (xs.length : Int) by omega)] at hbig
  have hd1 := hid (Dr.drawApplyOp A k xs w hr (by omega))
  clear hb hr
  go_enter Try.func3, Try.ntmps3
  go_wp2_with fail
  refine hbig.out.mono ?_
  rintro e w1 ⟨rfl, rfl⟩
  go_wp2_with fail
  refine hd1.out.mono ?_
  rintro e w1 ⟨⟨op, x, y, h1, h2, rfl⟩, hb1⟩
  have n1 : (appV op x y != appV op x y) = false := bne_self_eq_false _
  have n2 : (appOk op y != appOk op y) = false := bne_self_eq_false _
  have n3 : (y % 4 != y % 4) = false := bne_self_eq_false _
  have q1 : (appV op x y == appV op x y) = true := beq_self_eq_true _
  have q2 : (appOk op y == appOk op y) = true := beq_self_eq_true _
  have q3 : (symL op == symL op) = true := beq_self_eq_true _
  have c1 := hid (fun w => isWord_any (appV op x y) w)
  rw [show isW (appV op x y) = true from appV_word op x y] at c1
  have c2 := hid (fun w => isWord_any (x % 4) w)
  rw [show isW (x % 4) = true from isW_wrap x] at c2
  have c3 := hid (fun w => wrap_any (y % 4) w)
  rw [show y % 4 % 4 = y % 4 from wrap_wrap y] at c3
  have c4 := hid (fun w => apply_any op (x % 4) (y % 4) w)
  rw [show appV op (x % 4) (y % 4) = appV op x y from appV_wrap op x y, show appOk op (y % 4) = appOk op y from appOk_wrap op y] at c4
  have hb1 := hid hb1
  go_wp2_with fail
  refine (apply_any op x y w1).mono ?_
  rintro e w2 ⟨rfl, hb⟩
  have hb2 := hid (hb1.out.trans (hb.mono hb1.out.size))
  clear hb
  go_wp2_with fail
  refine (sapply_any op x y w2).mono ?_
  rintro e w3 ⟨rfl, rfl⟩
  go_wp2_with fail
  refine (c1.out _).mono ?_
  rintro e w3 ⟨rfl, rfl⟩
  go_wp2_with fail
  refine (wrap_any x _).mono ?_
  rintro e w3 ⟨rfl, rfl⟩
  go_wp2_with fail
  refine (c2.out _).mono ?_
  rintro e w3 ⟨rfl, rfl⟩
  go_wp2_with fail
  refine (wrap_any y _).mono ?_
  rintro e w3 ⟨rfl, rfl⟩
  go_wp2_with fail
  refine (c3.out _).mono ?_
  rintro e w3 ⟨rfl, rfl⟩
  go_wp2_with fail
  refine (wrap_any y _).mono ?_
  rintro e w3 ⟨rfl, rfl⟩
  go_wp2_with fail
  refine (wrap_any x _).mono ?_
  rintro e w3 ⟨rfl, rfl⟩
  go_wp2_with fail
  refine (wrap_any y _).mono ?_
  rintro e w3 ⟨rfl, rfl⟩
  go_wp2_with fail
  refine (c4.out _).mono ?_
  rintro e w3 ⟨rfl, hb⟩
  have hb3 := hid (hb2.out.trans (hb.mono hb2.out.size))
  clear hb
  go_wp2_with fail
  refine (symbol_any op _).mono ?_
  rintro e w4 ⟨rfl, hb⟩
  have hb4 := hid (hb3.out.trans (hb.mono hb3.out.size))
  clear hb
  go_wp2_with fail
  refine (ssymbol_any op _).mono ?_
  rintro e w5 ⟨rfl, hb⟩
  have hb5 := hid (hb4.out.trans (hb.mono hb4.out.size))
  clear hb c1 c2 c3 c4 n1 n2 n3
  by_cases h0 : op < 1
  · have t1 : decide (op < 1) = true := decide_eq_true h0
    have t2 := symL_out (k := op) (Or.inl h0)
    go_wp2_with fail
    go_ret
    exact ⟨rfl, hb5.out⟩
  · have t1 : decide (op < 1) = false := decide_eq_false h0
    by_cases h8 : 8 < op
    · have t2 : decide (8 < op) = true := decide_eq_true h8
      have t3 := symL_out (k := op) (Or.inr h8)
      go_wp2_with fail
      go_ret
      exact ⟨rfl, hb5.out⟩
    · have t2 : decide (8 < op) = false := decide_eq_false h8
      have t3 := symL_in (k := op) (by omega) (by omega)
      go_wp2_with fail
      go_ret
      exact ⟨rfl, hb5.out⟩
end Go.Proofs.Ytjopcajecnnchaa.FnWords
