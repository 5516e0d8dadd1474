/- Chapter 3: the program's table of operators, and what the two sides answer. -/
import Derived.Test.YtlkfejcnkckgkaaC3o
set_option maxRecDepth 100000
namespace Go.Proofs.Ytlkfejcnkckgkaa.C3
open Go.RowKit Go.Lib Go.Proofs.Ytlkfejcnkckgkaa.Com Go.Proofs.Ytlkfejcnkckgkaa.Mem


theorem op1_any (x y : Int) (_ : 0 ≤ x) (_ : x < 4) (_ : 0 ≤ y) (_ : y < 4) (w : World) : Calls Try.prog 111 #[.int .i64 x, .int .i64 y] w fun e w' => e = .returned (ans (opV 1 x y) true) ∧ w = w' := by
  have hq := hid (wrap_any (x + y) w)
  have hv := hid (show opV 1 x y = (x + y) % 4 by simp [opV])
  go_enter Try.func111, Try.ntmps111
  go_wp2_with fail
  refine hq.out.mono ?_
  rintro e w' ⟨rfl, rfl⟩
  go_wp2_with fail
  go_ret2
  exact ⟨by rw [hv.out]; rfl, rfl⟩
theorem op2_any (x y : Int) (_ : 0 ≤ x) (_ : x < 4) (_ : 0 ≤ y) (_ : y < 4) (w : World) : Calls Try.prog 112 #[.int .i64 x, .int .i64 y] w fun e w' => e = .returned (ans (opV 2 x y) true) ∧ w = w' := by
  have hq := hid (wrap_any (x - y) w)
  have hv := hid (show opV 2 x y = (x - y) % 4 by simp [opV])
  go_enter Try.func112, Try.ntmps112
  go_wp2_with fail
  refine hq.out.mono ?_
  rintro e w' ⟨rfl, rfl⟩
  go_wp2_with fail
  go_ret2
  exact ⟨by rw [hv.out]; rfl, rfl⟩
theorem op3_any (x y : Int) (_ : 0 ≤ x) (_ : x < 4) (_ : 0 ≤ y) (_ : y < 4) (w : World) : Calls Try.prog 113 #[.int .i64 x, .int .i64 y] w fun e w' => e = .returned (ans (opV 3 x y) true) ∧ w = w' := by
  have hq := hid (wrap_any (x * y) w)
  have hv := hid (show opV 3 x y = (x * y) % 4 by simp [opV])
  have hm : 0 ≤ x * y ∧ x * y ≤ 9 := ⟨Int.mul_nonneg (by omega) (by omega), by
    have h1 : x * y ≤ 3 * y := Int.mul_le_mul_of_nonneg_right (by omega) (by omega)
    omega⟩
  have hin : wrap64 (x * y) = x * y := by unfold wrap64; omega
  go_enter Try.func113, Try.ntmps113
  go_wp2_with fail
  refine hq.out.mono ?_
  rintro e w' ⟨rfl, rfl⟩
  go_wp2_with fail
  go_ret2
  exact ⟨by rw [hv.out]; rfl, rfl⟩
theorem op5_any (x y : Int) (w : World) : Calls Try.prog 115 #[.int .i64 x, .int .i64 y] w fun e w' => e = .returned (ans (opV 5 x y) true) ∧ w = w' := by
  have hq := hid (truth_any (decide (x < y)) w)
  have hv := hid (show opV 5 x y = bit (decide (x < y)) by simp [opV])
  go_enter Try.func115, Try.ntmps115
  go_wp2_with fail
  refine hq.out.mono ?_
  rintro e w' ⟨rfl, rfl⟩
  go_wp2_with fail
  go_ret2
  exact ⟨by rw [hv.out]; rfl, rfl⟩
theorem op6_any (x y : Int) (w : World) : Calls Try.prog 116 #[.int .i64 x, .int .i64 y] w fun e w' => e = .returned (ans (opV 6 x y) true) ∧ w = w' := by
  have hq := hid (truth_any (x == y) w)
  have hv := hid (show opV 6 x y = bit (x == y) by simp [opV])
  go_enter Try.func116, Try.ntmps116
  go_wp2_with fail
  refine hq.out.mono ?_
  rintro e w' ⟨rfl, rfl⟩
  go_wp2_with fail
  go_ret2
  exact ⟨by rw [hv.out]; rfl, rfl⟩
theorem op7_any (x y : Int) (w : World) : Calls Try.prog 117 #[.int .i64 x, .int .i64 y] w fun e w' => e = .returned (ans (opV 7 x y) true) ∧ w = w' := by
  cases t1 : (x != 0)
  · have hq := hid (truth_any false w)
    have hv := hid (show opV 7 x y = bit false by simp [opV, t1])
    go_enter Try.func117, Try.ntmps117
    go_wp2_with fail
    refine hq.out.mono ?_
    rintro e w' ⟨rfl, rfl⟩
    go_wp2_with fail
    go_ret2
    exact ⟨by rw [hv.out]; rfl, rfl⟩
  · have hq := hid (truth_any (y != 0) w)
    have hv := hid (show opV 7 x y = bit (y != 0) by simp [opV, t1])
    go_enter Try.func117, Try.ntmps117
    go_wp2_with fail
    refine hq.out.mono ?_
    rintro e w' ⟨rfl, rfl⟩
    go_wp2_with fail
    go_ret2
    exact ⟨by rw [hv.out]; rfl, rfl⟩
theorem op8_any (x y : Int) (w : World) : Calls Try.prog 118 #[.int .i64 x, .int .i64 y] w fun e w' => e = .returned (ans (opV 8 x y) true) ∧ w = w' := by
  cases t1 : (x != 0)
  · have hq := hid (truth_any (y != 0) w)
    have hv := hid (show opV 8 x y = bit (y != 0) by simp [opV, t1])
    go_enter Try.func118, Try.ntmps118
    go_wp2_with fail
    refine hq.out.mono ?_
    rintro e w' ⟨rfl, rfl⟩
    go_wp2_with fail
    go_ret2
    exact ⟨by rw [hv.out]; rfl, rfl⟩
  · have hq := hid (truth_any true w)
    have hv := hid (show opV 8 x y = bit true by simp [opV, t1])
    go_enter Try.func118, Try.ntmps118
    go_wp2_with fail
    refine hq.out.mono ?_
    rintro e w' ⟨rfl, rfl⟩
    go_wp2_with fail
    go_ret2
    exact ⟨by rw [hv.out]; rfl, rfl⟩
theorem op4_any (x y : Int) (_ : 0 ≤ x) (_ : x < 4) (_ : 0 ≤ y) (_ : y < 4) (w : World) : Calls Try.prog 114 #[.int .i64 x, .int .i64 y] w fun e w' => e = .returned (ans (opV 4 x y) (opOk 4 y)) ∧ w = w' := by
  cases t1 : (y == 0)
  · have hv := hid (show opV 4 x y = x / y by simp [opV]; intro h; simp [h] at t1)
    have ho := hid (show opOk 4 y = true by simp only [opOk, t1]; rfl)
    have hz : y ≠ 0 := by simpa using t1
    go_enter Try.func114, Try.ntmps114
    go_wp2_with fail
    go_ret2
    exact ⟨by rw [hv.out, ho.out]; rfl, rfl⟩
  · have hz : y = 0 := by simpa using t1
    have hv := hid (show opV 4 x y = 0 by simp [opV, hz])
    have ho := hid (show opOk 4 y = false by simp only [opOk, t1]; rfl)
    clear hz
    go_enter Try.func114, Try.ntmps114
    go_wp2_with fail
    go_ret2
    exact ⟨by rw [hv.out, ho.out]; rfl, rfl⟩
end Go.Proofs.Ytlkfejcnkckgkaa.C3
