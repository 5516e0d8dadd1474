/- Chapter 3: the model's ApplyOp and OpSymbol. -/
import Derived.Test.YtlkfejcnkckgkaaC3o
set_option maxRecDepth 100000
namespace Go.Proofs.Ytlkfejcnkckgkaa.C3
open Go.RowKit Go.Lib Go.Sort Go.Proofs.Ytlkfejcnkckgkaa.Com Go.Proofs.Ytlkfejcnkckgkaa.Mem
set_option maxHeartbeats 1000000 in
theorem sapply1 (x y : Int) (w : World) : Calls Try.prog 81 #[.int .i64 1, .int .i64 x, .int .i64 y] w fun e w' => e = .returned (ans (opV 1 (x % 4) (y % 4)) (true)) ∧ w = w' := by
  have h1 := hid (swrap_any x w)
  have h2 := hid (swrap_any y w)
  have wx := word_lo x
  have wx2 := word_hi x
  have wy := word_lo y
  have wy2 := word_hi y
  generalize x % 4 = u at *
  generalize y % 4 = v at *
  have h3 := hid (swrap_any (u + v) w)
  have hv := hid (show opV 1 u v = (u + v) % 4 by simp [opV])
  go_enter Try.func81, Try.ntmps81
  go_wp2_with fail
  refine h1.out.mono ?_
  rintro e w1 ⟨rfl, rfl⟩
  go_wp2_with fail
  refine h2.out.mono ?_
  rintro e w1 ⟨rfl, rfl⟩
  go_wp2_with fail
  refine h3.out.mono ?_
  rintro e w1 ⟨rfl, rfl⟩
  go_wp2_with fail
  go_ret2
  exact ⟨by rw [hv.out]; rfl, rfl⟩
set_option maxHeartbeats 1000000 in
theorem sapply2 (x y : Int) (w : World) : Calls Try.prog 81 #[.int .i64 2, .int .i64 x, .int .i64 y] w fun e w' => e = .returned (ans (opV 2 (x % 4) (y % 4)) (true)) ∧ w = w' := by
  have h1 := hid (swrap_any x w)
  have h2 := hid (swrap_any y w)
  have wx := word_lo x
  have wx2 := word_hi x
  have wy := word_lo y
  have wy2 := word_hi y
  generalize x % 4 = u at *
  generalize y % 4 = v at *
  have h3 := hid (swrap_any (u - v) w)
  have hv := hid (show opV 2 u v = (u - v) % 4 by simp [opV])
  go_enter Try.func81, Try.ntmps81
  go_wp2_with fail
  refine h1.out.mono ?_
  rintro e w1 ⟨rfl, rfl⟩
  go_wp2_with fail
  refine h2.out.mono ?_
  rintro e w1 ⟨rfl, rfl⟩
  go_wp2_with fail
  refine h3.out.mono ?_
  rintro e w1 ⟨rfl, rfl⟩
  go_wp2_with fail
  go_ret2
  exact ⟨by rw [hv.out]; rfl, rfl⟩
set_option maxHeartbeats 1000000 in
theorem sapply3 (x y : Int) (w : World) : Calls Try.prog 81 #[.int .i64 3, .int .i64 x, .int .i64 y] w fun e w' => e = .returned (ans (opV 3 (x % 4) (y % 4)) (true)) ∧ w = w' := by
  have h1 := hid (swrap_any x w)
  have h2 := hid (swrap_any y w)
  have wx := word_lo x
  have wx2 := word_hi x
  have wy := word_lo y
  have wy2 := word_hi y
  generalize x % 4 = u at *
  generalize y % 4 = v at *
  have hm : 0 ≤ u * v ∧ u * v ≤ 9 := ⟨Int.mul_nonneg (by omega) (by omega), by
    have h1 : u * v ≤ 3 * v := Int.mul_le_mul_of_nonneg_right (by omega) (by omega)
    omega⟩
  have hin : wrap64 (u * v) = u * v := by unfold wrap64; omega
  have h3 := hid (swrap_any (u * v) w)
  have hv := hid (show opV 3 u v = (u * v) % 4 by simp [opV])
  go_enter Try.func81, Try.ntmps81
  go_wp2_with fail
  refine h1.out.mono ?_
  rintro e w1 ⟨rfl, rfl⟩
  go_wp2_with fail
  refine h2.out.mono ?_
  rintro e w1 ⟨rfl, rfl⟩
  go_wp2_with fail
  refine h3.out.mono ?_
  rintro e w1 ⟨rfl, rfl⟩
  go_wp2_with fail
  go_ret2
  exact ⟨by rw [hv.out]; rfl, rfl⟩
set_option maxHeartbeats 1000000 in
theorem sapply4 (x y : Int) (w : World) : Calls Try.prog 81 #[.int .i64 4, .int .i64 x, .int .i64 y] w fun e w' => e = .returned (ans (opV 4 (x % 4) (y % 4)) (opOk 4 (y % 4))) ∧ w = w' := by
  have h1 := hid (swrap_any x w)
  have h2 := hid (swrap_any y w)
  have wx := word_lo x
  have wx2 := word_hi x
  have wy := word_lo y
  have wy2 := word_hi y
  generalize x % 4 = u at *
  generalize y % 4 = v at *
  by_cases hz : 0 < v
  · have t1 : decide (0 < v) = true := decide_eq_true hz
    have hv := hid (show opV 4 u v = u / v by simp [opV]; omega)
    have ho := hid (show opOk 4 v = true by simp [opOk, inB]; omega)
    go_enter Try.func81, Try.ntmps81
    go_wp2_with fail
    refine h1.out.mono ?_
    rintro e w1 ⟨rfl, rfl⟩
    go_wp2_with fail
    refine h2.out.mono ?_
    rintro e w1 ⟨rfl, rfl⟩
    go_wp2_with fail
    go_ret2
    exact ⟨by rw [hv.out, ho.out]; rfl, rfl⟩
  · have t1 : decide (0 < v) = false := decide_eq_false hz
    have hv := hid (show opV 4 u v = 0 by simp [opV]; omega)
    have ho := hid (show opOk 4 v = false by simp [opOk, inB]; omega)
    clear hz
    go_enter Try.func81, Try.ntmps81
    go_wp2_with fail
    refine h1.out.mono ?_
    rintro e w1 ⟨rfl, rfl⟩
    go_wp2_with fail
    refine h2.out.mono ?_
    rintro e w1 ⟨rfl, rfl⟩
    go_wp2_with fail
    go_ret2
    exact ⟨by rw [hv.out, ho.out]; rfl, rfl⟩
set_option maxHeartbeats 1000000 in
theorem sapply5 (x y : Int) (w : World) : Calls Try.prog 81 #[.int .i64 5, .int .i64 x, .int .i64 y] w fun e w' => e = .returned (ans (opV 5 (x % 4) (y % 4)) (true)) ∧ w = w' := by
  have h1 := hid (swrap_any x w)
  have h2 := hid (swrap_any y w)
  have wx := word_lo x
  have wx2 := word_hi x
  have wy := word_lo y
  have wy2 := word_hi y
  generalize x % 4 = u at *
  generalize y % 4 = v at *
  have h3 := hid (sbit_any (decide (u < v)) w)
  have hv := hid (show opV 5 u v = bit (decide (u < v)) by simp [opV])
  go_enter Try.func81, Try.ntmps81
  go_wp2_with fail
  refine h1.out.mono ?_
  rintro e w1 ⟨rfl, rfl⟩
  go_wp2_with fail
  refine h2.out.mono ?_
  rintro e w1 ⟨rfl, rfl⟩
  go_wp2_with fail
  refine h3.out.mono ?_
  rintro e w1 ⟨rfl, rfl⟩
  go_wp2_with fail
  go_ret2
  exact ⟨by rw [hv.out]; rfl, rfl⟩
set_option maxHeartbeats 1000000 in
theorem sapply6 (x y : Int) (w : World) : Calls Try.prog 81 #[.int .i64 6, .int .i64 x, .int .i64 y] w fun e w' => e = .returned (ans (opV 6 (x % 4) (y % 4)) (true)) ∧ w = w' := by
  have h1 := hid (swrap_any x w)
  have h2 := hid (swrap_any y w)
  have wx := word_lo x
  have wx2 := word_hi x
  have wy := word_lo y
  have wy2 := word_hi y
  generalize x % 4 = u at *
  generalize y % 4 = v at *
  have h3 := hid (sbit_any (u == v) w)
  have hv := hid (show opV 6 u v = bit (u == v) by simp [opV])
  go_enter Try.func81, Try.ntmps81
  go_wp2_with fail
  refine h1.out.mono ?_
  rintro e w1 ⟨rfl, rfl⟩
  go_wp2_with fail
  refine h2.out.mono ?_
  rintro e w1 ⟨rfl, rfl⟩
  go_wp2_with fail
  refine h3.out.mono ?_
  rintro e w1 ⟨rfl, rfl⟩
  go_wp2_with fail
  go_ret2
  exact ⟨by rw [hv.out]; rfl, rfl⟩
set_option maxHeartbeats 1000000 in
theorem sapply7 (x y : Int) (w : World) : Calls Try.prog 81 #[.int .i64 7, .int .i64 x, .int .i64 y] w fun e w' => e = .returned (ans (opV 7 (x % 4) (y % 4)) (true)) ∧ w = w' := by
  have h1 := hid (swrap_any x w)
  have h2 := hid (swrap_any y w)
  have wx := word_lo x
  have wx2 := word_hi x
  have wy := word_lo y
  have wy2 := word_hi y
  generalize x % 4 = u at *
  generalize y % 4 = v at *
  cases t1 : (u != 0)
  · have h3 := hid (sbit_any (false) w)
    have hv := hid (show opV 7 u v = bit (false) by simp [opV, t1])
    go_enter Try.func81, Try.ntmps81
    go_wp2_with fail
    refine h1.out.mono ?_
    rintro e w1 ⟨rfl, rfl⟩
    go_wp2_with fail
    refine h2.out.mono ?_
    rintro e w1 ⟨rfl, rfl⟩
    go_wp2_with fail
    refine h3.out.mono ?_
    rintro e w1 ⟨rfl, rfl⟩
    go_wp2_with fail
    go_ret2
    exact ⟨by rw [hv.out]; rfl, rfl⟩
  · have h3 := hid (sbit_any (v != 0) w)
    have hv := hid (show opV 7 u v = bit (v != 0) by simp [opV, t1])
    go_enter Try.func81, Try.ntmps81
    go_wp2_with fail
    refine h1.out.mono ?_
    rintro e w1 ⟨rfl, rfl⟩
    go_wp2_with fail
    refine h2.out.mono ?_
    rintro e w1 ⟨rfl, rfl⟩
    go_wp2_with fail
    refine h3.out.mono ?_
    rintro e w1 ⟨rfl, rfl⟩
    go_wp2_with fail
    go_ret2
    exact ⟨by rw [hv.out]; rfl, rfl⟩
set_option maxHeartbeats 1000000 in
theorem sapply8 (x y : Int) (w : World) : Calls Try.prog 81 #[.int .i64 8, .int .i64 x, .int .i64 y] w fun e w' => e = .returned (ans (opV 8 (x % 4) (y % 4)) (true)) ∧ w = w' := by
  have h1 := hid (swrap_any x w)
  have h2 := hid (swrap_any y w)
  have wx := word_lo x
  have wx2 := word_hi x
  have wy := word_lo y
  have wy2 := word_hi y
  generalize x % 4 = u at *
  generalize y % 4 = v at *
  cases t1 : (u != 0)
  · have h3 := hid (sbit_any (v != 0) w)
    have hv := hid (show opV 8 u v = bit (v != 0) by simp [opV, t1])
    go_enter Try.func81, Try.ntmps81
    go_wp2_with fail
    refine h1.out.mono ?_
    rintro e w1 ⟨rfl, rfl⟩
    go_wp2_with fail
    refine h2.out.mono ?_
    rintro e w1 ⟨rfl, rfl⟩
    go_wp2_with fail
    refine h3.out.mono ?_
    rintro e w1 ⟨rfl, rfl⟩
    go_wp2_with fail
    go_ret2
    exact ⟨by rw [hv.out]; rfl, rfl⟩
  · have h3 := hid (sbit_any (true) w)
    have hv := hid (show opV 8 u v = bit (true) by simp [opV, t1])
    go_enter Try.func81, Try.ntmps81
    go_wp2_with fail
    refine h1.out.mono ?_
    rintro e w1 ⟨rfl, rfl⟩
    go_wp2_with fail
    refine h2.out.mono ?_
    rintro e w1 ⟨rfl, rfl⟩
    go_wp2_with fail
    refine h3.out.mono ?_
    rintro e w1 ⟨rfl, rfl⟩
    go_wp2_with fail
    go_ret2
    exact ⟨by rw [hv.out]; rfl, rfl⟩
set_option maxHeartbeats 1000000 in
theorem sapply_not (k x y : Int) (hk : k < 1 ∨ 8 < k) (w : World) : Calls Try.prog 81 #[.int .i64 k, .int .i64 x, .int .i64 y] w fun e w' => e = .returned (ans 0 false) ∧ w = w' := by
  have h1 := hid (swrap_any x w)
  have h2 := hid (swrap_any y w)
  have e1 : (k == 1) = false := beq_false_of_ne (by omega)
  have e2 : (k == 2) = false := beq_false_of_ne (by omega)
  have e3 : (k == 3) = false := beq_false_of_ne (by omega)
  have e4 : (k == 4) = false := beq_false_of_ne (by omega)
  have e5 : (k == 5) = false := beq_false_of_ne (by omega)
  have e6 : (k == 6) = false := beq_false_of_ne (by omega)
  have e7 : (k == 7) = false := beq_false_of_ne (by omega)
  have e8 : (k == 8) = false := beq_false_of_ne (by omega)
  clear hk
  go_enter Try.func81, Try.ntmps81
  go_wp2_with fail
  refine h1.out.mono ?_
  rintro e w1 ⟨rfl, rfl⟩
  go_wp2_with fail
  refine h2.out.mono ?_
  rintro e w1 ⟨rfl, rfl⟩
  go_wp2_with fail
  go_ret2
  exact ⟨rfl, rfl⟩
theorem sapply_any (k x y : Int) (w : World) : Calls Try.prog 81 #[.int .i64 k, .int .i64 x, .int .i64 y] w fun e w' => e = .returned (.tuple #[.int .i64 (appV k x y), .bool (appOk k y)]) ∧ w = w' := by
  unfold appV appOk
  by_cases h : 1 ≤ k ∧ k ≤ 8
  · rcases op_cases h.1 h.2 with rfl | rfl | rfl | rfl | rfl | rfl | rfl | rfl
    · exact sapply1 x y w
    · exact sapply2 x y w
    · exact sapply3 x y w
    · exact sapply4 x y w
    · exact sapply5 x y w
    · exact sapply6 x y w
    · exact sapply7 x y w
    · exact sapply8 x y w
  · rw [opV_not (by omega), opOk_not (by omega)]; exact sapply_not k x y (by omega) w
end Go.Proofs.Ytlkfejcnkckgkaa.C3
