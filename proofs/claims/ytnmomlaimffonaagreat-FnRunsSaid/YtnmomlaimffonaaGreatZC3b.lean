/- Chapter 3: the program's table of operators, and what the two sides answer. -/
import Derived.Test.YtnmomlaimffonaaGreatZC3a
set_option maxHeartbeats 1000000
set_option maxRecDepth 100000
namespace Go.Proofs.YtnmomlaimffonaaGreat.C3
open Go.RowKit Go.Lib Com Mem
theorem op1_any (x y : Int) (_ : 0 ≤ x) (_ : x < 4) (_ : 0 ≤ y) (_ : y < 4) (w : World) : Calls Tryz.prog 157 #[.int .i64 x, .int .i64 y] w fun e w' => e = .returned (ans (opV 1 x y) true) ∧ w = w' := by
  have hq := hid (wrap_any (x + y) w)
  have hv := hid (show opV 1 x y = (x + y) % 4 by simp [opV])
  go_enter Tryz.func157, Tryz.ntmps157
  go_wp2_with fail
  refine hq.out.mono ?_
  rintro e w' ⟨rfl, rfl⟩
  go_wp2_with fail
  go_ret2
  exact ⟨by rw [hv.out]; rfl, rfl⟩
theorem op2_any (x y : Int) (_ : 0 ≤ x) (_ : x < 4) (_ : 0 ≤ y) (_ : y < 4) (w : World) : Calls Tryz.prog 158 #[.int .i64 x, .int .i64 y] w fun e w' => e = .returned (ans (opV 2 x y) true) ∧ w = w' := by
  have hq := hid (wrap_any (x - y) w)
  have hv := hid (show opV 2 x y = (x - y) % 4 by simp [opV])
  go_enter Tryz.func158, Tryz.ntmps158
  go_wp2_with fail
  refine hq.out.mono ?_
  rintro e w' ⟨rfl, rfl⟩
  go_wp2_with fail
  go_ret2
  exact ⟨by rw [hv.out]; rfl, rfl⟩
theorem op3_any (x y : Int) (_ : 0 ≤ x) (_ : x < 4) (_ : 0 ≤ y) (_ : y < 4) (w : World) : Calls Tryz.prog 159 #[.int .i64 x, .int .i64 y] w fun e w' => e = .returned (ans (opV 3 x y) true) ∧ w = w' := by
  have hq := hid (wrap_any (x * y) w)
  have hv := hid (show opV 3 x y = (x * y) % 4 by simp [opV])
  have hm : 0 ≤ x * y ∧ x * y ≤ 9 := ⟨Int.mul_nonneg (by omega) (by omega), by
    have h1 : x * y ≤ 3 * y := Int.mul_le_mul_of_nonneg_right (by omega) (by omega)
    omega⟩
  have hin : wrap64 (x * y) = x * y := by unfold wrap64; omega
  go_enter Tryz.func159, Tryz.ntmps159
  go_wp2_with fail
  refine hq.out.mono ?_
  rintro e w' ⟨rfl, rfl⟩
  go_wp2_with fail
  go_ret2
  exact ⟨by rw [hv.out]; rfl, rfl⟩
theorem op5_any (x y : Int) (w : World) : Calls Tryz.prog 161 #[.int .i64 x, .int .i64 y] w fun e w' => e = .returned (ans (opV 5 x y) true) ∧ w = w' := by
  have hq := hid (truth_any (decide (x < y)) w)
  have hv := hid (show opV 5 x y = bit (decide (x < y)) by simp [opV])
  go_enter Tryz.func161, Tryz.ntmps161
  go_wp2_with fail
  refine hq.out.mono ?_
  rintro e w' ⟨rfl, rfl⟩
  go_wp2_with fail
  go_ret2
  exact ⟨by rw [hv.out]; rfl, rfl⟩
theorem op6_any (x y : Int) (w : World) : Calls Tryz.prog 162 #[.int .i64 x, .int .i64 y] w fun e w' => e = .returned (ans (opV 6 x y) true) ∧ w = w' := by
  have hq := hid (truth_any (x == y) w)
  have hv := hid (show opV 6 x y = bit (x == y) by simp [opV])
  go_enter Tryz.func162, Tryz.ntmps162
  go_wp2_with fail
  refine hq.out.mono ?_
  rintro e w' ⟨rfl, rfl⟩
  go_wp2_with fail
  go_ret2
  exact ⟨by rw [hv.out]; rfl, rfl⟩
theorem op7_any (x y : Int) (w : World) : Calls Tryz.prog 163 #[.int .i64 x, .int .i64 y] w fun e w' => e = .returned (ans (opV 7 x y) true) ∧ w = w' := by
  cases t1 : (x != 0)
  · have hq := hid (truth_any false w)
    have hv := hid (show opV 7 x y = bit false by simp [opV, t1])
    go_enter Tryz.func163, Tryz.ntmps163
    go_wp2_with fail
    refine hq.out.mono ?_
    rintro e w' ⟨rfl, rfl⟩
    go_wp2_with fail
    go_ret2
    exact ⟨by rw [hv.out]; rfl, rfl⟩
  · have hq := hid (truth_any (y != 0) w)
    have hv := hid (show opV 7 x y = bit (y != 0) by simp [opV, t1])
    go_enter Tryz.func163, Tryz.ntmps163
    go_wp2_with fail
    refine hq.out.mono ?_
    rintro e w' ⟨rfl, rfl⟩
    go_wp2_with fail
    go_ret2
    exact ⟨by rw [hv.out]; rfl, rfl⟩
theorem op8_any (x y : Int) (w : World) : Calls Tryz.prog 164 #[.int .i64 x, .int .i64 y] w fun e w' => e = .returned (ans (opV 8 x y) true) ∧ w = w' := by
  cases t1 : (x != 0)
  · have hq := hid (truth_any (y != 0) w)
    have hv := hid (show opV 8 x y = bit (y != 0) by simp [opV, t1])
    go_enter Tryz.func164, Tryz.ntmps164
    go_wp2_with fail
    refine hq.out.mono ?_
    rintro e w' ⟨rfl, rfl⟩
    go_wp2_with fail
    go_ret2
    exact ⟨by rw [hv.out]; rfl, rfl⟩
  · have hq := hid (truth_any true w)
    have hv := hid (show opV 8 x y = bit true by simp [opV, t1])
    go_enter Tryz.func164, Tryz.ntmps164
    go_wp2_with fail
    refine hq.out.mono ?_
    rintro e w' ⟨rfl, rfl⟩
    go_wp2_with fail
    go_ret2
    exact ⟨by rw [hv.out]; rfl, rfl⟩
theorem op4_any (x y : Int) (_ : 0 ≤ x) (_ : x < 4) (_ : 0 ≤ y) (_ : y < 4) (w : World) : Calls Tryz.prog 160 #[.int .i64 x, .int .i64 y] w fun e w' => e = .returned (ans (opV 4 x y) (opOk 4 y)) ∧ w = w' := by
  cases t1 : (y == 0)
  · have hv := hid (show opV 4 x y = x / y by simp [opV]; intro h; simp [h] at t1)
    have ho := hid (show opOk 4 y = true by simp only [opOk, t1]; rfl)
    have hz : y ≠ 0 := by simpa using t1
    go_enter Tryz.func160, Tryz.ntmps160
    go_wp2_with fail
    go_ret2
    exact ⟨by rw [hv.out, ho.out]; rfl, rfl⟩
  · have hz : y = 0 := by simpa using t1
    have hv := hid (show opV 4 x y = 0 by simp [opV, hz])
    have ho := hid (show opOk 4 y = false by simp only [opOk, t1]; rfl)
    clear hz
    go_enter Tryz.func160, Tryz.ntmps160
    go_wp2_with fail
    go_ret2
    exact ⟨by rw [hv.out, ho.out]; rfl, rfl⟩
open Go.Sort
def tab : Value := .agg #[Value.string ⟨#[]⟩, Value.nilFunc, Value.string ⟨#[43]⟩, Value.func (Fn.func 157) #[] #[], Value.string ⟨#[45]⟩, Value.func (Fn.func 158) #[] #[], Value.string ⟨#[42]⟩, Value.func (Fn.func 159) #[] #[], Value.string ⟨#[47]⟩, Value.func (Fn.func 160) #[] #[], Value.string ⟨#[60]⟩, Value.func (Fn.func 161) #[] #[], Value.string ⟨#[61, 61]⟩, Value.func (Fn.func 162) #[] #[], Value.string ⟨#[38]⟩, Value.func (Fn.func 163) #[] #[], Value.string ⟨#[124]⟩, Value.func (Fn.func 164) #[] #[]]
theorem ops_any (w : World) : Calls Tryz.prog 153 #[] w fun e w' => e = .returned tab ∧ Below w.heap.size w w' := by
  go_enter Tryz.func153, Tryz.ntmps153
  go_wp2_with fail
  refine bodyPost_ret (results_cell_row Tryz.results153 _ _ w.heap.size 206 _ (0, 0) _ rfl (heap_alloc_new w _) Tryz.underlying206 rfl (by kernel_rfl)) rfl ⟨rfl, (Below.refl _ _).alloc (Nat.le_refl _) _⟩
theorem ops_re (w : World) (d : Nat) (os : Array Obj) : Calls Tryz.prog 153 #[] (grow (redrawn w d) os) fun e w'' => e = .returned tab ∧ ∃ p : Regrown, w'' = grow (redrawn w p.d) p.os :=
  Calls.regrown_of (ops_any _)
theorem same_re {P : Program} {f : FuncId} {args : Array Value} {w : World} {v : Value} (h : ∀ w1, Calls P f args w1 fun e w' => e = .returned v ∧ w1 = w') (d : Nat) (os : Array Obj) :
    Calls P f args (grow (redrawn w d) os) fun e w'' => e = .returned v ∧ ∃ p : Regrown, w'' = grow (redrawn w p.d) p.os :=
  (h _).mono fun _ _ ⟨he, hw⟩ => ⟨he, ⟨d, os⟩, hw.symm⟩
theorem ix1 (w : World) : (Instr.index 206 tab (.int .i64 1)).run Tryz.prog w = .ok (.agg #[.string ⟨#[43]⟩, .func (Fn.func 157) #[] #[]]) w := by kernel_rfl
theorem fx1 (w : World) : (Instr.field 205 (.agg #[.string ⟨#[43]⟩, .func (Fn.func 157) #[] #[]]) 1).run Tryz.prog w = .ok (.func (Fn.func 157) #[] #[]) w := by kernel_rfl
theorem ix2 (w : World) : (Instr.index 206 tab (.int .i64 2)).run Tryz.prog w = .ok (.agg #[.string ⟨#[45]⟩, .func (Fn.func 158) #[] #[]]) w := by kernel_rfl
theorem fx2 (w : World) : (Instr.field 205 (.agg #[.string ⟨#[45]⟩, .func (Fn.func 158) #[] #[]]) 1).run Tryz.prog w = .ok (.func (Fn.func 158) #[] #[]) w := by kernel_rfl
theorem ix3 (w : World) : (Instr.index 206 tab (.int .i64 3)).run Tryz.prog w = .ok (.agg #[.string ⟨#[42]⟩, .func (Fn.func 159) #[] #[]]) w := by kernel_rfl
theorem fx3 (w : World) : (Instr.field 205 (.agg #[.string ⟨#[42]⟩, .func (Fn.func 159) #[] #[]]) 1).run Tryz.prog w = .ok (.func (Fn.func 159) #[] #[]) w := by kernel_rfl
theorem ix4 (w : World) : (Instr.index 206 tab (.int .i64 4)).run Tryz.prog w = .ok (.agg #[.string ⟨#[47]⟩, .func (Fn.func 160) #[] #[]]) w := by kernel_rfl
theorem fx4 (w : World) : (Instr.field 205 (.agg #[.string ⟨#[47]⟩, .func (Fn.func 160) #[] #[]]) 1).run Tryz.prog w = .ok (.func (Fn.func 160) #[] #[]) w := by kernel_rfl
theorem ix5 (w : World) : (Instr.index 206 tab (.int .i64 5)).run Tryz.prog w = .ok (.agg #[.string ⟨#[60]⟩, .func (Fn.func 161) #[] #[]]) w := by kernel_rfl
theorem fx5 (w : World) : (Instr.field 205 (.agg #[.string ⟨#[60]⟩, .func (Fn.func 161) #[] #[]]) 1).run Tryz.prog w = .ok (.func (Fn.func 161) #[] #[]) w := by kernel_rfl
theorem ix6 (w : World) : (Instr.index 206 tab (.int .i64 6)).run Tryz.prog w = .ok (.agg #[.string ⟨#[61, 61]⟩, .func (Fn.func 162) #[] #[]]) w := by kernel_rfl
theorem fx6 (w : World) : (Instr.field 205 (.agg #[.string ⟨#[61, 61]⟩, .func (Fn.func 162) #[] #[]]) 1).run Tryz.prog w = .ok (.func (Fn.func 162) #[] #[]) w := by kernel_rfl
theorem ix7 (w : World) : (Instr.index 206 tab (.int .i64 7)).run Tryz.prog w = .ok (.agg #[.string ⟨#[38]⟩, .func (Fn.func 163) #[] #[]]) w := by kernel_rfl
theorem fx7 (w : World) : (Instr.field 205 (.agg #[.string ⟨#[38]⟩, .func (Fn.func 163) #[] #[]]) 1).run Tryz.prog w = .ok (.func (Fn.func 163) #[] #[]) w := by kernel_rfl
theorem ix8 (w : World) : (Instr.index 206 tab (.int .i64 8)).run Tryz.prog w = .ok (.agg #[.string ⟨#[124]⟩, .func (Fn.func 164) #[] #[]]) w := by kernel_rfl
theorem fx8 (w : World) : (Instr.field 205 (.agg #[.string ⟨#[124]⟩, .func (Fn.func 164) #[] #[]]) 1).run Tryz.prog w = .ok (.func (Fn.func 164) #[] #[]) w := by kernel_rfl
theorem apply1 (x y : Int) (w : World) : Calls Tryz.prog 140 #[.int .i64 1, .int .i64 x, .int .i64 y] w fun e w' => e = .returned (ans (opV 1 (x % 4) (y % 4)) (true)) ∧ Below w.heap.size w w' := by
  have h0 := hid (isOp_any 1 w)
  rw [inB_lit 1 (by decide) (by decide)] at h0
  have h1 := hid (ops_re w)
  have hi := ix1
  have hf := fx1
  have h2 := hid (same_re (w := w) (wrap_any x))
  have h3 := hid (same_re (w := w) (wrap_any y))
  have h4 := same_re (w := w) (op1_any (x % 4) (y % 4) (word_lo x) (word_hi x) (word_lo y) (word_hi y))
  unfold ans at h4
  have h4 := hid h4
  go_enter Tryz.func140, Tryz.ntmps140
  go_wp2_with fail
  refine h0.out.mono ?_
  rintro e w1 ⟨rfl, rfl⟩
  go_wp2_with fail
  refine wp_region_quiet_below (by kernel_rfl) (by kernel_rfl) ?_
  repeat (quiet_step (first | exact h1.out _ _ | exact h2.out _ _ | exact h3.out _ _ | exact h4.out _ _))
  refine wpQuiet_nil ?_
  intro _ hw'
  obtain ⟨⟨dq, osq⟩, hw''⟩ := hw'
  subst hw''
  go_wp2_with fail
  go_ret2
  exact ⟨rfl, below_regrown w dq osq⟩
theorem apply2 (x y : Int) (w : World) : Calls Tryz.prog 140 #[.int .i64 2, .int .i64 x, .int .i64 y] w fun e w' => e = .returned (ans (opV 2 (x % 4) (y % 4)) (true)) ∧ Below w.heap.size w w' := by
  have h0 := hid (isOp_any 2 w)
  rw [inB_lit 2 (by decide) (by decide)] at h0
  have h1 := hid (ops_re w)
  have hi := ix2
  have hf := fx2
  have h2 := hid (same_re (w := w) (wrap_any x))
  have h3 := hid (same_re (w := w) (wrap_any y))
  have h4 := same_re (w := w) (op2_any (x % 4) (y % 4) (word_lo x) (word_hi x) (word_lo y) (word_hi y))
  unfold ans at h4
  have h4 := hid h4
  go_enter Tryz.func140, Tryz.ntmps140
  go_wp2_with fail
  refine h0.out.mono ?_
  rintro e w1 ⟨rfl, rfl⟩
  go_wp2_with fail
  refine wp_region_quiet_below (by kernel_rfl) (by kernel_rfl) ?_
  repeat (quiet_step (first | exact h1.out _ _ | exact h2.out _ _ | exact h3.out _ _ | exact h4.out _ _))
  refine wpQuiet_nil ?_
  intro _ hw'
  obtain ⟨⟨dq, osq⟩, hw''⟩ := hw'
  subst hw''
  go_wp2_with fail
  go_ret2
  exact ⟨rfl, below_regrown w dq osq⟩
theorem apply3 (x y : Int) (w : World) : Calls Tryz.prog 140 #[.int .i64 3, .int .i64 x, .int .i64 y] w fun e w' => e = .returned (ans (opV 3 (x % 4) (y % 4)) (true)) ∧ Below w.heap.size w w' := by
  have h0 := hid (isOp_any 3 w)
  rw [inB_lit 3 (by decide) (by decide)] at h0
  have h1 := hid (ops_re w)
  have hi := ix3
  have hf := fx3
  have h2 := hid (same_re (w := w) (wrap_any x))
  have h3 := hid (same_re (w := w) (wrap_any y))
  have h4 := same_re (w := w) (op3_any (x % 4) (y % 4) (word_lo x) (word_hi x) (word_lo y) (word_hi y))
  unfold ans at h4
  have h4 := hid h4
  go_enter Tryz.func140, Tryz.ntmps140
  go_wp2_with fail
  refine h0.out.mono ?_
  rintro e w1 ⟨rfl, rfl⟩
  go_wp2_with fail
  refine wp_region_quiet_below (by kernel_rfl) (by kernel_rfl) ?_
  repeat (quiet_step (first | exact h1.out _ _ | exact h2.out _ _ | exact h3.out _ _ | exact h4.out _ _))
  refine wpQuiet_nil ?_
  intro _ hw'
  obtain ⟨⟨dq, osq⟩, hw''⟩ := hw'
  subst hw''
  go_wp2_with fail
  go_ret2
  exact ⟨rfl, below_regrown w dq osq⟩
theorem apply4 (x y : Int) (w : World) : Calls Tryz.prog 140 #[.int .i64 4, .int .i64 x, .int .i64 y] w fun e w' => e = .returned (ans (opV 4 (x % 4) (y % 4)) (opOk 4 (y % 4))) ∧ Below w.heap.size w w' := by
  have h0 := hid (isOp_any 4 w)
  rw [inB_lit 4 (by decide) (by decide)] at h0
  have h1 := hid (ops_re w)
  have hi := ix4
  have hf := fx4
  have h2 := hid (same_re (w := w) (wrap_any x))
  have h3 := hid (same_re (w := w) (wrap_any y))
  have h4 := same_re (w := w) (op4_any (x % 4) (y % 4) (word_lo x) (word_hi x) (word_lo y) (word_hi y))
  unfold ans at h4
  have h4 := hid h4
  go_enter Tryz.func140, Tryz.ntmps140
  go_wp2_with fail
  refine h0.out.mono ?_
  rintro e w1 ⟨rfl, rfl⟩
  go_wp2_with fail
  refine wp_region_quiet_below (by kernel_rfl) (by kernel_rfl) ?_
  repeat (quiet_step (first | exact h1.out _ _ | exact h2.out _ _ | exact h3.out _ _ | exact h4.out _ _))
  refine wpQuiet_nil ?_
  intro _ hw'
  obtain ⟨⟨dq, osq⟩, hw''⟩ := hw'
  subst hw''
  go_wp2_with fail
  go_ret2
  exact ⟨rfl, below_regrown w dq osq⟩
theorem apply5 (x y : Int) (w : World) : Calls Tryz.prog 140 #[.int .i64 5, .int .i64 x, .int .i64 y] w fun e w' => e = .returned (ans (opV 5 (x % 4) (y % 4)) (true)) ∧ Below w.heap.size w w' := by
  have h0 := hid (isOp_any 5 w)
  rw [inB_lit 5 (by decide) (by decide)] at h0
  have h1 := hid (ops_re w)
  have hi := ix5
  have hf := fx5
  have h2 := hid (same_re (w := w) (wrap_any x))
  have h3 := hid (same_re (w := w) (wrap_any y))
  have h4 := same_re (w := w) (op5_any (x % 4) (y % 4))
  unfold ans at h4
  have h4 := hid h4
  go_enter Tryz.func140, Tryz.ntmps140
  go_wp2_with fail
  refine h0.out.mono ?_
  rintro e w1 ⟨rfl, rfl⟩
  go_wp2_with fail
  refine wp_region_quiet_below (by kernel_rfl) (by kernel_rfl) ?_
  repeat (quiet_step (first | exact h1.out _ _ | exact h2.out _ _ | exact h3.out _ _ | exact h4.out _ _))
  refine wpQuiet_nil ?_
  intro _ hw'
  obtain ⟨⟨dq, osq⟩, hw''⟩ := hw'
  subst hw''
  go_wp2_with fail
  go_ret2
  exact ⟨rfl, below_regrown w dq osq⟩
theorem apply6 (x y : Int) (w : World) : Calls Tryz.prog 140 #[.int .i64 6, .int .i64 x, .int .i64 y] w fun e w' => e = .returned (ans (opV 6 (x % 4) (y % 4)) (true)) ∧ Below w.heap.size w w' := by
  have h0 := hid (isOp_any 6 w)
  rw [inB_lit 6 (by decide) (by decide)] at h0
  have h1 := hid (ops_re w)
  have hi := ix6
  have hf := fx6
  have h2 := hid (same_re (w := w) (wrap_any x))
  have h3 := hid (same_re (w := w) (wrap_any y))
  have h4 := same_re (w := w) (op6_any (x % 4) (y % 4))
  unfold ans at h4
  have h4 := hid h4
  go_enter Tryz.func140, Tryz.ntmps140
  go_wp2_with fail
  refine h0.out.mono ?_
  rintro e w1 ⟨rfl, rfl⟩
  go_wp2_with fail
  refine wp_region_quiet_below (by kernel_rfl) (by kernel_rfl) ?_
  repeat (quiet_step (first | exact h1.out _ _ | exact h2.out _ _ | exact h3.out _ _ | exact h4.out _ _))
  refine wpQuiet_nil ?_
  intro _ hw'
  obtain ⟨⟨dq, osq⟩, hw''⟩ := hw'
  subst hw''
  go_wp2_with fail
  go_ret2
  exact ⟨rfl, below_regrown w dq osq⟩
theorem apply7 (x y : Int) (w : World) : Calls Tryz.prog 140 #[.int .i64 7, .int .i64 x, .int .i64 y] w fun e w' => e = .returned (ans (opV 7 (x % 4) (y % 4)) (true)) ∧ Below w.heap.size w w' := by
  have h0 := hid (isOp_any 7 w)
  rw [inB_lit 7 (by decide) (by decide)] at h0
  have h1 := hid (ops_re w)
  have hi := ix7
  have hf := fx7
  have h2 := hid (same_re (w := w) (wrap_any x))
  have h3 := hid (same_re (w := w) (wrap_any y))
  have h4 := same_re (w := w) (op7_any (x % 4) (y % 4))
  unfold ans at h4
  have h4 := hid h4
  go_enter Tryz.func140, Tryz.ntmps140
  go_wp2_with fail
  refine h0.out.mono ?_
  rintro e w1 ⟨rfl, rfl⟩
  go_wp2_with fail
  refine wp_region_quiet_below (by kernel_rfl) (by kernel_rfl) ?_
  repeat (quiet_step (first | exact h1.out _ _ | exact h2.out _ _ | exact h3.out _ _ | exact h4.out _ _))
  refine wpQuiet_nil ?_
  intro _ hw'
  obtain ⟨⟨dq, osq⟩, hw''⟩ := hw'
  subst hw''
  go_wp2_with fail
  go_ret2
  exact ⟨rfl, below_regrown w dq osq⟩
theorem apply8 (x y : Int) (w : World) : Calls Tryz.prog 140 #[.int .i64 8, .int .i64 x, .int .i64 y] w fun e w' => e = .returned (ans (opV 8 (x % 4) (y % 4)) (true)) ∧ Below w.heap.size w w' := by
  have h0 := hid (isOp_any 8 w)
  rw [inB_lit 8 (by decide) (by decide)] at h0
  have h1 := hid (ops_re w)
  have hi := ix8
  have hf := fx8
  have h2 := hid (same_re (w := w) (wrap_any x))
  have h3 := hid (same_re (w := w) (wrap_any y))
  have h4 := same_re (w := w) (op8_any (x % 4) (y % 4))
  unfold ans at h4
  have h4 := hid h4
  go_enter Tryz.func140, Tryz.ntmps140
  go_wp2_with fail
  refine h0.out.mono ?_
  rintro e w1 ⟨rfl, rfl⟩
  go_wp2_with fail
  refine wp_region_quiet_below (by kernel_rfl) (by kernel_rfl) ?_
  repeat (quiet_step (first | exact h1.out _ _ | exact h2.out _ _ | exact h3.out _ _ | exact h4.out _ _))
  refine wpQuiet_nil ?_
  intro _ hw'
  obtain ⟨⟨dq, osq⟩, hw''⟩ := hw'
  subst hw''
  go_wp2_with fail
  go_ret2
  exact ⟨rfl, below_regrown w dq osq⟩
theorem apply_not (k x y : Int) (hk : k < 1 ∨ 8 < k) (w : World) : Calls Tryz.prog 140 #[.int .i64 k, .int .i64 x, .int .i64 y] w fun e w' => e = .returned (ans 0 false) ∧ Below w.heap.size w w' := by
  have h0 := hid (isOp_any k w)
  rw [inB_not k hk] at h0
  clear hk
  go_enter Tryz.func140, Tryz.ntmps140
  go_wp2_with fail
  refine h0.out.mono ?_
  rintro e w1 ⟨rfl, rfl⟩
  go_wp2_with fail
  go_ret2
  exact ⟨rfl, Below.refl _ _⟩
theorem apply_any (k x y : Int) (w : World) : Calls Tryz.prog 140 #[.int .i64 k, .int .i64 x, .int .i64 y] w fun e w' => e = .returned (.tuple #[.int .i64 (appV k x y), .bool (appOk k y)]) ∧ Below w.heap.size w w' := by
  unfold appV appOk
  by_cases h : 1 ≤ k ∧ k ≤ 8
  · rcases op_cases h.1 h.2 with rfl | rfl | rfl | rfl | rfl | rfl | rfl | rfl
    · exact apply1 x y w
    · exact apply2 x y w
    · exact apply3 x y w
    · exact apply4 x y w
    · exact apply5 x y w
    · exact apply6 x y w
    · exact apply7 x y w
    · exact apply8 x y w
  · rw [opV_not (by omega), opOk_not (by omega)]; exact apply_not k x y (by omega) w
end Go.Proofs.YtnmomlaimffonaaGreat.C3
