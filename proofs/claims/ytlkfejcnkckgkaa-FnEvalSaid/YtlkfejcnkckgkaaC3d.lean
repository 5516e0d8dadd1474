/- Chapter 3: ApplyOp and OpSymbol over the program's table. -/
import Derived.Test.YtlkfejcnkckgkaaC3c
set_option maxRecDepth 100000
namespace Go.Proofs.Ytlkfejcnkckgkaa.C3
open Go.RowKit Go.Lib Go.Sort Go.Proofs.Ytlkfejcnkckgkaa.Com Go.Proofs.Ytlkfejcnkckgkaa.Mem

theorem ops_re (w : World) (d : Nat) (os : Array Obj) : Calls Try.prog 91 #[] (grow (redrawn w d) os) fun e w'' => e = .returned tab ∧ ∃ p : Regrown, w'' = grow (redrawn w p.d) p.os :=
  Calls.regrown_of (ops_any _)
/-- a callee that changes nothing, met in a world of the class -/
theorem same_re {P : Program} {f : FuncId} {args : Array Value} {w : World} {v : Value} (h : ∀ w1, Calls P f args w1 fun e w' => e = .returned v ∧ w1 = w') (d : Nat) (os : Array Obj) :
    Calls P f args (grow (redrawn w d) os) fun e w'' => e = .returned v ∧ ∃ p : Regrown, w'' = grow (redrawn w p.d) p.os :=
  (h _).mono fun _ _ ⟨he, hw⟩ => ⟨he, ⟨d, os⟩, hw.symm⟩
theorem ix1 (w : World) : (Instr.index 119 tab (.int .i64 1)).run Try.prog w = .ok (.agg #[.string ⟨#[43]⟩, .func (Fn.func 111) #[] #[]]) w := by kernel_rfl
theorem fx1 (w : World) : (Instr.field 118 (.agg #[.string ⟨#[43]⟩, .func (Fn.func 111) #[] #[]]) 1).run Try.prog w = .ok (.func (Fn.func 111) #[] #[]) w := by kernel_rfl
theorem sx1 (w : World) : (Instr.field 118 (.agg #[.string ⟨#[43]⟩, .func (Fn.func 111) #[] #[]]) 0).run Try.prog w = .ok (.string ⟨#[43]⟩) w := by kernel_rfl
theorem ix2 (w : World) : (Instr.index 119 tab (.int .i64 2)).run Try.prog w = .ok (.agg #[.string ⟨#[45]⟩, .func (Fn.func 112) #[] #[]]) w := by kernel_rfl
theorem fx2 (w : World) : (Instr.field 118 (.agg #[.string ⟨#[45]⟩, .func (Fn.func 112) #[] #[]]) 1).run Try.prog w = .ok (.func (Fn.func 112) #[] #[]) w := by kernel_rfl
theorem sx2 (w : World) : (Instr.field 118 (.agg #[.string ⟨#[45]⟩, .func (Fn.func 112) #[] #[]]) 0).run Try.prog w = .ok (.string ⟨#[45]⟩) w := by kernel_rfl
theorem ix3 (w : World) : (Instr.index 119 tab (.int .i64 3)).run Try.prog w = .ok (.agg #[.string ⟨#[42]⟩, .func (Fn.func 113) #[] #[]]) w := by kernel_rfl
theorem fx3 (w : World) : (Instr.field 118 (.agg #[.string ⟨#[42]⟩, .func (Fn.func 113) #[] #[]]) 1).run Try.prog w = .ok (.func (Fn.func 113) #[] #[]) w := by kernel_rfl
theorem sx3 (w : World) : (Instr.field 118 (.agg #[.string ⟨#[42]⟩, .func (Fn.func 113) #[] #[]]) 0).run Try.prog w = .ok (.string ⟨#[42]⟩) w := by kernel_rfl
theorem ix4 (w : World) : (Instr.index 119 tab (.int .i64 4)).run Try.prog w = .ok (.agg #[.string ⟨#[47]⟩, .func (Fn.func 114) #[] #[]]) w := by kernel_rfl
theorem fx4 (w : World) : (Instr.field 118 (.agg #[.string ⟨#[47]⟩, .func (Fn.func 114) #[] #[]]) 1).run Try.prog w = .ok (.func (Fn.func 114) #[] #[]) w := by kernel_rfl
theorem sx4 (w : World) : (Instr.field 118 (.agg #[.string ⟨#[47]⟩, .func (Fn.func 114) #[] #[]]) 0).run Try.prog w = .ok (.string ⟨#[47]⟩) w := by kernel_rfl
theorem ix5 (w : World) : (Instr.index 119 tab (.int .i64 5)).run Try.prog w = .ok (.agg #[.string ⟨#[60]⟩, .func (Fn.func 115) #[] #[]]) w := by kernel_rfl
theorem fx5 (w : World) : (Instr.field 118 (.agg #[.string ⟨#[60]⟩, .func (Fn.func 115) #[] #[]]) 1).run Try.prog w = .ok (.func (Fn.func 115) #[] #[]) w := by kernel_rfl
theorem sx5 (w : World) : (Instr.field 118 (.agg #[.string ⟨#[60]⟩, .func (Fn.func 115) #[] #[]]) 0).run Try.prog w = .ok (.string ⟨#[60]⟩) w := by kernel_rfl
theorem ix6 (w : World) : (Instr.index 119 tab (.int .i64 6)).run Try.prog w = .ok (.agg #[.string ⟨#[61, 61]⟩, .func (Fn.func 116) #[] #[]]) w := by kernel_rfl
theorem fx6 (w : World) : (Instr.field 118 (.agg #[.string ⟨#[61, 61]⟩, .func (Fn.func 116) #[] #[]]) 1).run Try.prog w = .ok (.func (Fn.func 116) #[] #[]) w := by kernel_rfl
theorem sx6 (w : World) : (Instr.field 118 (.agg #[.string ⟨#[61, 61]⟩, .func (Fn.func 116) #[] #[]]) 0).run Try.prog w = .ok (.string ⟨#[61, 61]⟩) w := by kernel_rfl
theorem ix7 (w : World) : (Instr.index 119 tab (.int .i64 7)).run Try.prog w = .ok (.agg #[.string ⟨#[38]⟩, .func (Fn.func 117) #[] #[]]) w := by kernel_rfl
theorem fx7 (w : World) : (Instr.field 118 (.agg #[.string ⟨#[38]⟩, .func (Fn.func 117) #[] #[]]) 1).run Try.prog w = .ok (.func (Fn.func 117) #[] #[]) w := by kernel_rfl
theorem sx7 (w : World) : (Instr.field 118 (.agg #[.string ⟨#[38]⟩, .func (Fn.func 117) #[] #[]]) 0).run Try.prog w = .ok (.string ⟨#[38]⟩) w := by kernel_rfl
theorem ix8 (w : World) : (Instr.index 119 tab (.int .i64 8)).run Try.prog w = .ok (.agg #[.string ⟨#[124]⟩, .func (Fn.func 118) #[] #[]]) w := by kernel_rfl
theorem fx8 (w : World) : (Instr.field 118 (.agg #[.string ⟨#[124]⟩, .func (Fn.func 118) #[] #[]]) 1).run Try.prog w = .ok (.func (Fn.func 118) #[] #[]) w := by kernel_rfl
theorem sx8 (w : World) : (Instr.field 118 (.agg #[.string ⟨#[124]⟩, .func (Fn.func 118) #[] #[]]) 0).run Try.prog w = .ok (.string ⟨#[124]⟩) w := by kernel_rfl
set_option maxHeartbeats 1000000 in
theorem apply1 (x y : Int) (w : World) : Calls Try.prog 77 #[.int .i64 1, .int .i64 x, .int .i64 y] w fun e w' => e = .returned (ans (opV 1 (x % 4) (y % 4)) (true)) ∧ Below w.heap.size w w' := by
  have h0 := hid (isOp_any 1 w)
  rw [inB_lit 1 (by decide) (by decide)] at h0
  have h1 := hid (ops_re w)
  have hi := ix1
  have hf := fx1
  have h2 := hid (same_re (w := w) (wrap_any x))
  have h3 := hid (same_re (w := w) (wrap_any y))
  have h4 := same_re (w := w) (op1_any (x % 4) (y % 4) (word_lo x) (word_hi x) (word_lo y) (word_hi y))
  unfold ans at h4
  have h4 := hid h4
  go_enter Try.func77, Try.ntmps77
  go_wp2_with fail
  refine h0.out.mono ?_
  rintro e w1 ⟨rfl, rfl⟩
  go_wp2_with fail
  refine wp_region_quiet_below (by kernel_rfl) (by kernel_rfl) ?_
  repeat (quiet_step (first | exact h1.out _ _ | exact h2.out _ _ | exact h3.out _ _ | exact h4.out _ _))
  refine wpQuiet_nil ?_
  intro _ hw'
  obtain ⟨⟨dq, osq⟩, hw''⟩ := hw'
  subst hw''
  go_wp2_with fail
  go_ret2
  exact ⟨rfl, below_regrown w dq osq⟩
set_option maxHeartbeats 1000000 in
theorem apply2 (x y : Int) (w : World) : Calls Try.prog 77 #[.int .i64 2, .int .i64 x, .int .i64 y] w fun e w' => e = .returned (ans (opV 2 (x % 4) (y % 4)) (true)) ∧ Below w.heap.size w w' := by
  have h0 := hid (isOp_any 2 w)
  rw [inB_lit 2 (by decide) (by decide)] at h0
  have h1 := hid (ops_re w)
  have hi := ix2
  have hf := fx2
  have h2 := hid (same_re (w := w) (wrap_any x))
  have h3 := hid (same_re (w := w) (wrap_any y))
  have h4 := same_re (w := w) (op2_any (x % 4) (y % 4) (word_lo x) (word_hi x) (word_lo y) (word_hi y))
  unfold ans at h4
  have h4 := hid h4
  go_enter Try.func77, Try.ntmps77
  go_wp2_with fail
  refine h0.out.mono ?_
  rintro e w1 ⟨rfl, rfl⟩
  go_wp2_with fail
  refine wp_region_quiet_below (by kernel_rfl) (by kernel_rfl) ?_
  repeat (quiet_step (first | exact h1.out _ _ | exact h2.out _ _ | exact h3.out _ _ | exact h4.out _ _))
  refine wpQuiet_nil ?_
  intro _ hw'
  obtain ⟨⟨dq, osq⟩, hw''⟩ := hw'
  subst hw''
  go_wp2_with fail
  go_ret2
  exact ⟨rfl, below_regrown w dq osq⟩
set_option maxHeartbeats 1000000 in
theorem apply3 (x y : Int) (w : World) : Calls Try.prog 77 #[.int .i64 3, .int .i64 x, .int .i64 y] w fun e w' => e = .returned (ans (opV 3 (x % 4) (y % 4)) (true)) ∧ Below w.heap.size w w' := by
  have h0 := hid (isOp_any 3 w)
  rw [inB_lit 3 (by decide) (by decide)] at h0
  have h1 := hid (ops_re w)
  have hi := ix3
  have hf := fx3
  have h2 := hid (same_re (w := w) (wrap_any x))
  have h3 := hid (same_re (w := w) (wrap_any y))
  have h4 := same_re (w := w) (op3_any (x % 4) (y % 4) (word_lo x) (word_hi x) (word_lo y) (word_hi y))
  unfold ans at h4
  have h4 := hid h4
  go_enter Try.func77, Try.ntmps77
  go_wp2_with fail
  refine h0.out.mono ?_
  rintro e w1 ⟨rfl, rfl⟩
  go_wp2_with fail
  refine wp_region_quiet_below (by kernel_rfl) (by kernel_rfl) ?_
  repeat (quiet_step (first | exact h1.out _ _ | exact h2.out _ _ | exact h3.out _ _ | exact h4.out _ _))
  refine wpQuiet_nil ?_
  intro _ hw'
  obtain ⟨⟨dq, osq⟩, hw''⟩ := hw'
  subst hw''
  go_wp2_with fail
  go_ret2
  exact ⟨rfl, below_regrown w dq osq⟩
set_option maxHeartbeats 1000000 in
theorem apply4 (x y : Int) (w : World) : Calls Try.prog 77 #[.int .i64 4, .int .i64 x, .int .i64 y] w fun e w' => e = .returned (ans (opV 4 (x % 4) (y % 4)) (opOk 4 (y % 4))) ∧ Below w.heap.size w w' := by
  have h0 := hid (isOp_any 4 w)
  rw [inB_lit 4 (by decide) (by decide)] at h0
  have h1 := hid (ops_re w)
  have hi := ix4
  have hf := fx4
  have h2 := hid (same_re (w := w) (wrap_any x))
  have h3 := hid (same_re (w := w) (wrap_any y))
  have h4 := same_re (w := w) (op4_any (x % 4) (y % 4) (word_lo x) (word_hi x) (word_lo y) (word_hi y))
  unfold ans at h4
  have h4 := hid h4
  go_enter Try.func77, Try.ntmps77
  go_wp2_with fail
  refine h0.out.mono ?_
  rintro e w1 ⟨rfl, rfl⟩
  go_wp2_with fail
  refine wp_region_quiet_below (by kernel_rfl) (by kernel_rfl) ?_
  repeat (quiet_step (first | exact h1.out _ _ | exact h2.out _ _ | exact h3.out _ _ | exact h4.out _ _))
  refine wpQuiet_nil ?_
  intro _ hw'
  obtain ⟨⟨dq, osq⟩, hw''⟩ := hw'
  subst hw''
  go_wp2_with fail
  go_ret2
  exact ⟨rfl, below_regrown w dq osq⟩
set_option maxHeartbeats 1000000 in
theorem apply5 (x y : Int) (w : World) : Calls Try.prog 77 #[.int .i64 5, .int .i64 x, .int .i64 y] w fun e w' => e = .returned (ans (opV 5 (x % 4) (y % 4)) (true)) ∧ Below w.heap.size w w' := by
  have h0 := hid (isOp_any 5 w)
  rw [inB_lit 5 (by decide) (by decide)] at h0
  have h1 := hid (ops_re w)
  have hi := ix5
  have hf := fx5
  have h2 := hid (same_re (w := w) (wrap_any x))
  have h3 := hid (same_re (w := w) (wrap_any y))
  have h4 := same_re (w := w) (op5_any (x % 4) (y % 4))
  unfold ans at h4
  have h4 := hid h4
  go_enter Try.func77, Try.ntmps77
  go_wp2_with fail
  refine h0.out.mono ?_
  rintro e w1 ⟨rfl, rfl⟩
  go_wp2_with fail
  refine wp_region_quiet_below (by kernel_rfl) (by kernel_rfl) ?_
  repeat (quiet_step (first | exact h1.out _ _ | exact h2.out _ _ | exact h3.out _ _ | exact h4.out _ _))
  refine wpQuiet_nil ?_
  intro _ hw'
  obtain ⟨⟨dq, osq⟩, hw''⟩ := hw'
  subst hw''
  go_wp2_with fail
  go_ret2
  exact ⟨rfl, below_regrown w dq osq⟩
set_option maxHeartbeats 1000000 in
theorem apply6 (x y : Int) (w : World) : Calls Try.prog 77 #[.int .i64 6, .int .i64 x, .int .i64 y] w fun e w' => e = .returned (ans (opV 6 (x % 4) (y % 4)) (true)) ∧ Below w.heap.size w w' := by
  have h0 := hid (isOp_any 6 w)
  rw [inB_lit 6 (by decide) (by decide)] at h0
  have h1 := hid (ops_re w)
  have hi := ix6
  have hf := fx6
  have h2 := hid (same_re (w := w) (wrap_any x))
  have h3 := hid (same_re (w := w) (wrap_any y))
  have h4 := same_re (w := w) (op6_any (x % 4) (y % 4))
  unfold ans at h4
  have h4 := hid h4
  go_enter Try.func77, Try.ntmps77
  go_wp2_with fail
  refine h0.out.mono ?_
  rintro e w1 ⟨rfl, rfl⟩
  go_wp2_with fail
  refine wp_region_quiet_below (by kernel_rfl) (by kernel_rfl) ?_
  repeat (quiet_step (first | exact h1.out _ _ | exact h2.out _ _ | exact h3.out _ _ | exact h4.out _ _))
  refine wpQuiet_nil ?_
  intro _ hw'
  obtain ⟨⟨dq, osq⟩, hw''⟩ := hw'
  subst hw''
  go_wp2_with fail
  go_ret2
  exact ⟨rfl, below_regrown w dq osq⟩
set_option maxHeartbeats 1000000 in
theorem apply7 (x y : Int) (w : World) : Calls Try.prog 77 #[.int .i64 7, .int .i64 x, .int .i64 y] w fun e w' => e = .returned (ans (opV 7 (x % 4) (y % 4)) (true)) ∧ Below w.heap.size w w' := by
  have h0 := hid (isOp_any 7 w)
  rw [inB_lit 7 (by decide) (by decide)] at h0
  have h1 := hid (ops_re w)
  have hi := ix7
  have hf := fx7
  have h2 := hid (same_re (w := w) (wrap_any x))
  have h3 := hid (same_re (w := w) (wrap_any y))
  have h4 := same_re (w := w) (op7_any (x % 4) (y % 4))
  unfold ans at h4
  have h4 := hid h4
  go_enter Try.func77, Try.ntmps77
  go_wp2_with fail
  refine h0.out.mono ?_
  rintro e w1 ⟨rfl, rfl⟩
  go_wp2_with fail
  refine wp_region_quiet_below (by kernel_rfl) (by kernel_rfl) ?_
  repeat (quiet_step (first | exact h1.out _ _ | exact h2.out _ _ | exact h3.out _ _ | exact h4.out _ _))
  refine wpQuiet_nil ?_
  intro _ hw'
  obtain ⟨⟨dq, osq⟩, hw''⟩ := hw'
  subst hw''
  go_wp2_with fail
  go_ret2
  exact ⟨rfl, below_regrown w dq osq⟩
set_option maxHeartbeats 1000000 in
theorem apply8 (x y : Int) (w : World) : Calls Try.prog 77 #[.int .i64 8, .int .i64 x, .int .i64 y] w fun e w' => e = .returned (ans (opV 8 (x % 4) (y % 4)) (true)) ∧ Below w.heap.size w w' := by
  have h0 := hid (isOp_any 8 w)
  rw [inB_lit 8 (by decide) (by decide)] at h0
  have h1 := hid (ops_re w)
  have hi := ix8
  have hf := fx8
  have h2 := hid (same_re (w := w) (wrap_any x))
  have h3 := hid (same_re (w := w) (wrap_any y))
  have h4 := same_re (w := w) (op8_any (x % 4) (y % 4))
  unfold ans at h4
  have h4 := hid h4
  go_enter Try.func77, Try.ntmps77
  go_wp2_with fail
  refine h0.out.mono ?_
  rintro e w1 ⟨rfl, rfl⟩
  go_wp2_with fail
  refine wp_region_quiet_below (by kernel_rfl) (by kernel_rfl) ?_
  repeat (quiet_step (first | exact h1.out _ _ | exact h2.out _ _ | exact h3.out _ _ | exact h4.out _ _))
  refine wpQuiet_nil ?_
  intro _ hw'
  obtain ⟨⟨dq, osq⟩, hw''⟩ := hw'
  subst hw''
  go_wp2_with fail
  go_ret2
  exact ⟨rfl, below_regrown w dq osq⟩
set_option maxHeartbeats 1000000 in
theorem apply_not (k x y : Int) (hk : k < 1 ∨ 8 < k) (w : World) : Calls Try.prog 77 #[.int .i64 k, .int .i64 x, .int .i64 y] w fun e w' => e = .returned (ans 0 false) ∧ Below w.heap.size w w' := by
  have h0 := hid (isOp_any k w)
  rw [inB_not k hk] at h0
  clear hk
  go_enter Try.func77, Try.ntmps77
  go_wp2_with fail
  refine h0.out.mono ?_
  rintro e w1 ⟨rfl, rfl⟩
  go_wp2_with fail
  go_ret2
  exact ⟨rfl, Below.refl _ _⟩
theorem apply_any (k x y : Int) (w : World) : Calls Try.prog 77 #[.int .i64 k, .int .i64 x, .int .i64 y] w fun e w' => e = .returned (.tuple #[.int .i64 (appV k x y), .bool (appOk k y)]) ∧ Below w.heap.size w w' := by
  unfold appV appOk
  by_cases h : 1 ≤ k ∧ k ≤ 8
  · rcases op_cases h.1 h.2 with rfl | rfl | rfl | rfl | rfl | rfl | rfl | rfl
    · exact apply1 x y w
    · exact apply2 x y w
    · exact apply3 x y w
    · exact apply4 x y w
    · exact apply5 x y w
    · exact apply6 x y w
    · exact apply7 x y w
    · exact apply8 x y w
  · rw [opV_not (by omega), opOk_not (by omega)]; exact apply_not k x y (by omega) w
end Go.Proofs.Ytlkfejcnkckgkaa.C3
