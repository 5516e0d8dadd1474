/- Chapter 3: the program's table of operators, and what the two sides answer. -/
import Derived.Test.YtiogceepjffmkaaGreatDoorYC3a
set_option maxHeartbeats 1000000
set_option maxRecDepth 100000
namespace Go.Proofs.YtiogceepjffmkaaGreatDoor.C3
open Go.RowKit Go.Lib Com Mem
open Go.Sort
def tab : Value := .agg #[Value.string ⟨#[]⟩, Value.nilFunc, Value.string ⟨#[43]⟩, Value.func (Fn.func 243) #[] #[], Value.string ⟨#[45]⟩, Value.func (Fn.func 245) #[] #[], Value.string ⟨#[42]⟩, Value.func (Fn.func 246) #[] #[], Value.string ⟨#[47]⟩, Value.func (Fn.func 247) #[] #[], Value.string ⟨#[60]⟩, Value.func (Fn.func 248) #[] #[], Value.string ⟨#[61, 61]⟩, Value.func (Fn.func 250) #[] #[], Value.string ⟨#[38]⟩, Value.func (Fn.func 251) #[] #[], Value.string ⟨#[124]⟩, Value.func (Fn.func 252) #[] #[]]
theorem ops_any (w : World) : Calls Tryz.prog 227 #[] w fun e w' => e = .returned tab ∧ Below w.heap.size w w' := by
  go_enter Tryz.func227, Tryz.ntmps227
  go_wp2_with fail
  refine bodyPost_ret (results_cell_row Tryz.results227 _ _ w.heap.size 300 _ (0, 0) _ rfl (heap_alloc_new w _) Tryz.underlying300 rfl (by kernel_rfl)) rfl ⟨rfl, (Below.refl _ _).alloc (Nat.le_refl _) _⟩
theorem ix1 (w : World) : (Instr.index 300 tab (.int .i64 1)).run Tryz.prog w = .ok (.agg #[.string ⟨#[43]⟩, .func (Fn.func 243) #[] #[]]) w := by kernel_rfl
theorem sx1 (w : World) : (Instr.field 299 (.agg #[.string ⟨#[43]⟩, .func (Fn.func 243) #[] #[]]) 0).run Tryz.prog w = .ok (.string ⟨#[43]⟩) w := by kernel_rfl
theorem ix2 (w : World) : (Instr.index 300 tab (.int .i64 2)).run Tryz.prog w = .ok (.agg #[.string ⟨#[45]⟩, .func (Fn.func 245) #[] #[]]) w := by kernel_rfl
theorem sx2 (w : World) : (Instr.field 299 (.agg #[.string ⟨#[45]⟩, .func (Fn.func 245) #[] #[]]) 0).run Tryz.prog w = .ok (.string ⟨#[45]⟩) w := by kernel_rfl
theorem ix3 (w : World) : (Instr.index 300 tab (.int .i64 3)).run Tryz.prog w = .ok (.agg #[.string ⟨#[42]⟩, .func (Fn.func 246) #[] #[]]) w := by kernel_rfl
theorem sx3 (w : World) : (Instr.field 299 (.agg #[.string ⟨#[42]⟩, .func (Fn.func 246) #[] #[]]) 0).run Tryz.prog w = .ok (.string ⟨#[42]⟩) w := by kernel_rfl
theorem ix4 (w : World) : (Instr.index 300 tab (.int .i64 4)).run Tryz.prog w = .ok (.agg #[.string ⟨#[47]⟩, .func (Fn.func 247) #[] #[]]) w := by kernel_rfl
theorem sx4 (w : World) : (Instr.field 299 (.agg #[.string ⟨#[47]⟩, .func (Fn.func 247) #[] #[]]) 0).run Tryz.prog w = .ok (.string ⟨#[47]⟩) w := by kernel_rfl
theorem ix5 (w : World) : (Instr.index 300 tab (.int .i64 5)).run Tryz.prog w = .ok (.agg #[.string ⟨#[60]⟩, .func (Fn.func 248) #[] #[]]) w := by kernel_rfl
theorem sx5 (w : World) : (Instr.field 299 (.agg #[.string ⟨#[60]⟩, .func (Fn.func 248) #[] #[]]) 0).run Tryz.prog w = .ok (.string ⟨#[60]⟩) w := by kernel_rfl
theorem ix6 (w : World) : (Instr.index 300 tab (.int .i64 6)).run Tryz.prog w = .ok (.agg #[.string ⟨#[61, 61]⟩, .func (Fn.func 250) #[] #[]]) w := by kernel_rfl
theorem sx6 (w : World) : (Instr.field 299 (.agg #[.string ⟨#[61, 61]⟩, .func (Fn.func 250) #[] #[]]) 0).run Tryz.prog w = .ok (.string ⟨#[61, 61]⟩) w := by kernel_rfl
theorem ix7 (w : World) : (Instr.index 300 tab (.int .i64 7)).run Tryz.prog w = .ok (.agg #[.string ⟨#[38]⟩, .func (Fn.func 251) #[] #[]]) w := by kernel_rfl
theorem sx7 (w : World) : (Instr.field 299 (.agg #[.string ⟨#[38]⟩, .func (Fn.func 251) #[] #[]]) 0).run Tryz.prog w = .ok (.string ⟨#[38]⟩) w := by kernel_rfl
theorem ix8 (w : World) : (Instr.index 300 tab (.int .i64 8)).run Tryz.prog w = .ok (.agg #[.string ⟨#[124]⟩, .func (Fn.func 252) #[] #[]]) w := by kernel_rfl
theorem sx8 (w : World) : (Instr.field 299 (.agg #[.string ⟨#[124]⟩, .func (Fn.func 252) #[] #[]]) 0).run Tryz.prog w = .ok (.string ⟨#[124]⟩) w := by kernel_rfl
theorem symbol1 (w : World) : Calls Tryz.prog 219 #[.int .i64 1] w fun e w' => e = .returned (.string ⟨#[43]⟩) ∧ Below w.heap.size w w' := by
  have h0 := hid (isOp_any 1 w)
  rw [inB_lit 1 (by decide) (by decide)] at h0
  have h1 := hid (ops_any w)
  have hi := ix1
  have hf := sx1
  go_enter Tryz.func219, Tryz.ntmps219
  go_wp2_with fail
  refine h0.out.mono ?_
  rintro e w1 ⟨rfl, rfl⟩
  go_wp2_with fail
  refine h1.out.mono ?_
  rintro e w1 ⟨rfl, hb⟩
  go_wp2_with fail
  go_ret
  exact ⟨rfl, hb⟩
theorem symbol2 (w : World) : Calls Tryz.prog 219 #[.int .i64 2] w fun e w' => e = .returned (.string ⟨#[45]⟩) ∧ Below w.heap.size w w' := by
  have h0 := hid (isOp_any 2 w)
  rw [inB_lit 2 (by decide) (by decide)] at h0
  have h1 := hid (ops_any w)
  have hi := ix2
  have hf := sx2
  go_enter Tryz.func219, Tryz.ntmps219
  go_wp2_with fail
  refine h0.out.mono ?_
  rintro e w1 ⟨rfl, rfl⟩
  go_wp2_with fail
  refine h1.out.mono ?_
  rintro e w1 ⟨rfl, hb⟩
  go_wp2_with fail
  go_ret
  exact ⟨rfl, hb⟩
theorem symbol3 (w : World) : Calls Tryz.prog 219 #[.int .i64 3] w fun e w' => e = .returned (.string ⟨#[42]⟩) ∧ Below w.heap.size w w' := by
  have h0 := hid (isOp_any 3 w)
  rw [inB_lit 3 (by decide) (by decide)] at h0
  have h1 := hid (ops_any w)
  have hi := ix3
  have hf := sx3
  go_enter Tryz.func219, Tryz.ntmps219
  go_wp2_with fail
  refine h0.out.mono ?_
  rintro e w1 ⟨rfl, rfl⟩
  go_wp2_with fail
  refine h1.out.mono ?_
  rintro e w1 ⟨rfl, hb⟩
  go_wp2_with fail
  go_ret
  exact ⟨rfl, hb⟩
theorem symbol4 (w : World) : Calls Tryz.prog 219 #[.int .i64 4] w fun e w' => e = .returned (.string ⟨#[47]⟩) ∧ Below w.heap.size w w' := by
  have h0 := hid (isOp_any 4 w)
  rw [inB_lit 4 (by decide) (by decide)] at h0
  have h1 := hid (ops_any w)
  have hi := ix4
  have hf := sx4
  go_enter Tryz.func219, Tryz.ntmps219
  go_wp2_with fail
  refine h0.out.mono ?_
  rintro e w1 ⟨rfl, rfl⟩
  go_wp2_with fail
  refine h1.out.mono ?_
  rintro e w1 ⟨rfl, hb⟩
  go_wp2_with fail
  go_ret
  exact ⟨rfl, hb⟩
theorem symbol5 (w : World) : Calls Tryz.prog 219 #[.int .i64 5] w fun e w' => e = .returned (.string ⟨#[60]⟩) ∧ Below w.heap.size w w' := by
  have h0 := hid (isOp_any 5 w)
  rw [inB_lit 5 (by decide) (by decide)] at h0
  have h1 := hid (ops_any w)
  have hi := ix5
  have hf := sx5
  go_enter Tryz.func219, Tryz.ntmps219
  go_wp2_with fail
  refine h0.out.mono ?_
  rintro e w1 ⟨rfl, rfl⟩
  go_wp2_with fail
  refine h1.out.mono ?_
  rintro e w1 ⟨rfl, hb⟩
  go_wp2_with fail
  go_ret
  exact ⟨rfl, hb⟩
theorem symbol6 (w : World) : Calls Tryz.prog 219 #[.int .i64 6] w fun e w' => e = .returned (.string ⟨#[61, 61]⟩) ∧ Below w.heap.size w w' := by
  have h0 := hid (isOp_any 6 w)
  rw [inB_lit 6 (by decide) (by decide)] at h0
  have h1 := hid (ops_any w)
  have hi := ix6
  have hf := sx6
  go_enter Tryz.func219, Tryz.ntmps219
  go_wp2_with fail
  refine h0.out.mono ?_
  rintro e w1 ⟨rfl, rfl⟩
  go_wp2_with fail
  refine h1.out.mono ?_
  rintro e w1 ⟨rfl, hb⟩
  go_wp2_with fail
  go_ret
  exact ⟨rfl, hb⟩
theorem symbol7 (w : World) : Calls Tryz.prog 219 #[.int .i64 7] w fun e w' => e = .returned (.string ⟨#[38]⟩) ∧ Below w.heap.size w w' := by
  have h0 := hid (isOp_any 7 w)
  rw [inB_lit 7 (by decide) (by decide)] at h0
  have h1 := hid (ops_any w)
  have hi := ix7
  have hf := sx7
  go_enter Tryz.func219, Tryz.ntmps219
  go_wp2_with fail
  refine h0.out.mono ?_
  rintro e w1 ⟨rfl, rfl⟩
  go_wp2_with fail
  refine h1.out.mono ?_
  rintro e w1 ⟨rfl, hb⟩
  go_wp2_with fail
  go_ret
  exact ⟨rfl, hb⟩
theorem symbol8 (w : World) : Calls Tryz.prog 219 #[.int .i64 8] w fun e w' => e = .returned (.string ⟨#[124]⟩) ∧ Below w.heap.size w w' := by
  have h0 := hid (isOp_any 8 w)
  rw [inB_lit 8 (by decide) (by decide)] at h0
  have h1 := hid (ops_any w)
  have hi := ix8
  have hf := sx8
  go_enter Tryz.func219, Tryz.ntmps219
  go_wp2_with fail
  refine h0.out.mono ?_
  rintro e w1 ⟨rfl, rfl⟩
  go_wp2_with fail
  refine h1.out.mono ?_
  rintro e w1 ⟨rfl, hb⟩
  go_wp2_with fail
  go_ret
  exact ⟨rfl, hb⟩
theorem symbol_not (k : Int) (hk : k < 1 ∨ 8 < k) (w : World) : Calls Tryz.prog 219 #[.int .i64 k] w fun e w' => e = .returned (.string ⟨#[63]⟩) ∧ Below w.heap.size w w' := by
  have h0 := hid (isOp_any k w)
  rw [inB_not k hk] at h0
  clear hk
  go_enter Tryz.func219, Tryz.ntmps219
  go_wp2_with fail
  refine h0.out.mono ?_
  rintro e w1 ⟨rfl, rfl⟩
  go_wp2_with fail
  go_ret
  exact ⟨rfl, Below.refl _ _⟩
theorem symbol_any (k : Int) (w : World) : Calls Tryz.prog 219 #[.int .i64 k] w fun e w' => e = .returned (.string ⟨(symL k).toArray⟩) ∧ Below w.heap.size w w' := by
  by_cases h : 1 ≤ k ∧ k ≤ 8
  · rcases op_cases h.1 h.2 with rfl | rfl | rfl | rfl | rfl | rfl | rfl | rfl
    · exact symbol1 w
    · exact symbol2 w
    · exact symbol3 w
    · exact symbol4 w
    · exact symbol5 w
    · exact symbol6 w
    · exact symbol7 w
    · exact symbol8 w
  · rw [symL_not (by omega)]; exact symbol_not k (by omega) w
end Go.Proofs.YtiogceepjffmkaaGreatDoor.C3
