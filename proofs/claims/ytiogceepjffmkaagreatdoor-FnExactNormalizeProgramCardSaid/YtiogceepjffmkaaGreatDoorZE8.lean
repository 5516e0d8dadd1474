/- Statements and programs in the exact laws' words. -/
import Derived.Test.YtiogceepjffmkaaGreatDoorZF7a
import Derived.Deep.RegionHeld3
set_option maxHeartbeats 2000000
set_option maxRecDepth 100000
namespace Go.Proofs.YtiogceepjffmkaaGreatDoor.Gd
open Go.RowKit Go.Lib Com Mem YtiogceepjffmkaaGreatDoor.Os Tr YtiogceepjffmkaaGreatDoor.Nm
def PgAt (w : World) (B : Nat) (v : Value) (p : Pg) : Prop := ∃ cs : List Value, v = .agg cs.toArray ∧ Rd8 w B cs p.d
theorem PgAt.go {w w' : World} {v : Value} {p : Pg} (h : PgAt w w.heap.size v p) (hb : Below w.heap.size w w') : PgAt w' w'.heap.size v p := by
  obtain ⟨cs, e, hr⟩ := h
  exact ⟨cs, e, hr.go hb⟩
def OwnP (lo hi : Nat) (w : World) (v : Value) (p : Pg) : Prop := ∃ cs : List Value, v = .agg cs.toArray ∧ OwnD w (Iv lo hi) cs p.d
theorem OwnP.same {lo hi : Nat} {w w' : World} {v : Value} {p : Pg} (h : OwnP lo hi w v p) (hs : Same lo hi w w') : OwnP lo hi w' v p := by
  obtain ⟨cs, e, hr⟩ := h
  exact ⟨cs, e, OwnD.same hr fun g hg => hs g hg.1 hg.2⟩
end Go.Proofs.YtiogceepjffmkaaGreatDoor.Gd
set_option maxRecDepth 100000
namespace Go.Proofs.YtiogceepjffmkaaGreatDoor.C3
open Go.RowKit Go.Lib Com Mem
open Go.Sort
def tab : Value := .agg #[Value.string ⟨#[]⟩, Value.nilFunc, Value.string ⟨#[43]⟩, Value.func (Fn.func 243) #[] #[], Value.string ⟨#[45]⟩, Value.func (Fn.func 245) #[] #[], Value.string ⟨#[42]⟩, Value.func (Fn.func 246) #[] #[], Value.string ⟨#[47]⟩, Value.func (Fn.func 247) #[] #[], Value.string ⟨#[60]⟩, Value.func (Fn.func 248) #[] #[], Value.string ⟨#[61, 61]⟩, Value.func (Fn.func 250) #[] #[], Value.string ⟨#[38]⟩, Value.func (Fn.func 251) #[] #[], Value.string ⟨#[124]⟩, Value.func (Fn.func 252) #[] #[]]
theorem ops_any (w : World) : Calls Tryz.prog 227 #[] w fun e w' => e = .returned tab ∧ Below w.heap.size w w' := by
  go_enter Tryz.func227, Tryz.ntmps227
  go_wp2_with fail
  refine bodyPost_ret (results_cell_row Tryz.results227 _ _ w.heap.size 300 _ (0, 0) _ rfl (heap_alloc_new w _) Tryz.underlying300 rfl (by kernel_rfl)) rfl ⟨rfl, (Below.refl _ _).alloc (Nat.le_refl _) _⟩
theorem ix1 (w : World) : (Instr.index 300 tab (.int .i64 1)).run Tryz.prog w = .ok (.agg #[.string ⟨#[43]⟩, .func (Fn.func 243) #[] #[]]) w := by kernel_rfl
theorem sx1 (w : World) : (Instr.field 299 (.agg #[.string ⟨#[43]⟩, .func (Fn.func 243) #[] #[]]) 0).run Tryz.prog w = .ok (.string ⟨#[43]⟩) w := by kernel_rfl
theorem ix2 (w : World) : (Instr.index 300 tab (.int .i64 2)).run Tryz.prog w = .ok (.agg #[.string ⟨#[45]⟩, .func (Fn.func 245) #[] #[]]) w := by kernel_rfl
theorem sx2 (w : World) : (Instr.field 299 (.agg #[.string ⟨#[45]⟩, .func (Fn.func 245) #[] #[]]) 0).run Tryz.prog w = .ok (.string ⟨#[45]⟩) w := by kernel_rfl
theorem ix3 (w : World) : (Instr.index 300 tab (.int .i64 3)).run Tryz.prog w = .ok (.agg #[.string ⟨#[42]⟩, .func (Fn.func 246) #[] #[]]) w := by kernel_rfl
theorem sx3 (w : World) : (Instr.field 299 (.agg #[.string ⟨#[42]⟩, .func (Fn.func 246) #[] #[]]) 0).run Tryz.prog w = .ok (.string ⟨#[42]⟩) w := by kernel_rfl
theorem ix4 (w : World) : (Instr.index 300 tab (.int .i64 4)).run Tryz.prog w = .ok (.agg #[.string ⟨#[47]⟩, .func (Fn.func 247) #[] #[]]) w := by kernel_rfl
theorem sx4 (w : World) : (Instr.field 299 (.agg #[.string ⟨#[47]⟩, .func (Fn.func 247) #[] #[]]) 0).run Tryz.prog w = .ok (.string ⟨#[47]⟩) w := by kernel_rfl
theorem ix5 (w : World) : (Instr.index 300 tab (.int .i64 5)).run Tryz.prog w = .ok (.agg #[.string ⟨#[60]⟩, .func (Fn.func 248) #[] #[]]) w := by kernel_rfl
theorem sx5 (w : World) : (Instr.field 299 (.agg #[.string ⟨#[60]⟩, .func (Fn.func 248) #[] #[]]) 0).run Tryz.prog w = .ok (.string ⟨#[60]⟩) w := by kernel_rfl
theorem ix6 (w : World) : (Instr.index 300 tab (.int .i64 6)).run Tryz.prog w = .ok (.agg #[.string ⟨#[61, 61]⟩, .func (Fn.func 250) #[] #[]]) w := by kernel_rfl
theorem sx6 (w : World) : (Instr.field 299 (.agg #[.string ⟨#[61, 61]⟩, .func (Fn.func 250) #[] #[]]) 0).run Tryz.prog w = .ok (.string ⟨#[61, 61]⟩) w := by kernel_rfl
theorem ix7 (w : World) : (Instr.index 300 tab (.int .i64 7)).run Tryz.prog w = .ok (.agg #[.string ⟨#[38]⟩, .func (Fn.func 251) #[] #[]]) w := by kernel_rfl
theorem sx7 (w : World) : (Instr.field 299 (.agg #[.string ⟨#[38]⟩, .func (Fn.func 251) #[] #[]]) 0).run Tryz.prog w = .ok (.string ⟨#[38]⟩) w := by kernel_rfl
theorem ix8 (w : World) : (Instr.index 300 tab (.int .i64 8)).run Tryz.prog w = .ok (.agg #[.string ⟨#[124]⟩, .func (Fn.func 252) #[] #[]]) w := by kernel_rfl
theorem sx8 (w : World) : (Instr.field 299 (.agg #[.string ⟨#[124]⟩, .func (Fn.func 252) #[] #[]]) 0).run Tryz.prog w = .ok (.string ⟨#[124]⟩) w := by kernel_rfl
theorem symbol1 (w : World) : Calls Tryz.prog 219 #[.int .i64 1] w fun e w' => e = .returned (.string ⟨#[43]⟩) ∧ Below w.heap.size w w' := by
  have h0 := hid (isOp_any 1 w)
  rw [inB_lit 1 (by decide) (by decide)] at h0
  have h1 := hid (ops_any w)
  have hi := ix1
  have hf := sx1
  go_enter Tryz.func219, Tryz.ntmps219
  go_wp2_with fail
  refine h0.out.mono ?_
  rintro e w1 ⟨rfl, rfl⟩
  go_wp2_with fail
  refine h1.out.mono ?_
  rintro e w1 ⟨rfl, hb⟩
  go_wp2_with fail
  go_ret
  exact ⟨rfl, hb⟩
theorem symbol2 (w : World) : Calls Tryz.prog 219 #[.int .i64 2] w fun e w' => e = .returned (.string ⟨#[45]⟩) ∧ Below w.heap.size w w' := by
  have h0 := hid (isOp_any 2 w)
  rw [inB_lit 2 (by decide) (by decide)] at h0
  have h1 := hid (ops_any w)
  have hi := ix2
  have hf := sx2
  go_enter Tryz.func219, Tryz.ntmps219
  go_wp2_with fail
  refine h0.out.mono ?_
  rintro e w1 ⟨rfl, rfl⟩
  go_wp2_with fail
  refine h1.out.mono ?_
  rintro e w1 ⟨rfl, hb⟩
  go_wp2_with fail
  go_ret
  exact ⟨rfl, hb⟩
theorem symbol3 (w : World) : Calls Tryz.prog 219 #[.int .i64 3] w fun e w' => e = .returned (.string ⟨#[42]⟩) ∧ Below w.heap.size w w' := by
  have h0 := hid (isOp_any 3 w)
  rw [inB_lit 3 (by decide) (by decide)] at h0
  have h1 := hid (ops_any w)
  have hi := ix3
  have hf := sx3
  go_enter Tryz.func219, Tryz.ntmps219
  go_wp2_with fail
  refine h0.out.mono ?_
  rintro e w1 ⟨rfl, rfl⟩
  go_wp2_with fail
  refine h1.out.mono ?_
  rintro e w1 ⟨rfl, hb⟩
  go_wp2_with fail
  go_ret
  exact ⟨rfl, hb⟩
theorem symbol4 (w : World) : Calls Tryz.prog 219 #[.int .i64 4] w fun e w' => e = .returned (.string ⟨#[47]⟩) ∧ Below w.heap.size w w' := by
  have h0 := hid (isOp_any 4 w)
  rw [inB_lit 4 (by decide) (by decide)] at h0
  have h1 := hid (ops_any w)
  have hi := ix4
  have hf := sx4
  go_enter Tryz.func219, Tryz.ntmps219
  go_wp2_with fail
  refine h0.out.mono ?_
  rintro e w1 ⟨rfl, rfl⟩
  go_wp2_with fail
  refine h1.out.mono ?_
  rintro e w1 ⟨rfl, hb⟩
  go_wp2_with fail
  go_ret
  exact ⟨rfl, hb⟩
theorem symbol5 (w : World) : Calls Tryz.prog 219 #[.int .i64 5] w fun e w' => e = .returned (.string ⟨#[60]⟩) ∧ Below w.heap.size w w' := by
  have h0 := hid (isOp_any 5 w)
  rw [inB_lit 5 (by decide) (by decide)] at h0
  have h1 := hid (ops_any w)
  have hi := ix5
  have hf := sx5
  go_enter Tryz.func219, Tryz.ntmps219
  go_wp2_with fail
  refine h0.out.mono ?_
  rintro e w1 ⟨rfl, rfl⟩
  go_wp2_with fail
  refine h1.out.mono ?_
  rintro e w1 ⟨rfl, hb⟩
  go_wp2_with fail
  go_ret
  exact ⟨rfl, hb⟩
theorem symbol6 (w : World) : Calls Tryz.prog 219 #[.int .i64 6] w fun e w' => e = .returned (.string ⟨#[61, 61]⟩) ∧ Below w.heap.size w w' := by
  have h0 := hid (isOp_any 6 w)
  rw [inB_lit 6 (by decide) (by decide)] at h0
  have h1 := hid (ops_any w)
  have hi := ix6
  have hf := sx6
  go_enter Tryz.func219, Tryz.ntmps219
  go_wp2_with fail
  refine h0.out.mono ?_
  rintro e w1 ⟨rfl, rfl⟩
  go_wp2_with fail
  refine h1.out.mono ?_
  rintro e w1 ⟨rfl, hb⟩
  go_wp2_with fail
  go_ret
  exact ⟨rfl, hb⟩
theorem symbol7 (w : World) : Calls Tryz.prog 219 #[.int .i64 7] w fun e w' => e = .returned (.string ⟨#[38]⟩) ∧ Below w.heap.size w w' := by
  have h0 := hid (isOp_any 7 w)
  rw [inB_lit 7 (by decide) (by decide)] at h0
  have h1 := hid (ops_any w)
  have hi := ix7
  have hf := sx7
  go_enter Tryz.func219, Tryz.ntmps219
  go_wp2_with fail
  refine h0.out.mono ?_
  rintro e w1 ⟨rfl, rfl⟩
  go_wp2_with fail
  refine h1.out.mono ?_
  rintro e w1 ⟨rfl, hb⟩
  go_wp2_with fail
  go_ret
  exact ⟨rfl, hb⟩
theorem symbol8 (w : World) : Calls Tryz.prog 219 #[.int .i64 8] w fun e w' => e = .returned (.string ⟨#[124]⟩) ∧ Below w.heap.size w w' := by
  have h0 := hid (isOp_any 8 w)
  rw [inB_lit 8 (by decide) (by decide)] at h0
  have h1 := hid (ops_any w)
  have hi := ix8
  have hf := sx8
  go_enter Tryz.func219, Tryz.ntmps219
  go_wp2_with fail
  refine h0.out.mono ?_
  rintro e w1 ⟨rfl, rfl⟩
  go_wp2_with fail
  refine h1.out.mono ?_
  rintro e w1 ⟨rfl, hb⟩
  go_wp2_with fail
  go_ret
  exact ⟨rfl, hb⟩
theorem symbol_not (k : Int) (hk : k < 1 ∨ 8 < k) (w : World) : Calls Tryz.prog 219 #[.int .i64 k] w fun e w' => e = .returned (.string ⟨#[63]⟩) ∧ Below w.heap.size w w' := by
  have h0 := hid (isOp_any k w)
  rw [inB_not k hk] at h0
  clear hk
  go_enter Tryz.func219, Tryz.ntmps219
  go_wp2_with fail
  refine h0.out.mono ?_
  rintro e w1 ⟨rfl, rfl⟩
  go_wp2_with fail
  go_ret
  exact ⟨rfl, Below.refl _ _⟩
theorem symbol_any (k : Int) (w : World) : Calls Tryz.prog 219 #[.int .i64 k] w fun e w' => e = .returned (.string ⟨(symL k).toArray⟩) ∧ Below w.heap.size w w' := by
  by_cases h : 1 ≤ k ∧ k ≤ 8
  · rcases op_cases h.1 h.2 with rfl | rfl | rfl | rfl | rfl | rfl | rfl | rfl
    · exact symbol1 w
    · exact symbol2 w
    · exact symbol3 w
    · exact symbol4 w
    · exact symbol5 w
    · exact symbol6 w
    · exact symbol7 w
    · exact symbol8 w
  · rw [symL_not (by omega)]; exact symbol_not k (by omega) w
end Go.Proofs.YtiogceepjffmkaaGreatDoor.C3
set_option maxRecDepth 100000
namespace Go.Proofs.YtiogceepjffmkaaGreatDoor.Tk
open Go.RowKit Go.Lib Go.Sort Num Com Mem YtiogceepjffmkaaGreatDoor.Os Tr Ik
abbrev FMT : TypeId := 245
abbrev MFT : TypeId := 246
abbrev fn2 (f g : Nat) : Value := .agg #[.func (Fn.func f) #[] #[], .func (Fn.func g) #[] #[]]
def fmtsL : List (Int × Value) := [(1, fn2 198 199), (2, fn2 198 200), (3, fn2 201 202), (4, fn2 203 204)]
theorem zeroF (w : World) : (zeroValue FMT).run Tryz.prog w = .ok (.agg #[.nilFunc, .nilFunc]) w := by kernel_rfl
theorem formatters_any (w : World) : Calls Tryz.prog 180 #[] w fun e w' => e = .returned (.map (some w.heap.size)) ∧ KMap w' w.heap.size fmtsL ∧ Below w.heap.size w w' := by
  have hmm := @run_makeMap Tryz.prog
  have H : KMap (w.alloc (.map #[] 0)) w.heap.size [] ∧ Below w.heap.size w (w.alloc (.map #[] 0)) := ⟨Im.IMap.new w, (Below.refl _ _).alloc (Nat.le_refl _) _⟩
  have H := hid H
  go_enter Tryz.func180, Tryz.ntmps180
  go_wp2_with (refine wpList_put rfl _ _ _ (Or.inl rfl) Tryz.underlying246 Tryz.underlying3 _ _ H.out.1 _ _ rfl rfl rfl (by kernel_rfl) ?_; intro w1 hs1 hg1 hz1; replace H := hid (And.intro hs1 (bgb H.out.2 hg1 H.out.2.size (Nat.le_refl _))); clear hs1 hg1 hz1)
  go_ret
  exact ⟨rfl, H.out.1, H.out.2⟩
theorem look_at {w : World} {b : Nat} (h : KMap w b fmtsL) (k : Int) (ok : Bool) : (Instr.lookup MFT (.map (some b)) (.int .i64 k) ok).run Tryz.prog w = .ok (if ok then .tuple #[(kget fmtsL k).getD (.agg #[.nilFunc, .nilFunc]), .bool (kget fmtsL k).isSome] else (kget fmtsL k).getD (.agg #[.nilFunc, .nilFunc])) w :=
  run_look h Tryz.underlying246 Tryz.underlying3 (zeroF w) ok
theorem kget_none {k : Int} (h1 : k ≠ 1) (h2 : k ≠ 2) (h3 : k ≠ 3) (h4 : k ≠ 4) : kget fmtsL k = none := by
  have e : ∀ a : Int, k ≠ a → (a == k) = false := fun a h => beq_false_of_ne (fun e => h e.symm)
  simp [kget, fmtsL, e _ h1, e _ h2, e _ h3, e _ h4]
theorem look1 {w : World} {b : Nat} (h : KMap w b fmtsL) : (Instr.lookup MFT (.map (some b)) (.int .i64 1) true).run Tryz.prog w = .ok (.tuple #[fn2 198 199, .bool true]) w ∧ (Instr.lookup MFT (.map (some b)) (.int .i64 1) false).run Tryz.prog w = .ok (fn2 198 199) w := ⟨look_at h 1 true, look_at h 1 false⟩
theorem look2 {w : World} {b : Nat} (h : KMap w b fmtsL) : (Instr.lookup MFT (.map (some b)) (.int .i64 2) true).run Tryz.prog w = .ok (.tuple #[fn2 198 200, .bool true]) w ∧ (Instr.lookup MFT (.map (some b)) (.int .i64 2) false).run Tryz.prog w = .ok (fn2 198 200) w := ⟨look_at h 2 true, look_at h 2 false⟩
theorem look3 {w : World} {b : Nat} (h : KMap w b fmtsL) : (Instr.lookup MFT (.map (some b)) (.int .i64 3) true).run Tryz.prog w = .ok (.tuple #[fn2 201 202, .bool true]) w ∧ (Instr.lookup MFT (.map (some b)) (.int .i64 3) false).run Tryz.prog w = .ok (fn2 201 202) w := ⟨look_at h 3 true, look_at h 3 false⟩
theorem look4 {w : World} {b : Nat} (h : KMap w b fmtsL) : (Instr.lookup MFT (.map (some b)) (.int .i64 4) true).run Tryz.prog w = .ok (.tuple #[fn2 203 204, .bool true]) w ∧ (Instr.lookup MFT (.map (some b)) (.int .i64 4) false).run Tryz.prog w = .ok (fn2 203 204) w := ⟨look_at h 4 true, look_at h 4 false⟩
theorem lookN {w : World} {b : Nat} (h : KMap w b fmtsL) {k : Int} (h1 : k ≠ 1) (h2 : k ≠ 2) (h3 : k ≠ 3) (h4 : k ≠ 4) : (Instr.lookup MFT (.map (some b)) (.int .i64 k) true).run Tryz.prog w = .ok (.tuple #[.agg #[.nilFunc, .nilFunc], .bool false]) w := by
  have := look_at h k true
  rw [kget_none h1 h2 h3 h4] at this
  exact this
theorem lv_atom (k n : Int) (s : List UInt8) (A : Option Addr) (l c : Nat) (w : World) : Calls Tryz.prog 198 #[nv k n s A l c] w fun e w' => e = .returned (.int .i64 7) ∧ Below w.heap.size w w' := by
  have hb1 := hid (box_below w (.cells #[.int .i64 k, .int .i64 n, sv s, .slice A l c] 58))
  go_enter Tryz.func198, Tryz.ntmps198
  go_wp2_with fail
  go_ret
  exact ⟨rfl, hb1.out⟩
theorem lv_not (k n : Int) (s : List UInt8) (A : Option Addr) (l c : Nat) (w : World) : Calls Tryz.prog 203 #[nv k n s A l c] w fun e w' => e = .returned (.int .i64 6) ∧ Below w.heap.size w w' := by
  have hb1 := hid (box_below w (.cells #[.int .i64 k, .int .i64 n, sv s, .slice A l c] 58))
  go_enter Tryz.func203, Tryz.ntmps203
  go_wp2_with fail
  go_ret
  exact ⟨rfl, hb1.out⟩
theorem lvl_no8 {n : Int} (h : n < 1 ∨ 8 < n) : lvl 3 n = 7 := lvl_no fun j h1 h2 => by
  have hj : j = 1 ∨ j = 2 ∨ j = 3 ∨ j = 4 ∨ j = 5 := by omega
  rcases hj with rfl | rfl | rfl | rfl | rfl <;> (simp only [opsOf, List.mem_cons, List.not_mem_nil, or_false]; omega)
theorem lv_op (n : Int) (k : Int) (s : List UInt8) (A : Option Addr) (l c : Nat) (w : World) : Calls Tryz.prog 201 #[nv k n s A l c] w fun e w' => e = .returned (.int .i64 (lvl 3 n : Nat)) ∧ Below w.heap.size w w' := by
  have hb1 := hid (box_below w (.cells #[.int .i64 k, .int .i64 n, sv s, .slice A l c] 58))
  by_cases h : 1 ≤ n ∧ n ≤ 8
  · rcases C3.op_cases h.1 h.2 with rfl | rfl | rfl | rfl | rfl | rfl | rfl | rfl
    all_goals
      go_enter Tryz.func201, Tryz.ntmps201
      go_wp2_with fail
      go_ret
      exact ⟨rfl, hb1.out⟩
  · have hf := hid (lvl_no8 (n := n) (by omega))
    have e1 : (n == 1) = false := beq_false_of_ne (by omega)
    have e2 : (n == 2) = false := beq_false_of_ne (by omega)
    have e3 : (n == 3) = false := beq_false_of_ne (by omega)
    have e4 : (n == 4) = false := beq_false_of_ne (by omega)
    have e5 : (n == 5) = false := beq_false_of_ne (by omega)
    have e6 : (n == 6) = false := beq_false_of_ne (by omega)
    have e7 : (n == 7) = false := beq_false_of_ne (by omega)
    have e8 : (n == 8) = false := beq_false_of_ne (by omega)
    clear h
    go_enter Tryz.func201, Tryz.ntmps201
    go_wp2_with fail
    go_ret
    exact ⟨by rw [hf.out]; rfl, hb1.out⟩
def lft (x : Int) : Int := if x = 3 then 4 else x
def rgt (x : Int) : Int := if x = 3 then 4 else x + 1
theorem lvs_operands (x : Int) (h0 : 0 ≤ x) (h1 : x ≤ 100) (w : World) : Calls Tryz.prog 216 #[.int .i64 x] w fun e w' => e = .returned (.tuple #[.int .i64 (lft x), .int .i64 (rgt x)]) ∧ w = w' := by
  by_cases h : x = 3
  · subst h
    go_enter Tryz.func216, Tryz.ntmps216
    go_wp2_with fail
    go_ret2
    exact ⟨rfl, rfl⟩
  · have e1 : (x == 3) = false := beq_false_of_ne h
    have e2 : IntKind.i64.wrap (x + 1) = x + 1 := IntWalk.i64_in _ (by omega)
    have hf := hid (show lft x = x by unfold lft; rw [if_neg h])
    have hg := hid (show rgt x = x + 1 by unfold rgt; rw [if_neg h])
    clear h
    go_enter Tryz.func216, Tryz.ntmps216
    go_wp2_with fail
    go_ret2
    exact ⟨by rw [hf.out, hg.out]; rfl, rfl⟩
end Go.Proofs.YtiogceepjffmkaaGreatDoor.Tk
