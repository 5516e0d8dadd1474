/- Chapter 3: words and single operators. -/
import Derived.Test.YtklcbagddijkgaaGreatDoorZCom
import Derived.Lib.QuietBelow
import Derived.BigQuiet
set_option maxRecDepth 100000
namespace Go.Proofs.YtklcbagddijkgaaGreatDoor.C3
open Go.RowKit Go.Lib Go.Proofs.YtklcbagddijkgaaGreatDoor.Com Go.Proofs.YtklcbagddijkgaaGreatDoor.Mem

def isW (n : Int) : Bool := decide (0 ≤ n) && decide (n < 4)
theorem isW_iff {n : Int} : isW n = true ↔ 0 ≤ n ∧ n < 4 := by simp [isW]
theorem tmod_split (n : Int) : n.tmod 4 = if 0 ≤ n then n % 4 else -((-n) % 4) := by
  split
  · rename_i h; exact Int.tmod_eq_emod_of_nonneg h
  · rename_i h
    have e : n.tmod 4 = -((-n).tmod 4) := by rw [Int.neg_tmod, Int.neg_neg]
    rw [e, Int.tmod_eq_emod_of_nonneg (by omega)]
theorem wrap_eq (n : Int) : (wrap64 (n.tmod 4 + 4)).tmod 4 = n % 4 := by
  rw [tmod_split, tmod_split]
  unfold wrap64
  split <;> split <;> omega
theorem isW_wrap (n : Int) : isW (n % 4) = true := by rw [isW_iff]; omega
theorem wrap_wrap (n : Int) : n % 4 % 4 = n % 4 := by omega

set_option maxHeartbeats 400000 in
theorem wrap_any (n : Int) (w : World) : Calls Tryz.prog 217 #[.int .i64 n] w fun e w' => e = .returned (.int .i64 (n % 4)) ∧ w = w' := by
  have hq := hid (wrap_eq n)
  go_enter Tryz.func217, Tryz.ntmps217
  go_wp2_with fail
  rw [hq.out]
  go_ret
  exact ⟨rfl, rfl⟩
set_option maxHeartbeats 400000 in
theorem isWord_any (n : Int) (w : World) : Calls Tryz.prog 172 #[.int .i64 n] w fun e w' => e = .returned (.bool (isW n)) ∧ w = w' := by
  by_cases h1 : 0 ≤ n
  · have t1 : decide ((0 : Int) ≤ n) = true := decide_eq_true h1
    have hf := hid (show isW n = decide (n < 4) by unfold isW; rw [t1, Bool.true_and])
    go_enter Tryz.func172, Tryz.ntmps172
    go_wp2_with fail
    go_ret
    exact ⟨by rw [hf.out]; rfl, rfl⟩
  · have t1 : decide ((0 : Int) ≤ n) = false := decide_eq_false h1
    have hf := hid (show isW n = false by unfold isW; rw [t1, Bool.false_and])
    go_enter Tryz.func172, Tryz.ntmps172
    go_wp2_with fail
    go_ret
    exact ⟨by rw [hf.out]; rfl, rfl⟩
def inB (n a b : Int) : Bool := decide (a ≤ n) && decide (n ≤ b)
set_option maxHeartbeats 400000 in
theorem l1In_any (n a b : Int) (w : World) : Calls Tryz.prog 147 #[.int .i64 n, .int .i64 a, .int .i64 b] w fun e w' => e = .returned (.bool (inB n a b)) ∧ w = w' := by
  by_cases h1 : a ≤ n
  · have t1 : decide (a ≤ n) = true := decide_eq_true h1
    have hf := hid (show inB n a b = decide (n ≤ b) by unfold inB; rw [t1, Bool.true_and])
    go_enter Tryz.func147, Tryz.ntmps147
    go_wp2_with fail
    go_ret
    exact ⟨by rw [hf.out]; rfl, rfl⟩
  · have t1 : decide (a ≤ n) = false := decide_eq_false h1
    have hf := hid (show inB n a b = false by unfold inB; rw [t1, Bool.false_and])
    go_enter Tryz.func147, Tryz.ntmps147
    go_wp2_with fail
    go_ret
    exact ⟨by rw [hf.out]; rfl, rfl⟩
set_option maxHeartbeats 400000 in
theorem sisWord_any (n : Int) (w : World) : Calls Tryz.prog 135 #[.int .i64 n] w fun e w' => e = .returned (.bool (isW n)) ∧ w = w' := by
  have hq := hid (l1In_any n 0 3 w)
  have hf := hid (show inB n 0 3 = isW n by unfold inB isW; congr 1; apply decide_eq_decide.2; omega)
  go_enter Tryz.func135, Tryz.ntmps135
  go_wp2_with fail
  refine hq.out.mono ?_
  rw [hf.out]
  rintro e w' ⟨rfl, rfl⟩
  go_wp2_with fail
  go_ret
  exact ⟨rfl, rfl⟩
set_option maxHeartbeats 400000 in
theorem isOp_any (n : Int) (w : World) : Calls Tryz.prog 173 #[.int .i64 n] w fun e w' => e = .returned (.bool (inB n 1 8)) ∧ w = w' := by
  by_cases h1 : 1 ≤ n
  · have t1 : decide (1 ≤ n) = true := decide_eq_true h1
    have hf := hid (show inB n 1 8 = decide (n ≤ 8) by unfold inB; rw [t1, Bool.true_and])
    go_enter Tryz.func173, Tryz.ntmps173
    go_wp2_with fail
    go_ret
    exact ⟨by rw [hf.out]; rfl, rfl⟩
  · have t1 : decide (1 ≤ n) = false := decide_eq_false h1
    have hf := hid (show inB n 1 8 = false by unfold inB; rw [t1, Bool.false_and])
    go_enter Tryz.func173, Tryz.ntmps173
    go_wp2_with fail
    go_ret
    exact ⟨by rw [hf.out]; rfl, rfl⟩
def bit (b : Bool) : Int := if b then 1 else 0
set_option maxHeartbeats 400000 in
theorem truth_any (b : Bool) (w : World) : Calls Tryz.prog 222 #[.bool b] w fun e w' => e = .returned (.int .i64 (bit b)) ∧ w = w' := by
  cases b
  all_goals
    go_enter Tryz.func222, Tryz.ntmps222
    go_wp2_with fail
    go_ret
    exact ⟨rfl, rfl⟩

/-- what the operator does with two words -/
def opV (op x y : Int) : Int :=
  if op = 1 then (x + y) % 4 else if op = 2 then (x - y) % 4 else if op = 3 then (x * y) % 4
  else if op = 4 then (if y = 0 then 0 else x / y) else if op = 5 then bit (decide (x < y)) else if op = 6 then bit (x == y)
  else if op = 7 then bit ((x != 0) && (y != 0)) else if op = 8 then bit ((x != 0) || (y != 0)) else 0
def opOk (op y : Int) : Bool := inB op 1 8 && !(op == 4 && y == 0)
end Go.Proofs.YtklcbagddijkgaaGreatDoor.C3

/- Chapter 3: numbers of operators. -/
set_option maxRecDepth 100000
namespace Go.Proofs.YtklcbagddijkgaaGreatDoor.C3
open Go.RowKit Go.Lib Go.Proofs.YtklcbagddijkgaaGreatDoor.Com Go.Proofs.YtklcbagddijkgaaGreatDoor.Mem

def ans (a : Int) (b : Bool) : Value := .tuple #[.int .i64 a, .bool b]
theorem word_lo (x : Int) : 0 ≤ x % 4 := by omega
theorem word_hi (x : Int) : x % 4 < 4 := by omega
theorem inB_lit (k : Int) (h1 : 1 ≤ k) (h2 : k ≤ 8) : inB k 1 8 = true := by simp [inB]; omega
theorem inB_not (k : Int) (h : k < 1 ∨ 8 < k) : inB k 1 8 = false := by
  cases h' : inB k 1 8 with
  | false => rfl
  | true => simp only [inB, Bool.and_eq_true, decide_eq_true_eq] at h'; omega
theorem op_cases {k : Int} (h1 : 1 ≤ k) (h2 : k ≤ 8) : k = 1 ∨ k = 2 ∨ k = 3 ∨ k = 4 ∨ k = 5 ∨ k = 6 ∨ k = 7 ∨ k = 8 := by omega
/-- what OpSymbol answers -/
def symL (k : Int) : List UInt8 :=
  if k = 1 then [43] else if k = 2 then [45] else if k = 3 then [42] else if k = 4 then [47] else if k = 5 then [60]
  else if k = 6 then [61, 61] else if k = 7 then [38] else if k = 8 then [124] else [63]
theorem symL_not {k : Int} (h : k < 1 ∨ 8 < k) : symL k = [63] := by unfold symL; repeat (rw [if_neg (by omega)])
/-- what ApplyOp answers -/
def appV (k x y : Int) : Int := opV k (x % 4) (y % 4)
def appOk (k y : Int) : Bool := opOk k (y % 4)
theorem opV_not {k x y : Int} (h : k < 1 ∨ 8 < k) : opV k x y = 0 := by unfold opV; repeat (rw [if_neg (by omega)])
theorem opOk_not {k y : Int} (h : k < 1 ∨ 8 < k) : opOk k y = false := by unfold opOk; rw [inB_not k h, Bool.false_and]
theorem opOk_lit {k y : Int} (h1 : 1 ≤ k) (h2 : k ≤ 8) (h4 : k ≠ 4) : opOk k y = true := by
  unfold opOk; rw [inB_lit k h1 h2]; simp [h4]
end Go.Proofs.YtklcbagddijkgaaGreatDoor.C3

/- Chapter 3: the model's ApplyOp and OpSymbol. -/
set_option maxRecDepth 100000
namespace Go.Proofs.YtklcbagddijkgaaGreatDoor.C3
open Go.RowKit Go.Lib Go.Sort Go.Proofs.YtklcbagddijkgaaGreatDoor.Com Go.Proofs.YtklcbagddijkgaaGreatDoor.Mem
set_option maxHeartbeats 1000000 in
theorem ssymbol1 (w : World) : Calls Tryz.prog 98 #[.int .i64 1] w fun e w' => e = .returned (.string ⟨#[43]⟩) ∧ Below w.heap.size w w' := by
  have h0 := hid (l1In_any 1 1 8 w)
  rw [inB_lit 1 (by decide) (by decide)] at h0
  go_enter Tryz.func98, Tryz.ntmps98
  go_wp2_with fail
  refine h0.out.mono ?_
  rintro e w1 ⟨rfl, rfl⟩
  go_wp2_with fail
  go_ret
  exact ⟨rfl, (Below.refl _ _).alloc (Nat.le_refl _) _⟩
set_option maxHeartbeats 1000000 in
theorem ssymbol2 (w : World) : Calls Tryz.prog 98 #[.int .i64 2] w fun e w' => e = .returned (.string ⟨#[45]⟩) ∧ Below w.heap.size w w' := by
  have h0 := hid (l1In_any 2 1 8 w)
  rw [inB_lit 2 (by decide) (by decide)] at h0
  go_enter Tryz.func98, Tryz.ntmps98
  go_wp2_with fail
  refine h0.out.mono ?_
  rintro e w1 ⟨rfl, rfl⟩
  go_wp2_with fail
  go_ret
  exact ⟨rfl, (Below.refl _ _).alloc (Nat.le_refl _) _⟩
set_option maxHeartbeats 1000000 in
theorem ssymbol3 (w : World) : Calls Tryz.prog 98 #[.int .i64 3] w fun e w' => e = .returned (.string ⟨#[42]⟩) ∧ Below w.heap.size w w' := by
  have h0 := hid (l1In_any 3 1 8 w)
  rw [inB_lit 3 (by decide) (by decide)] at h0
  go_enter Tryz.func98, Tryz.ntmps98
  go_wp2_with fail
  refine h0.out.mono ?_
  rintro e w1 ⟨rfl, rfl⟩
  go_wp2_with fail
  go_ret
  exact ⟨rfl, (Below.refl _ _).alloc (Nat.le_refl _) _⟩
set_option maxHeartbeats 1000000 in
theorem ssymbol4 (w : World) : Calls Tryz.prog 98 #[.int .i64 4] w fun e w' => e = .returned (.string ⟨#[47]⟩) ∧ Below w.heap.size w w' := by
  have h0 := hid (l1In_any 4 1 8 w)
  rw [inB_lit 4 (by decide) (by decide)] at h0
  go_enter Tryz.func98, Tryz.ntmps98
  go_wp2_with fail
  refine h0.out.mono ?_
  rintro e w1 ⟨rfl, rfl⟩
  go_wp2_with fail
  go_ret
  exact ⟨rfl, (Below.refl _ _).alloc (Nat.le_refl _) _⟩
set_option maxHeartbeats 1000000 in
theorem ssymbol5 (w : World) : Calls Tryz.prog 98 #[.int .i64 5] w fun e w' => e = .returned (.string ⟨#[60]⟩) ∧ Below w.heap.size w w' := by
  have h0 := hid (l1In_any 5 1 8 w)
  rw [inB_lit 5 (by decide) (by decide)] at h0
  go_enter Tryz.func98, Tryz.ntmps98
  go_wp2_with fail
  refine h0.out.mono ?_
  rintro e w1 ⟨rfl, rfl⟩
  go_wp2_with fail
  go_ret
  exact ⟨rfl, (Below.refl _ _).alloc (Nat.le_refl _) _⟩
set_option maxHeartbeats 1000000 in
theorem ssymbol6 (w : World) : Calls Tryz.prog 98 #[.int .i64 6] w fun e w' => e = .returned (.string ⟨#[61, 61]⟩) ∧ Below w.heap.size w w' := by
  have h0 := hid (l1In_any 6 1 8 w)
  rw [inB_lit 6 (by decide) (by decide)] at h0
  go_enter Tryz.func98, Tryz.ntmps98
  go_wp2_with fail
  refine h0.out.mono ?_
  rintro e w1 ⟨rfl, rfl⟩
  go_wp2_with fail
  go_ret
  exact ⟨rfl, (Below.refl _ _).alloc (Nat.le_refl _) _⟩
set_option maxHeartbeats 1000000 in
theorem ssymbol7 (w : World) : Calls Tryz.prog 98 #[.int .i64 7] w fun e w' => e = .returned (.string ⟨#[38]⟩) ∧ Below w.heap.size w w' := by
  have h0 := hid (l1In_any 7 1 8 w)
  rw [inB_lit 7 (by decide) (by decide)] at h0
  go_enter Tryz.func98, Tryz.ntmps98
  go_wp2_with fail
  refine h0.out.mono ?_
  rintro e w1 ⟨rfl, rfl⟩
  go_wp2_with fail
  go_ret
  exact ⟨rfl, (Below.refl _ _).alloc (Nat.le_refl _) _⟩
set_option maxHeartbeats 1000000 in
theorem ssymbol8 (w : World) : Calls Tryz.prog 98 #[.int .i64 8] w fun e w' => e = .returned (.string ⟨#[124]⟩) ∧ Below w.heap.size w w' := by
  have h0 := hid (l1In_any 8 1 8 w)
  rw [inB_lit 8 (by decide) (by decide)] at h0
  go_enter Tryz.func98, Tryz.ntmps98
  go_wp2_with fail
  refine h0.out.mono ?_
  rintro e w1 ⟨rfl, rfl⟩
  go_wp2_with fail
  go_ret
  exact ⟨rfl, (Below.refl _ _).alloc (Nat.le_refl _) _⟩
set_option maxHeartbeats 1000000 in
theorem ssymbol_not (k : Int) (hk : k < 1 ∨ 8 < k) (w : World) : Calls Tryz.prog 98 #[.int .i64 k] w fun e w' => e = .returned (.string ⟨#[63]⟩) ∧ Below w.heap.size w w' := by
  have h0 := hid (l1In_any k 1 8 w)
  rw [inB_not k hk] at h0
  clear hk
  go_enter Tryz.func98, Tryz.ntmps98
  go_wp2_with fail
  refine h0.out.mono ?_
  rintro e w1 ⟨rfl, rfl⟩
  go_wp2_with fail
  go_ret
  exact ⟨rfl, Below.refl _ _⟩
theorem ssymbol_any (k : Int) (w : World) : Calls Tryz.prog 98 #[.int .i64 k] w fun e w' => e = .returned (.string ⟨(symL k).toArray⟩) ∧ Below w.heap.size w w' := by
  by_cases h : 1 ≤ k ∧ k ≤ 8
  · rcases op_cases h.1 h.2 with rfl | rfl | rfl | rfl | rfl | rfl | rfl | rfl
    · exact ssymbol1 w
    · exact ssymbol2 w
    · exact ssymbol3 w
    · exact ssymbol4 w
    · exact ssymbol5 w
    · exact ssymbol6 w
    · exact ssymbol7 w
    · exact ssymbol8 w
  · rw [symL_not (by omega)]; exact ssymbol_not k (by omega) w
end Go.Proofs.YtklcbagddijkgaaGreatDoor.C3
