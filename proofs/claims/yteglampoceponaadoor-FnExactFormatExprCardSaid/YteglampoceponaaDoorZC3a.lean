/- Chapter 3: words and single operators. -/
import Derived.Test.YteglampoceponaaDoorZCom
import Derived.Lib.QuietBelow
import Derived.BigQuiet
set_option maxRecDepth 100000
namespace Go.Proofs.YteglampoceponaaDoor.C3
open Go.RowKit Go.Lib Go.Proofs.YteglampoceponaaDoor.Com Go.Proofs.YteglampoceponaaDoor.Mem

def isW (n : Int) : Bool := decide (0 ≤ n) && decide (n < 4)
theorem isW_iff {n : Int} : isW n = true ↔ 0 ≤ n ∧ n < 4 := by simp [isW]
theorem tmod_split (n : Int) : n.tmod 4 = if 0 ≤ n then n % 4 else -((-n) % 4) := by
  split
  · rename_i h; exact Int.tmod_eq_emod_of_nonneg h
  · rename_i h
    have e : n.tmod 4 = -((-n).tmod 4) := by rw [Int.neg_tmod, Int.neg_neg]
    rw [e, Int.tmod_eq_emod_of_nonneg (by omega)]
theorem wrap_eq (n : Int) : (wrap64 (n.tmod 4 + 4)).tmod 4 = n % 4 := by
  rw [tmod_split, tmod_split]
  unfold wrap64
  split <;> split <;> omega
theorem isW_wrap (n : Int) : isW (n % 4) = true := by rw [isW_iff]; omega
theorem wrap_wrap (n : Int) : n % 4 % 4 = n % 4 := by omega

set_option maxHeartbeats 400000 in
theorem wrap_any (n : Int) (w : World) : Calls Tryd.prog 54 #[.int .i64 n] w fun e w' => e = .returned (.int .i64 (n % 4)) ∧ w = w' := by
  have hq := hid (wrap_eq n)
  go_enter Tryd.func54, Tryd.ntmps54
  go_wp2_with fail
  rw [hq.out]
  go_ret
  exact ⟨rfl, rfl⟩
set_option maxHeartbeats 400000 in
theorem isWord_any (n : Int) (w : World) : Calls Tryd.prog 50 #[.int .i64 n] w fun e w' => e = .returned (.bool (isW n)) ∧ w = w' := by
  by_cases h1 : 0 ≤ n
  · have t1 : decide ((0 : Int) ≤ n) = true := decide_eq_true h1
    have hf := hid (show isW n = decide (n < 4) by unfold isW; rw [t1, Bool.true_and])
    go_enter Tryd.func50, Tryd.ntmps50
    go_wp2_with fail
    go_ret
    exact ⟨by rw [hf.out]; rfl, rfl⟩
  · have t1 : decide ((0 : Int) ≤ n) = false := decide_eq_false h1
    have hf := hid (show isW n = false by unfold isW; rw [t1, Bool.false_and])
    go_enter Tryd.func50, Tryd.ntmps50
    go_wp2_with fail
    go_ret
    exact ⟨by rw [hf.out]; rfl, rfl⟩
def inB (n a b : Int) : Bool := decide (a ≤ n) && decide (n ≤ b)
set_option maxHeartbeats 400000 in
theorem l1In_any (n a b : Int) (w : World) : Calls Tryd.prog 42 #[.int .i64 n, .int .i64 a, .int .i64 b] w fun e w' => e = .returned (.bool (inB n a b)) ∧ w = w' := by
  by_cases h1 : a ≤ n
  · have t1 : decide (a ≤ n) = true := decide_eq_true h1
    have hf := hid (show inB n a b = decide (n ≤ b) by unfold inB; rw [t1, Bool.true_and])
    go_enter Tryd.func42, Tryd.ntmps42
    go_wp2_with fail
    go_ret
    exact ⟨by rw [hf.out]; rfl, rfl⟩
  · have t1 : decide (a ≤ n) = false := decide_eq_false h1
    have hf := hid (show inB n a b = false by unfold inB; rw [t1, Bool.false_and])
    go_enter Tryd.func42, Tryd.ntmps42
    go_wp2_with fail
    go_ret
    exact ⟨by rw [hf.out]; rfl, rfl⟩
set_option maxHeartbeats 400000 in
theorem sisWord_any (n : Int) (w : World) : Calls Tryd.prog 48 #[.int .i64 n] w fun e w' => e = .returned (.bool (isW n)) ∧ w = w' := by
  have hq := hid (l1In_any n 0 3 w)
  have hf := hid (show inB n 0 3 = isW n by unfold inB isW; congr 1; apply decide_eq_decide.2; omega)
  go_enter Tryd.func48, Tryd.ntmps48
  go_wp2_with fail
  refine hq.out.mono ?_
  rw [hf.out]
  rintro e w' ⟨rfl, rfl⟩
  go_wp2_with fail
  go_ret
  exact ⟨rfl, rfl⟩
set_option maxHeartbeats 400000 in
theorem isOp_any (n : Int) (w : World) : Calls Tryd.prog 46 #[.int .i64 n] w fun e w' => e = .returned (.bool (inB n 1 8)) ∧ w = w' := by
  by_cases h1 : 1 ≤ n
  · have t1 : decide (1 ≤ n) = true := decide_eq_true h1
    have hf := hid (show inB n 1 8 = decide (n ≤ 8) by unfold inB; rw [t1, Bool.true_and])
    go_enter Tryd.func46, Tryd.ntmps46
    go_wp2_with fail
    go_ret
    exact ⟨by rw [hf.out]; rfl, rfl⟩
  · have t1 : decide (1 ≤ n) = false := decide_eq_false h1
    have hf := hid (show inB n 1 8 = false by unfold inB; rw [t1, Bool.false_and])
    go_enter Tryd.func46, Tryd.ntmps46
    go_wp2_with fail
    go_ret
    exact ⟨by rw [hf.out]; rfl, rfl⟩
def bit (b : Bool) : Int := if b then 1 else 0
set_option maxHeartbeats 400000 in
theorem truth_any (b : Bool) (w : World) : Calls Tryd.prog 59 #[.bool b] w fun e w' => e = .returned (.int .i64 (bit b)) ∧ w = w' := by
  cases b
  all_goals
    go_enter Tryd.func59, Tryd.ntmps59
    go_wp2_with fail
    go_ret
    exact ⟨rfl, rfl⟩

/-- what the operator does with two words -/
def opV (op x y : Int) : Int :=
  if op = 1 then (x + y) % 4 else if op = 2 then (x - y) % 4 else if op = 3 then (x * y) % 4
  else if op = 4 then (if y = 0 then 0 else x / y) else if op = 5 then bit (decide (x < y)) else if op = 6 then bit (x == y)
  else if op = 7 then bit ((x != 0) && (y != 0)) else if op = 8 then bit ((x != 0) || (y != 0)) else 0
def opOk (op y : Int) : Bool := inB op 1 8 && !(op == 4 && y == 0)
end Go.Proofs.YteglampoceponaaDoor.C3
