/- Chapter 3: numbers of operators. -/
import Derived.Test.YtklcbagddijkgaaGreatZC3a
set_option maxRecDepth 100000
namespace Go.Proofs.YtklcbagddijkgaaGreat.C3
open Go.RowKit Go.Lib Go.Proofs.YtklcbagddijkgaaGreat.Com Go.Proofs.YtklcbagddijkgaaGreat.Mem

def ans (a : Int) (b : Bool) : Value := .tuple #[.int .i64 a, .bool b]
theorem word_lo (x : Int) : 0 ≤ x % 4 := by omega
theorem word_hi (x : Int) : x % 4 < 4 := by omega
theorem inB_lit (k : Int) (h1 : 1 ≤ k) (h2 : k ≤ 8) : inB k 1 8 = true := by simp [inB]; omega
theorem inB_not (k : Int) (h : k < 1 ∨ 8 < k) : inB k 1 8 = false := by
  cases h' : inB k 1 8 with
  | false => rfl
  | true => simp only [inB, Bool.and_eq_true, decide_eq_true_eq] at h'; omega
theorem op_cases {k : Int} (h1 : 1 ≤ k) (h2 : k ≤ 8) : k = 1 ∨ k = 2 ∨ k = 3 ∨ k = 4 ∨ k = 5 ∨ k = 6 ∨ k = 7 ∨ k = 8 := by omega
/-- what OpSymbol answers -/
def symL (k : Int) : List UInt8 :=
  if k = 1 then [43] else if k = 2 then [45] else if k = 3 then [42] else if k = 4 then [47] else if k = 5 then [60]
  else if k = 6 then [61, 61] else if k = 7 then [38] else if k = 8 then [124] else [63]
theorem symL_not {k : Int} (h : k < 1 ∨ 8 < k) : symL k = [63] := by unfold symL; repeat (rw [if_neg (by omega)])
/-- what ApplyOp answers -/
def appV (k x y : Int) : Int := opV k (x % 4) (y % 4)
def appOk (k y : Int) : Bool := opOk k (y % 4)
theorem opV_not {k x y : Int} (h : k < 1 ∨ 8 < k) : opV k x y = 0 := by unfold opV; repeat (rw [if_neg (by omega)])
theorem opOk_not {k y : Int} (h : k < 1 ∨ 8 < k) : opOk k y = false := by unfold opOk; rw [inB_not k h, Bool.false_and]
theorem opOk_lit {k y : Int} (h1 : 1 ≤ k) (h2 : k ≤ 8) (h4 : k ≠ 4) : opOk k y = true := by
  unfold opOk; rw [inB_lit k h1 h2]; simp [h4]
end Go.Proofs.YtklcbagddijkgaaGreat.C3
