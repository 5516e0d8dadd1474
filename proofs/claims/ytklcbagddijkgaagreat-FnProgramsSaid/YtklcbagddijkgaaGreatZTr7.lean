/- Expressions as trees: their values, by the model. -/
import Derived.Test.YtklcbagddijkgaaGreatZC3a
import Derived.Test.YtklcbagddijkgaaGreatZC3e
import Derived.Test.YtklcbagddijkgaaGreatZLhS
set_option maxRecDepth 100000
namespace Go.Proofs.YtklcbagddijkgaaGreat.Tr
open Go.RowKit Go.Lib Go.Sort Go.Proofs.YtklcbagddijkgaaGreat.Com Go.Proofs.YtklcbagddijkgaaGreat.Mem Go.Proofs.YtklcbagddijkgaaGreat.Os Go.Proofs.YtklcbagddijkgaaGreat.C2 Go.Proofs.YtklcbagddijkgaaGreat.C3

/-- a variable's value -/
def readV (L : List (List UInt8)) (S : List Int) (s : List UInt8) : Int := if inB (ixOf L s) 0 ((S.length : Int) - 1) = true then S.getD (ixOf L s).toNat 0 % 4 else 0
/-- an expression's value, and whether there is one -/
def evalT (L : List (List UInt8)) (S : List Int) : T → Int × Bool
  | .mk k n s ks =>
    if k = 1 then (n, true) else if k = 2 then (readV L S s, true) else
      match ks with
      | [a] => if (evalT L S a).2 = true then (bit ((evalT L S a).1 == 0), true) else (0, false)
      | [a, b] => if (evalT L S a).2 = true ∧ (evalT L S b).2 = true then (appV n (evalT L S a).1 (evalT L S b).1, appOk n (evalT L S b).1) else (0, false)
      | _ => (0, false)
termination_by t => SizeOf.sizeOf t
theorem node_cases {k n : Int} {s : List UInt8} {ks : List T} (h : nodeB k n s ks.length = true) : k = 1 ∨ k = 2 ∨ (k = 3 ∧ ∃ a b, ks = [a, b]) ∨ (k = 4 ∧ ∃ a, ks = [a]) := by
  unfold nodeB at h
  by_cases h1 : k = 1
  · exact Or.inl h1
  by_cases h2 : k = 2
  · exact Or.inr (Or.inl h2)
  by_cases h3 : k = 3
  · rw [if_neg h1, if_neg h2, if_pos h3] at h
    simp only [Bool.and_eq_true, beq_iff_eq] at h
    match ks, h with
    | [a, b], _ => exact Or.inr (Or.inr (Or.inl ⟨h3, a, b, rfl⟩))
    | [], h => simp at h
    | [a], h => simp at h
    | a :: b :: c :: r, h => have := h.2.2; simp at this; omega
  by_cases h4 : k = 4
  · rw [if_neg h1, if_neg h2, if_neg h3, if_pos h4] at h
    simp only [Bool.and_eq_true, beq_iff_eq] at h
    match ks, h with
    | [a], _ => exact Or.inr (Or.inr (Or.inr ⟨h4, a, rfl⟩))
    | [], h => simp at h
    | a :: b :: r, h => have := h.2.2; simp at this; omega
  rw [if_neg h1, if_neg h2, if_neg h3, if_neg h4] at h
  cases h
theorem evalT_1 (L : List (List UInt8)) (S : List Int) (n : Int) (s : List UInt8) (ks : List T) : evalT L S (.mk 1 n s ks) = (n, true) := by unfold evalT; rfl
theorem evalT_2 (L : List (List UInt8)) (S : List Int) (n : Int) (s : List UInt8) (ks : List T) : evalT L S (.mk 2 n s ks) = (readV L S s, true) := by unfold evalT; rfl
theorem evalT_4 (L : List (List UInt8)) (S : List Int) (n : Int) (s : List UInt8) (a : T) : evalT L S (.mk 4 n s [a]) = if (evalT L S a).2 = true then (bit ((evalT L S a).1 == 0), true) else (0, false) := by rw [evalT]; rfl
theorem evalT_3 (L : List (List UInt8)) (S : List Int) (n : Int) (s : List UInt8) (a b : T) : evalT L S (.mk 3 n s [a, b]) = if (evalT L S a).2 = true ∧ (evalT L S b).2 = true then (appV n (evalT L S a).1 (evalT L S b).1, appOk n (evalT L S b).1) else (0, false) := by rw [evalT]; rfl
theorem allT_1 {k n : Int} {s : List UInt8} {a : T} (h : allT (.mk k n s [a]) = true) : allT a = true := by
  rw [allT_mk] at h; simp at h; exact h.1
theorem allT_2 {k n : Int} {s : List UInt8} {a b : T} (h : allT (.mk k n s [a, b]) = true) : allT a = true ∧ allT b = true := by
  rw [allT_mk] at h; simp at h; exact h.1
/-- what EvalExpr answers -/
def evT (L : List (List UInt8)) (S : List Int) (t : T) : Int × Bool := if okT t = true then evalT L S t else (0, false)
end Go.Proofs.YtklcbagddijkgaaGreat.Tr
