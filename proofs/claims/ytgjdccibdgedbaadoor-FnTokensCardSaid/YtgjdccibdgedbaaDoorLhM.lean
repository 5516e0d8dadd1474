/- The laws' own marks on a list of strings: markText, markStringS, heldStringS. -/
import Derived.Test.YtgjdccibdgedbaaDoorLhS
import Derived.Test.YtgjdccibdgedbaaDoorNum
import Derived.Lib.QuietBelow
set_option maxRecDepth 100000
namespace Go.Proofs.YtgjdccibdgedbaaDoor.Lh
open Go.RowKit Go.Lib Go.Sort Go.Proofs.YtgjdccibdgedbaaDoor.Com Go.Proofs.YtgjdccibdgedbaaDoor.Mem Go.Proofs.YtgjdccibdgedbaaDoor.Num

/-- the mark of k -/
def mk (k : Nat) : List UInt8 := 109 :: decDigits k

/-- n marks from k on -/
def marks (k n : Nat) : List Value := (List.range n).map fun i => sv (mk (k + i))
theorem marks_length (k n : Nat) : (marks k n).length = n := by simp [marks]
theorem marks_at (k n i : Nat) (h : i < n) : (marks k n)[i]'(by rw [marks_length]; exact h) = sv (mk (k + i)) := by simp [marks]

/-- the first i places hold marks, the others what they held -/
def half (k i : Nat) (xs : List Value) : List Value := marks k i ++ xs.drop i
theorem half_set (k i : Nat) (xs : List Value) (h : i < xs.length) : (half k i xs).set i (sv (mk (k + i))) = half k (i + 1) xs := by
  unfold half
  rw [List.set_append_right _ _ (by rw [marks_length]; exact Nat.le_refl _), marks_length, Nat.sub_self]
  have e : xs.drop i = xs[i] :: xs.drop (i + 1) := (List.getElem_cons_drop ..).symm
  rw [e, List.set_cons_zero]
  have e2 : marks k (i + 1) = marks k i ++ [sv (mk (k + i))] := by simp [marks, List.range_succ]
  rw [e2, List.append_assoc]; rfl
theorem half_at (k i : Nat) (xs : List Value) (h : i < xs.length) : (half k i xs)[i]? = some xs[i] := by
  unfold half
  rw [List.getElem?_append_right (by rw [marks_length]; exact Nat.le_refl _), marks_length, Nat.sub_self, List.getElem?_drop, Nat.add_zero, List.getElem?_eq_getElem h]
theorem half_all (k : Nat) (xs : List Value) : half k xs.length xs = marks k xs.length := by simp [half]

end Go.Proofs.YtgjdccibdgedbaaDoor.Lh
