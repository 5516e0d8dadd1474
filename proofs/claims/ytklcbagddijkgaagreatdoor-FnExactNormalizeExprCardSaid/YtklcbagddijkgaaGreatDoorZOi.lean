/- Slices of integers of the call's own as the laws handle them: compared, marked, looked at again. -/
import Derived.Test.YtklcbagddijkgaaGreatDoorZCom
import Derived.Lib.QuietBelow
import Derived.Test.YtklcbagddijkgaaGreatDoorZTr5
import Derived.Test.YtklcbagddijkgaaGreatDoorZC3a
set_option maxRecDepth 100000
namespace Go.Proofs.YtklcbagddijkgaaGreatDoor.Os
open Go.RowKit Go.Lib Go.Proofs.YtklcbagddijkgaaGreatDoor.Com Go.Proofs.YtklcbagddijkgaaGreatDoor.Mem Go.Proofs.YtklcbagddijkgaaGreatDoor.Ow

/-- an integer as a value -/
abbrev iv (x : Int) : Value := .int .i64 x
theorem rd_int {w : World} {B : Nat} {A : Option Addr} {l : List Int} (h : Rd w B A (l.map iv)) {k : Nat} (hk : k < l.length) : ∃ ad, A = some ad ∧ ad.block < B ∧ w.cell? (ad.add k) = some (.int .i64 l[k]) := by
  obtain ⟨ad, e, hb, hc⟩ := h.at_ (k := k) (by simpa using hk)
  exact ⟨ad, e, hb, by rw [hc]; simp⟩

abbrev OwnI (lo hi : Nat) (w : World) (v : Value) (l : List Int) : Prop := Own 3 lo hi w v (l.map iv)
theorem OwnI.read_ {lo hi : Nat} {w : World} {v : Value} {l : List Int} (h : OwnI lo hi w v l) : ∃ A c, v = .slice A l.length c ∧ Rd w w.heap.size A (l.map iv) ∧ l.length ≤ c ∧ c ≤ maxLen ∧ (A = none → c = 0) ∧ ∀ ad, A = some ad → ad = ⟨ad.block, 0, none⟩ := by
  have := h.read
  rwa [List.length_map] at this


/-- n marks from k on -/
def marksI (k n : Nat) : List Int := (List.range n).map fun i : Nat => (k : Int) + (i : Int)
theorem marksI_length (k n : Nat) : (marksI k n).length = n := by simp [marksI]
theorem marksI_at (k n i : Nat) (h : i < n) : (marksI k n)[i]'(by rw [marksI_length]; exact h) = (k : Int) + (i : Int) := by simp [marksI]
theorem marksI_wf (k n : Nat) : ∀ x ∈ marksI k n, (k : Int) ≤ x ∧ x < (k : Int) + n := by
  intro x hx
  simp only [marksI, List.mem_map, List.mem_range] at hx
  obtain ⟨i, hi, rfl⟩ := hx
  omega
/-- the first i places hold marks, the others what they held -/
def halfI (k i : Nat) (xs : List Value) : List Value := (marksI k i).map iv ++ xs.drop i
theorem halfI_set (k i : Nat) (xs : List Value) (h : i < xs.length) : (halfI k i xs).set i (.int .i64 ((k : Int) + (i : Int))) = halfI k (i + 1) xs := by
  unfold halfI
  rw [List.set_append_right _ _ (by rw [List.length_map, marksI_length]; exact Nat.le_refl _), List.length_map, marksI_length, Nat.sub_self]
  have e : xs.drop i = xs[i] :: xs.drop (i + 1) := (List.getElem_cons_drop ..).symm
  rw [e, List.set_cons_zero]
  have e2 : marksI k (i + 1) = marksI k i ++ [(k : Int) + (i : Int)] := by simp [marksI, List.range_succ]
  rw [e2, List.map_append, List.append_assoc]; rfl
theorem halfI_at (k i : Nat) (xs : List Value) (h : i < xs.length) : (halfI k i xs)[i]? = some xs[i] := by
  unfold halfI
  rw [List.getElem?_append_right (by rw [List.length_map, marksI_length]; exact Nat.le_refl _), List.length_map, marksI_length, Nat.sub_self, List.getElem?_drop, Nat.add_zero, List.getElem?_eq_getElem h]

end Go.Proofs.YtklcbagddijkgaaGreatDoor.Os

/- Expressions as trees: their values, by the model. -/
set_option maxRecDepth 100000
namespace Go.Proofs.YtklcbagddijkgaaGreatDoor.Tr
open Go.RowKit Go.Lib Go.Sort Go.Proofs.YtklcbagddijkgaaGreatDoor.Com Go.Proofs.YtklcbagddijkgaaGreatDoor.Mem Go.Proofs.YtklcbagddijkgaaGreatDoor.Os Go.Proofs.YtklcbagddijkgaaGreatDoor.C2 Go.Proofs.YtklcbagddijkgaaGreatDoor.C3

/-- a variable's value -/
def readV (L : List (List UInt8)) (S : List Int) (s : List UInt8) : Int := if inB (ixOf L s) 0 ((S.length : Int) - 1) = true then S.getD (ixOf L s).toNat 0 % 4 else 0
/-- an expression's value, and whether there is one -/
def evalT (L : List (List UInt8)) (S : List Int) : T → Int × Bool
  | .mk k n s ks =>
    if k = 1 then (n, true) else if k = 2 then (readV L S s, true) else
      match ks with
      | [a] => if (evalT L S a).2 = true then (bit ((evalT L S a).1 == 0), true) else (0, false)
      | [a, b] => if (evalT L S a).2 = true ∧ (evalT L S b).2 = true then (appV n (evalT L S a).1 (evalT L S b).1, appOk n (evalT L S b).1) else (0, false)
      | _ => (0, false)
termination_by t => SizeOf.sizeOf t
theorem node_cases {k n : Int} {s : List UInt8} {ks : List T} (h : nodeB k n s ks.length = true) : k = 1 ∨ k = 2 ∨ (k = 3 ∧ ∃ a b, ks = [a, b]) ∨ (k = 4 ∧ ∃ a, ks = [a]) := by
  unfold nodeB at h
  by_cases h1 : k = 1
  · exact Or.inl h1
  by_cases h2 : k = 2
  · exact Or.inr (Or.inl h2)
  by_cases h3 : k = 3
  · rw [if_neg h1, if_neg h2, if_pos h3] at h
    simp only [Bool.and_eq_true, beq_iff_eq] at h
    match ks, h with
    | [a, b], _ => exact Or.inr (Or.inr (Or.inl ⟨h3, a, b, rfl⟩))
    | [], h => simp at h
    | [a], h => simp at h
    | a :: b :: c :: r, h => have := h.2.2; simp at this; omega
  by_cases h4 : k = 4
  · rw [if_neg h1, if_neg h2, if_neg h3, if_pos h4] at h
    simp only [Bool.and_eq_true, beq_iff_eq] at h
    match ks, h with
    | [a], _ => exact Or.inr (Or.inr (Or.inr ⟨h4, a, rfl⟩))
    | [], h => simp at h
    | a :: b :: r, h => have := h.2.2; simp at this; omega
  rw [if_neg h1, if_neg h2, if_neg h3, if_neg h4] at h
  cases h
theorem evalT_1 (L : List (List UInt8)) (S : List Int) (n : Int) (s : List UInt8) (ks : List T) : evalT L S (.mk 1 n s ks) = (n, true) := by unfold evalT; rfl
theorem evalT_2 (L : List (List UInt8)) (S : List Int) (n : Int) (s : List UInt8) (ks : List T) : evalT L S (.mk 2 n s ks) = (readV L S s, true) := by unfold evalT; rfl
theorem evalT_4 (L : List (List UInt8)) (S : List Int) (n : Int) (s : List UInt8) (a : T) : evalT L S (.mk 4 n s [a]) = if (evalT L S a).2 = true then (bit ((evalT L S a).1 == 0), true) else (0, false) := by rw [evalT]; rfl
theorem evalT_3 (L : List (List UInt8)) (S : List Int) (n : Int) (s : List UInt8) (a b : T) : evalT L S (.mk 3 n s [a, b]) = if (evalT L S a).2 = true ∧ (evalT L S b).2 = true then (appV n (evalT L S a).1 (evalT L S b).1, appOk n (evalT L S b).1) else (0, false) := by rw [evalT]; rfl
theorem allT_1 {k n : Int} {s : List UInt8} {a : T} (h : allT (.mk k n s [a]) = true) : allT a = true := by
  rw [allT_mk] at h; simp at h; exact h.1
theorem allT_2 {k n : Int} {s : List UInt8} {a b : T} (h : allT (.mk k n s [a, b]) = true) : allT a = true ∧ allT b = true := by
  rw [allT_mk] at h; simp at h; exact h.1
/-- what EvalExpr answers -/
def evT (L : List (List UInt8)) (S : List Int) (t : T) : Int × Bool := if okT t = true then evalT L S t else (0, false)
end Go.Proofs.YtklcbagddijkgaaGreatDoor.Tr
