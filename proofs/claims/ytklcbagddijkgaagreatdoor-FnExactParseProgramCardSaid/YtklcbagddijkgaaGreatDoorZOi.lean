/- Slices of integers of the call's own as the laws handle them: compared, marked, looked at again. -/
import Derived.Test.YtklcbagddijkgaaGreatDoorZCom
import Derived.Lib.QuietBelow
import Derived.Test.YtklcbagddijkgaaGreatDoorZC3a
set_option maxRecDepth 100000
namespace Go.Proofs.YtklcbagddijkgaaGreatDoor.Os
open Go.RowKit Go.Lib Go.Proofs.YtklcbagddijkgaaGreatDoor.Com Go.Proofs.YtklcbagddijkgaaGreatDoor.Mem Go.Proofs.YtklcbagddijkgaaGreatDoor.Ow

/-- an integer as a value -/
abbrev iv (x : Int) : Value := .int .i64 x
abbrev OwnI (lo hi : Nat) (w : World) (v : Value) (l : List Int) : Prop := Own 3 lo hi w v (l.map iv)
theorem OwnI.read_ {lo hi : Nat} {w : World} {v : Value} {l : List Int} (h : OwnI lo hi w v l) : ∃ A c, v = .slice A l.length c ∧ Rd w w.heap.size A (l.map iv) ∧ l.length ≤ c ∧ c ≤ maxLen ∧ (A = none → c = 0) ∧ ∀ ad, A = some ad → ad = ⟨ad.block, 0, none⟩ := by
  have := h.read
  rwa [List.length_map] at this


end Go.Proofs.YtklcbagddijkgaaGreatDoor.Os

/- Expressions as trees: their values, by the model. -/
set_option maxRecDepth 100000
namespace Go.Proofs.YtklcbagddijkgaaGreatDoor.Tr
open Go.RowKit Go.Lib Go.Sort Go.Proofs.YtklcbagddijkgaaGreatDoor.Com Go.Proofs.YtklcbagddijkgaaGreatDoor.Mem Go.Proofs.YtklcbagddijkgaaGreatDoor.Os Go.Proofs.YtklcbagddijkgaaGreatDoor.C2 Go.Proofs.YtklcbagddijkgaaGreatDoor.C3

theorem node_cases {k n : Int} {s : List UInt8} {ks : List T} (h : nodeB k n s ks.length = true) : k = 1 ∨ k = 2 ∨ (k = 3 ∧ ∃ a b, ks = [a, b]) ∨ (k = 4 ∧ ∃ a, ks = [a]) := by
  unfold nodeB at h
  by_cases h1 : k = 1
  · exact Or.inl h1
  by_cases h2 : k = 2
  · exact Or.inr (Or.inl h2)
  by_cases h3 : k = 3
  · rw [if_neg h1, if_neg h2, if_pos h3] at h
    simp only [Bool.and_eq_true, beq_iff_eq] at h
    match ks, h with
    | [a, b], _ => exact Or.inr (Or.inr (Or.inl ⟨h3, a, b, rfl⟩))
    | [], h => simp at h
    | [a], h => simp at h
    | a :: b :: c :: r, h => have := h.2.2; simp at this; omega
  by_cases h4 : k = 4
  · rw [if_neg h1, if_neg h2, if_neg h3, if_pos h4] at h
    simp only [Bool.and_eq_true, beq_iff_eq] at h
    match ks, h with
    | [a], _ => exact Or.inr (Or.inr (Or.inr ⟨h4, a, rfl⟩))
    | [], h => simp at h
    | a :: b :: r, h => have := h.2.2; simp at this; omega
  rw [if_neg h1, if_neg h2, if_neg h3, if_neg h4] at h
  cases h
theorem allT_1 {k n : Int} {s : List UInt8} {a : T} (h : allT (.mk k n s [a]) = true) : allT a = true := by
  rw [allT_mk] at h; simp at h; exact h.1
theorem allT_2 {k n : Int} {s : List UInt8} {a b : T} (h : allT (.mk k n s [a, b]) = true) : allT a = true ∧ allT b = true := by
  rw [allT_mk] at h; simp at h; exact h.1
end Go.Proofs.YtklcbagddijkgaaGreatDoor.Tr
