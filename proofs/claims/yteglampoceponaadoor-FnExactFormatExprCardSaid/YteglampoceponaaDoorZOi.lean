/- Slices of integers of the call's own as the laws handle them: compared, marked, looked at again. -/
import Derived.Test.YteglampoceponaaDoorZOz
import Derived.Lib.QuietBelow
set_option maxRecDepth 100000
namespace Go.Proofs.YteglampoceponaaDoor.Os
open Go.RowKit Go.Lib Go.Proofs.YteglampoceponaaDoor.Com Go.Proofs.YteglampoceponaaDoor.Mem Go.Proofs.YteglampoceponaaDoor.Ow

/-- an integer as a value -/
abbrev iv (x : Int) : Value := .int .i64 x
theorem rd_int {w : World} {B : Nat} {A : Option Addr} {l : List Int} (h : Rd w B A (l.map iv)) {k : Nat} (hk : k < l.length) : ∃ ad, A = some ad ∧ ad.block < B ∧ w.cell? (ad.add k) = some (.int .i64 l[k]) := by
  obtain ⟨ad, e, hb, hc⟩ := h.at_ (k := k) (by simpa using hk)
  exact ⟨ad, e, hb, by rw [hc]; simp⟩

abbrev OwnI (lo hi : Nat) (w : World) (v : Value) (l : List Int) : Prop := Own 3 lo hi w v (l.map iv)
theorem OwnI.read_ {lo hi : Nat} {w : World} {v : Value} {l : List Int} (h : OwnI lo hi w v l) : ∃ A c, v = .slice A l.length c ∧ Rd w w.heap.size A (l.map iv) ∧ l.length ≤ c ∧ c ≤ maxLen ∧ (A = none → c = 0) ∧ ∀ ad, A = some ad → ad = ⟨ad.block, 0, none⟩ := by
  have := h.read
  rwa [List.length_map] at this


/-- n marks from k on -/
def marksI (k n : Nat) : List Int := (List.range n).map fun i : Nat => (k : Int) + (i : Int)
theorem marksI_length (k n : Nat) : (marksI k n).length = n := by simp [marksI]
theorem marksI_at (k n i : Nat) (h : i < n) : (marksI k n)[i]'(by rw [marksI_length]; exact h) = (k : Int) + (i : Int) := by simp [marksI]
theorem marksI_wf (k n : Nat) : ∀ x ∈ marksI k n, (k : Int) ≤ x ∧ x < (k : Int) + n := by
  intro x hx
  simp only [marksI, List.mem_map, List.mem_range] at hx
  obtain ⟨i, hi, rfl⟩ := hx
  omega
/-- the first i places hold marks, the others what they held -/
def halfI (k i : Nat) (xs : List Value) : List Value := (marksI k i).map iv ++ xs.drop i
theorem halfI_set (k i : Nat) (xs : List Value) (h : i < xs.length) : (halfI k i xs).set i (.int .i64 ((k : Int) + (i : Int))) = halfI k (i + 1) xs := by
  unfold halfI
  rw [List.set_append_right _ _ (by rw [List.length_map, marksI_length]; exact Nat.le_refl _), List.length_map, marksI_length, Nat.sub_self]
  have e : xs.drop i = xs[i] :: xs.drop (i + 1) := (List.getElem_cons_drop ..).symm
  rw [e, List.set_cons_zero]
  have e2 : marksI k (i + 1) = marksI k i ++ [(k : Int) + (i : Int)] := by simp [marksI, List.range_succ]
  rw [e2, List.map_append, List.append_assoc]; rfl
theorem halfI_at (k i : Nat) (xs : List Value) (h : i < xs.length) : (halfI k i xs)[i]? = some xs[i] := by
  unfold halfI
  rw [List.getElem?_append_right (by rw [List.length_map, marksI_length]; exact Nat.le_refl _), List.length_map, marksI_length, Nat.sub_self, List.getElem?_drop, Nat.add_zero, List.getElem?_eq_getElem h]

end Go.Proofs.YteglampoceponaaDoor.Os
