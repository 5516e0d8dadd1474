/- The laws' own helpers on lists of strings. -/
import Derived.Test.YtklcbagddijkgaaGreatZCom
import Derived.Test.YtklcbagddijkgaaGreatZNum
import Derived.Lib.QuietBelow
set_option maxRecDepth 100000
namespace Go.Proofs.YtklcbagddijkgaaGreat.Lh
open Go.RowKit Go.Lib Go.Proofs.YtklcbagddijkgaaGreat.Com Go.Proofs.YtklcbagddijkgaaGreat.Mem

/-- how many strings and letters -/
def szL (l : List (List UInt8)) : Nat := l.length + (l.map List.length).sum
def szAns (tot : Nat) (left : Int) : Int := if (tot : Int) ≤ left then left - tot else -1

theorem sum_take {l : List (List UInt8)} {k : Nat} (hk : k < l.length) : ((l.take (k + 1)).map List.length).sum = ((l.take k).map List.length).sum + l[k].length := by
  rw [List.take_succ_eq_append_getElem hk, List.map_append, List.sum_append]; rfl
theorem sum_le (l : List (List UInt8)) (k : Nat) : ((l.take k).map List.length).sum ≤ (l.map List.length).sum := by
  conv => rhs; rw [← List.take_append_drop k l]
  rw [List.map_append, List.sum_append]; omega

/-- the cell of a list of strings -/
theorem rd_str {w : World} {B : Nat} {A : Option Addr} {l : List (List UInt8)} (h : Rd w B A (l.map sv)) {k : Nat} (hk : k < l.length) : ∃ ad, A = some ad ∧ ad.block < B ∧ w.cell? (ad.add k) = some (.string ⟨(l[k]).toArray⟩) := by
  obtain ⟨ad, e, hb, hc⟩ := h.at_ (k := k) (by simpa using hk)
  exact ⟨ad, e, hb, by rw [hc]; simp⟩

theorem rd_at {w : World} {B : Nat} {ad : Addr} {l : List (List UInt8)} (h : Rd w B (some ad) (l.map sv)) {k : Nat} (hk : k < l.length) : w.cell? (ad.add k) = some (.string ⟨(l[k]).toArray⟩) := by
  obtain ⟨ad', e, _, hc⟩ := rd_str h hk
  cases e; exact hc


theorem strInfo : (Tryz.prog.info? 9).map (fun i => (i.zero, i.size, i.bytes)) = some (some (sv []), 1, 16) := by kernel_rfl

end Go.Proofs.YtklcbagddijkgaaGreat.Lh

/- The laws' own marks on a list of strings: markText, markStringS, heldStringS. -/
set_option maxRecDepth 100000
namespace Go.Proofs.YtklcbagddijkgaaGreat.Lh
open Go.RowKit Go.Lib Go.Sort Go.Proofs.YtklcbagddijkgaaGreat.Com Go.Proofs.YtklcbagddijkgaaGreat.Mem Go.Proofs.YtklcbagddijkgaaGreat.Num

/-- the mark of k -/
def mk (k : Nat) : List UInt8 := 109 :: decDigits k

/-- n marks from k on -/
def marks (k n : Nat) : List Value := (List.range n).map fun i => sv (mk (k + i))
theorem marks_length (k n : Nat) : (marks k n).length = n := by simp [marks]
theorem marks_at (k n i : Nat) (h : i < n) : (marks k n)[i]'(by rw [marks_length]; exact h) = sv (mk (k + i)) := by simp [marks]

/-- the first i places hold marks, the others what they held -/
def half (k i : Nat) (xs : List Value) : List Value := marks k i ++ xs.drop i
theorem half_set (k i : Nat) (xs : List Value) (h : i < xs.length) : (half k i xs).set i (sv (mk (k + i))) = half k (i + 1) xs := by
  unfold half
  rw [List.set_append_right _ _ (by rw [marks_length]; exact Nat.le_refl _), marks_length, Nat.sub_self]
  have e : xs.drop i = xs[i] :: xs.drop (i + 1) := (List.getElem_cons_drop ..).symm
  rw [e, List.set_cons_zero]
  have e2 : marks k (i + 1) = marks k i ++ [sv (mk (k + i))] := by simp [marks, List.range_succ]
  rw [e2, List.append_assoc]; rfl
theorem half_at (k i : Nat) (xs : List Value) (h : i < xs.length) : (half k i xs)[i]? = some xs[i] := by
  unfold half
  rw [List.getElem?_append_right (by rw [marks_length]; exact Nat.le_refl _), marks_length, Nat.sub_self, List.getElem?_drop, Nat.add_zero, List.getElem?_eq_getElem h]
theorem half_all (k : Nat) (xs : List Value) : half k xs.length xs = marks k xs.length := by simp [half]

end Go.Proofs.YtklcbagddijkgaaGreat.Lh

/- Slices of strings of the call's own as the laws handle them: compared, marked, looked at again. -/
set_option maxRecDepth 100000
namespace Go.Proofs.YtklcbagddijkgaaGreat.Os
open Go.RowKit Go.Lib Go.Proofs.YtklcbagddijkgaaGreat.Com Go.Proofs.YtklcbagddijkgaaGreat.Mem Go.Proofs.YtklcbagddijkgaaGreat.Lh Go.Proofs.YtklcbagddijkgaaGreat.Ow

abbrev OwnS (lo hi : Nat) (w : World) (v : Value) (l : List (List UInt8)) : Prop := Own 9 lo hi w v (l.map sv)

theorem OwnS.read_ {lo hi : Nat} {w : World} {v : Value} {l : List (List UInt8)} (h : OwnS lo hi w v l) : ∃ A c, v = .slice A l.length c ∧ Rd w w.heap.size A (l.map sv) ∧ l.length ≤ c ∧ c ≤ maxLen ∧ (A = none → c = 0) ∧ ∀ ad, A = some ad → ad = ⟨ad.block, 0, none⟩ := by
  have := h.read
  rwa [List.length_map] at this


/-- the slice v is marked from k on, n places -/
def Marked (lo hi : Nat) (w : World) (v : Value) (k n : Nat) : Prop := Own 9 lo hi w v (marks k n)

end Go.Proofs.YtklcbagddijkgaaGreat.Os

/- Slices of integers of the call's own as the laws handle them: compared, marked, looked at again. -/
set_option maxRecDepth 100000
namespace Go.Proofs.YtklcbagddijkgaaGreat.Os
open Go.RowKit Go.Lib Go.Proofs.YtklcbagddijkgaaGreat.Com Go.Proofs.YtklcbagddijkgaaGreat.Mem Go.Proofs.YtklcbagddijkgaaGreat.Ow

/-- an integer as a value -/
abbrev iv (x : Int) : Value := .int .i64 x
theorem rd_int {w : World} {B : Nat} {A : Option Addr} {l : List Int} (h : Rd w B A (l.map iv)) {k : Nat} (hk : k < l.length) : ∃ ad, A = some ad ∧ ad.block < B ∧ w.cell? (ad.add k) = some (.int .i64 l[k]) := by
  obtain ⟨ad, e, hb, hc⟩ := h.at_ (k := k) (by simpa using hk)
  exact ⟨ad, e, hb, by rw [hc]; simp⟩

abbrev OwnI (lo hi : Nat) (w : World) (v : Value) (l : List Int) : Prop := Own 3 lo hi w v (l.map iv)
theorem OwnI.read_ {lo hi : Nat} {w : World} {v : Value} {l : List Int} (h : OwnI lo hi w v l) : ∃ A c, v = .slice A l.length c ∧ Rd w w.heap.size A (l.map iv) ∧ l.length ≤ c ∧ c ≤ maxLen ∧ (A = none → c = 0) ∧ ∀ ad, A = some ad → ad = ⟨ad.block, 0, none⟩ := by
  have := h.read
  rwa [List.length_map] at this


/-- n marks from k on -/
def marksI (k n : Nat) : List Int := (List.range n).map fun i : Nat => (k : Int) + (i : Int)
theorem marksI_length (k n : Nat) : (marksI k n).length = n := by simp [marksI]
theorem marksI_at (k n i : Nat) (h : i < n) : (marksI k n)[i]'(by rw [marksI_length]; exact h) = (k : Int) + (i : Int) := by simp [marksI]
theorem marksI_wf (k n : Nat) : ∀ x ∈ marksI k n, (k : Int) ≤ x ∧ x < (k : Int) + n := by
  intro x hx
  simp only [marksI, List.mem_map, List.mem_range] at hx
  obtain ⟨i, hi, rfl⟩ := hx
  omega
/-- the first i places hold marks, the others what they held -/
def halfI (k i : Nat) (xs : List Value) : List Value := (marksI k i).map iv ++ xs.drop i
theorem halfI_set (k i : Nat) (xs : List Value) (h : i < xs.length) : (halfI k i xs).set i (.int .i64 ((k : Int) + (i : Int))) = halfI k (i + 1) xs := by
  unfold halfI
  rw [List.set_append_right _ _ (by rw [List.length_map, marksI_length]; exact Nat.le_refl _), List.length_map, marksI_length, Nat.sub_self]
  have e : xs.drop i = xs[i] :: xs.drop (i + 1) := (List.getElem_cons_drop ..).symm
  rw [e, List.set_cons_zero]
  have e2 : marksI k (i + 1) = marksI k i ++ [(k : Int) + (i : Int)] := by simp [marksI, List.range_succ]
  rw [e2, List.map_append, List.append_assoc]; rfl
theorem halfI_at (k i : Nat) (xs : List Value) (h : i < xs.length) : (halfI k i xs)[i]? = some xs[i] := by
  unfold halfI
  rw [List.getElem?_append_right (by rw [List.length_map, marksI_length]; exact Nat.le_refl _), List.length_map, marksI_length, Nat.sub_self, List.getElem?_drop, Nat.add_zero, List.getElem?_eq_getElem h]

end Go.Proofs.YtklcbagddijkgaaGreat.Os
