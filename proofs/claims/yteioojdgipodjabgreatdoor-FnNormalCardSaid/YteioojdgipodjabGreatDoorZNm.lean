/- Lists of names in ascending order: plain mathematics. -/
import Derived.Lib.SlicesCompact
import Derived.Sort.Walk0
import Derived.Test.YteioojdgipodjabGreatDoorZMp
set_option maxRecDepth 100000
namespace Go.Proofs.YteioojdgipodjabGreatDoor.Nm

abbrev Str := List UInt8
def Asc (l : List Str) : Prop := l.Pairwise (· < ·)

theorem lt_of_le_ne {a b : Str} (h : a ≤ b) (h2 : a ≠ b) : a < b :=
  Classical.byContradiction fun h3 => h2 (List.le_antisymm h h3)

theorem asc_ext : ∀ {l m : List Str}, Asc l → Asc m → (∀ x, x ∈ l ↔ x ∈ m) → l = m
  | [], [], _, _, _ => rfl
  | [], y :: m, _, _, h => absurd ((h y).2 (by simp)) (by simp)
  | x :: l, [], _, _, h => absurd ((h x).1 (by simp)) (by simp)
  | x :: l, y :: m, hl, hm, h => by
    obtain ⟨hx, hl'⟩ := List.pairwise_cons.1 hl
    obtain ⟨hy, hm'⟩ := List.pairwise_cons.1 hm
    have e : x = y := by
      rcases List.mem_cons.1 ((h x).1 (by simp)) with e | h1
      · exact e
      rcases List.mem_cons.1 ((h y).2 (by simp)) with e | h2
      · exact e.symm
      exact absurd (List.lt_trans (hy x h1) (hx y h2)) (List.lt_irrefl y)
    subst e
    congr 1
    refine asc_ext hl' hm' fun z => ⟨fun hz => ?_, fun hz => ?_⟩
    · rcases List.mem_cons.1 ((h z).1 (List.mem_cons_of_mem _ hz)) with e | h1
      · subst e; exact absurd (hx z hz) (List.lt_irrefl z)
      · exact h1
    · rcases List.mem_cons.1 ((h z).2 (List.mem_cons_of_mem _ hz)) with e | h1
      · subst e; exact absurd (hy z hz) (List.lt_irrefl z)
      · exact h1

/-- x put in its place -/
def ins (x : Str) : List Str → List Str
  | [] => [x]
  | y :: r => if y < x then y :: ins x r else if y = x then y :: r else x :: y :: r
def sortU (L : List Str) : List Str := L.foldl (fun o x => ins x o) []

theorem mem_ins {x z : Str} {l : List Str} : z ∈ ins x l ↔ z = x ∨ z ∈ l := by
  induction l with
  | nil => simp [ins]
  | cons y r ih =>
    unfold ins
    split
    · simp only [List.mem_cons, ih]
      constructor
      · rintro (h | h | h)
        · exact Or.inr (Or.inl h)
        · exact Or.inl h
        · exact Or.inr (Or.inr h)
      · rintro (h | h | h)
        · exact Or.inr (Or.inl h)
        · exact Or.inl h
        · exact Or.inr (Or.inr h)
    · split
      · rename_i e; subst e; simp
      · simp
theorem asc_ins {x : Str} {l : List Str} (h : Asc l) : Asc (ins x l) := by
  induction l with
  | nil => simp [ins, Asc]
  | cons y r ih =>
    obtain ⟨hy, hr⟩ := List.pairwise_cons.1 h
    unfold ins
    split
    · rename_i hlt
      exact List.pairwise_cons.2 ⟨fun z hz => by rcases mem_ins.1 hz with rfl | hz; exact hlt; exact hy z hz, ih hr⟩
    · rename_i hge
      split
      · exact h
      · rename_i hne
        have hxy : x < y := lt_of_le_ne hge (fun e => hne e.symm)
        exact List.pairwise_cons.2 ⟨fun z hz => by rcases List.mem_cons.1 hz with rfl | hz; exact hxy; exact List.lt_trans hxy (hy z hz), h⟩
theorem ins_at {x : Str} : ∀ {l : List Str} {k : Nat} (hk : k ≤ l.length), (∀ j (h : j < k), l[j] < x) → (∀ h : k < l.length, ¬ l[k] < x ∧ l[k] ≠ x) → ins x l = l.take k ++ x :: l.drop k
  | [], k, hk, _, _ => by simp at hk; subst hk; rfl
  | y :: r, 0, _, _, h2 => by
    have := h2 (by simp)
    simp only [List.getElem_cons_zero] at this
    unfold ins
    rw [if_neg this.1, if_neg this.2]; rfl
  | y :: r, k + 1, hk, h1, h2 => by
    have h0 := h1 0 (by omega)
    simp only [List.getElem_cons_zero] at h0
    unfold ins
    rw [if_pos h0, ins_at (l := r) (k := k) (by simpa using hk) (fun j hj => by have := h1 (j + 1) (by omega); simpa using this) (fun h => by have := h2 (by simpa using h); simpa using this)]
    rfl
theorem ins_same {x : Str} : ∀ {l : List Str} {k : Nat} (hk : k < l.length), (∀ j (h : j < k), l[j] < x) → l[k] = x → ins x l = l
  | [], k, hk, _, _ => by simp at hk
  | y :: r, 0, _, _, h2 => by
    simp only [List.getElem_cons_zero] at h2
    subst h2
    unfold ins
    rw [if_neg (List.lt_irrefl y), if_pos rfl]
  | y :: r, k + 1, hk, h1, h2 => by
    have h0 := h1 0 (by omega)
    simp only [List.getElem_cons_zero] at h0
    unfold ins
    rw [if_pos h0, ins_same (l := r) (k := k) (by simpa using hk) (fun j hj => by have := h1 (j + 1) (by omega); simpa using this) (by simpa using h2)]

theorem fold_ins (L : List Str) : ∀ o, Asc o → Asc (L.foldl (fun o x => ins x o) o) ∧ ∀ z, z ∈ L.foldl (fun o x => ins x o) o ↔ z ∈ L ∨ z ∈ o := by
  induction L with
  | nil => intro o h; exact ⟨h, fun z => by simp⟩
  | cons x r ih =>
    intro o h
    obtain ⟨h1, h2⟩ := ih (ins x o) (asc_ins h)
    refine ⟨h1, fun z => (h2 z).trans ?_⟩
    rw [mem_ins, List.mem_cons]
    constructor
    · rintro (h | h | h)
      · exact Or.inl (Or.inr h)
      · exact Or.inl (Or.inl h)
      · exact Or.inr h
    · rintro ((h | h) | h)
      · exact Or.inr (Or.inl h)
      · exact Or.inl h
      · exact Or.inr (Or.inr h)
theorem sortU_asc (L : List Str) : Asc (sortU L) := (fold_ins L [] List.Pairwise.nil).1
theorem mem_sortU {L : List Str} {z : Str} : z ∈ sortU L ↔ z ∈ L := by
  have := (fold_ins L [] List.Pairwise.nil).2 z
  simpa [sortU] using this
theorem sortU_snoc {L : List Str} {k : Nat} (hk : k < L.length) : sortU (L.take (k + 1)) = ins L[k] (sortU (L.take k)) := by
  unfold sortU
  rw [List.take_succ_eq_append_getElem hk, List.foldl_append]; rfl
theorem sortU_self {L : List Str} (h : Asc L) : sortU L = L := asc_ext (sortU_asc L) h fun _ => mem_sortU
theorem asc_nodup {L : List Str} (h : Asc L) : L.Nodup := h.imp fun {a b} (hab : a < b) e => by subst e; exact List.lt_irrefl _ hab
theorem ins_len (x : Str) (l : List Str) : (ins x l).length ≤ l.length + 1 := by
  induction l with
  | nil => simp [ins]
  | cons y r ih => unfold ins; split; simp; exact ih; split <;> simp
theorem sortU_len (L : List Str) : (sortU L).length ≤ L.length := by
  have : ∀ (L o : List Str), (L.foldl (fun o x => ins x o) o).length ≤ o.length + L.length := by
    intro L
    induction L with
    | nil => intro o; simp
    | cons x r ih => intro o; have := ih (ins x o); have := ins_len x o; simp only [List.foldl_cons, List.length_cons]; omega
  have := this L []
  simpa [sortU] using this

/-! the program's way: sort, then leave out what stands beside its like -/
open Go.Lib Go.Sort in
theorem compact_inv (S : List Str) (hs : S.Pairwise (· ≤ ·)) : ∀ m, m ≤ S.length → Asc (compactUpTo S.toArray m) ∧ ∀ z, z ∈ compactUpTo S.toArray m ↔ z ∈ S.take m := by
  intro m
  induction m with
  | zero => intro _; simp [compactUpTo, Asc]
  | succ m ih =>
    intro hm
    obtain ⟨h1, h2⟩ := ih (by omega)
    have hlt : m < S.length := by omega
    have hget : S.toArray[m]! = S[m] := by simp [hlt]
    rw [compactUpTo_succ, hget]
    have htk : ∀ z, z ∈ S.take (m + 1) ↔ z ∈ S.take m ∨ z = S[m] := fun z => by rw [List.take_succ_eq_append_getElem hlt, List.mem_append, List.mem_singleton]
    have hle : ∀ y ∈ S.take m, y ≤ S[m] := fun y hy => by
      obtain ⟨j, hj, rfl⟩ := List.mem_iff_getElem.1 hy
      rw [List.getElem_take]
      have hjm : j < m := by rw [List.length_take] at hj; omega
      exact List.pairwise_iff_getElem.1 hs j m (by omega) hlt hjm
    cases hk : keeps S.toArray m with
    | true =>
      refine ⟨?_, fun z => by rw [if_pos rfl, List.mem_append, List.mem_singleton, htk, h2]⟩
      rw [if_pos rfl]
      refine List.pairwise_append.2 ⟨h1, List.pairwise_singleton _ _, fun a ha b hb => ?_⟩
      rw [List.mem_singleton] at hb
      subst hb
      have ha' := (h2 a).1 ha
      refine lt_of_le_ne (hle a ha') fun e => ?_
      subst e
      unfold keeps at hk
      simp only [decide_eq_true_eq] at hk
      rcases hk with rfl | hk
      · simp at ha'
      · have hm0 : 0 < m := by
          rcases Nat.eq_zero_or_pos m with h0 | h0
          · subst h0; simp at ha'
          · exact h0
        have hp : m - 1 < S.length := by omega
        have e1 : S.toArray[m - 1]! = S[m - 1] := by simp [hp]
        rw [hget, e1] at hk
        obtain ⟨j, hj, hje⟩ := List.mem_iff_getElem.1 ha'
        rw [List.getElem_take] at hje
        have hjm : j < m := by rw [List.length_take] at hj; omega
        have hle1 : S[m - 1] ≤ S[m] := List.pairwise_iff_getElem.1 hs (m - 1) m hp hlt (by omega)
        have hle2 : S[m] ≤ S[m - 1] := by
          by_cases hjm1 : j = m - 1
          · subst hjm1; rw [hje]; exact List.le_refl _
          · rw [← hje]; exact List.pairwise_iff_getElem.1 hs j (m - 1) (by omega) hp (by omega)
        exact hk (List.le_antisymm hle2 hle1)
    | false =>
      rw [if_neg (by simp), List.append_nil]
      refine ⟨h1, fun z => by
        rw [h2, htk]
        refine ⟨Or.inl, fun h => ?_⟩
        rcases h with h | rfl
        · exact h
        unfold keeps at hk
        simp only [decide_eq_false_iff_not, not_or, Decidable.not_not] at hk
        obtain ⟨hm0, he⟩ := hk
        have hp : m - 1 < S.length := by omega
        have e1 : S.toArray[m - 1]! = S[m - 1] := by simp [hp]
        rw [hget, e1] at he
        rw [he]
        exact List.mem_iff_getElem.2 ⟨m - 1, by rw [List.length_take]; omega, by rw [List.getElem_take]⟩⟩

open Go.Lib in
theorem compact_sort (L : List Str) : compact (L.mergeSort fun x y => decide (x ≤ y)) = sortU L := by
  have hs : (L.mergeSort fun x y => decide (x ≤ y)).Pairwise (· ≤ ·) := by
    have := List.pairwise_mergeSort (le := fun x y : Str => decide (x ≤ y)) (by intro a b c h1 h2; simp at *; exact List.le_trans h1 h2) (by intro a b; simp; exact List.le_total a b) L
    simpa using this
  obtain ⟨h1, h2⟩ := compact_inv _ hs _ (Nat.le_refl _)
  refine asc_ext h1 (sortU_asc L) fun z => ?_
  have := h2 z
  rw [List.take_of_length_le (Nat.le_refl _)] at this
  exact this.trans ((List.mergeSort_perm L _).mem_iff.trans mem_sortU.symm)
end Go.Proofs.YteioojdgipodjabGreatDoor.Nm

/- Chapter 2: SortNames and Without, of the model. -/
set_option maxRecDepth 100000
namespace Go.Proofs.YteioojdgipodjabGreatDoor.C2
open Go.RowKit Go.Lib Go.Proofs.YteioojdgipodjabGreatDoor.Com Go.Proofs.YteioojdgipodjabGreatDoor.Mem Go.Proofs.YteioojdgipodjabGreatDoor.Mp Go.Proofs.YteioojdgipodjabGreatDoor.Ow Go.Proofs.YteioojdgipodjabGreatDoor.Nm


end Go.Proofs.YteioojdgipodjabGreatDoor.C2
