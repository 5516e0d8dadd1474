/- Splitting a text at a byte: plain mathematics. -/
import Derived.Lib.SplitLaws
import Derived.Lib.IndexLaws
namespace Go.Proofs.YtdhpcaamhihlmaaDoor.Sp
open Go.Lib

/-- the parts of a text between the occurrences of c -/
def sp (c : UInt8) : List UInt8 → List (List UInt8)
  | [] => [[]]
  | x :: t => if x = c then [] :: sp c t else
    match sp c t with
    | [] => [[x]]
    | h :: r => (x :: h) :: r

theorem sp_ne (c : UInt8) (l : List UInt8) : sp c l ≠ [] := by
  cases l with
  | nil => simp [sp]
  | cons x t => simp only [sp]; split; simp; split <;> simp

theorem sp_free (c : UInt8) : ∀ a : List UInt8, c ∉ a → sp c a = [a]
  | [], _ => rfl
  | x :: t, h => by
    have h1 : x ≠ c := fun e => h (by rw [e]; exact List.mem_cons_self)
    have h2 := sp_free c t (fun e => h (List.mem_cons_of_mem _ e))
    simp [sp, h1, h2]
theorem sp_hit (c : UInt8) (b : List UInt8) : ∀ a : List UInt8, c ∉ a → sp c (a ++ c :: b) = a :: sp c b
  | [], _ => by simp [sp]
  | x :: t, h => by
    have h1 : x ≠ c := fun e => h (by rw [e]; exact List.mem_cons_self)
    have h2 := sp_hit c b t (fun e => h (List.mem_cons_of_mem _ e))
    simp [sp, h1, h2]
theorem sp_length (c : UInt8) : ∀ l : List UInt8, (sp c l).length = l.count c + 1
  | [] => rfl
  | x :: t => by
    have h := sp_length c t
    simp only [sp]
    by_cases hx : x = c
    · subst hx; simp [h]
    · rw [if_neg hx, List.count_cons_of_ne hx, ← h]
      split
      · rename_i e; exact absurd e (sp_ne c t)
      · rename_i e; rw [e]; rfl

/-- a text: free of c, or cut at its first c -/
theorem first_or (c : UInt8) : ∀ l : List UInt8, c ∉ l ∨ ∃ a b, l = a ++ c :: b ∧ c ∉ a
  | [] => Or.inl (by simp)
  | x :: t => by
    by_cases hx : x = c
    · exact Or.inr ⟨[], t, by rw [hx]; rfl, by simp⟩
    · rcases first_or c t with h | ⟨a, b, rfl, h⟩
      · exact Or.inl (by simp; exact ⟨fun e => hx e.symm, h⟩)
      · exact Or.inr ⟨x :: a, b, rfl, by simp; exact ⟨fun e => hx e.symm, h⟩⟩

theorem occ_one (l : List UInt8) (c : UInt8) (i : Nat) : occAt l [c] i = (l[i]? == some c) := by
  unfold occAt
  cases h : l.drop i with
  | nil => rw [List.drop_eq_nil_iff] at h; rw [List.getElem?_eq_none h]; rfl
  | cons x t =>
    have : l[i]? = some x := by rw [← List.head?_drop, h]; rfl
    rw [this]
    show (c == x && true) = (some x == some c)
    rw [Bool.and_true, Bool.eq_iff_iff, beq_iff_eq, beq_iff_eq]
    exact ⟨fun e => by rw [e], fun e => (Option.some.inj e).symm⟩
theorem index_free {l : List UInt8} {c : UInt8} (h : c ∉ l) : index l [c] = -1 := by
  refine index_past (i := l.length) (by simp) (fun j hj => ?_) (by simp)
  rw [occ_one, List.getElem?_eq_getElem hj]
  simp only [beq_eq_false_iff_ne, ne_eq, Option.some.injEq]
  intro e; exact h (e ▸ List.getElem_mem hj)
theorem index_cut {a b : List UInt8} {c : UInt8} (h : c ∉ a) : index (a ++ c :: b) [c] = a.length := by
  refine index_hit (fun j hj => ?_) (by simp) ?_
  · rw [occ_one, List.getElem?_append_left hj, List.getElem?_eq_getElem hj]
    simp only [beq_eq_false_iff_ne, ne_eq, Option.some.injEq]
    intro e; exact h (e ▸ List.getElem_mem hj)
  · rw [occ_one, List.getElem?_append_right (Nat.le_refl _)]; simp

theorem splitK_sp (c : UInt8) : ∀ (n : Nat) (l : List UInt8), l.length ≤ n → splitK [c] 0 (l.count c) l = sp c l
  | n, l, hn => by
    rcases first_or c l with h | ⟨a, b, rfl, h⟩
    · rw [sp_free c l h, List.count_eq_zero_of_not_mem h]; rfl
    · have hc : (a ++ c :: b).count c = b.count c + 1 := by
        rw [List.count_append, List.count_eq_zero_of_not_mem h, List.count_cons_self]; omega
      obtain ⟨m, rfl⟩ : ∃ m, n = m + 1 := ⟨n - 1, by simp at hn; omega⟩
      have ih := splitK_sp c m b (by simp at hn; omega)
      rw [hc, sp_hit c b a h]
      simp only [splitK, index_cut h]
      have hne : (((a.length : Nat) : Int) == -1) = false := by rw [beq_eq_false_iff_ne]; omega
      rw [hne]
      simp [ih]

/-- every part is free of c -/
theorem sp_parts (c : UInt8) : ∀ l : List UInt8, ∀ p ∈ sp c l, c ∉ p
  | [], p, h => by simp [sp] at h; subst h; simp
  | x :: t, p, h => by
    have ih := sp_parts c t
    simp only [sp] at h
    split at h
    · rcases List.mem_cons.1 h with rfl | h
      · simp
      · exact ih p h
    · rename_i hx
      split at h
      · rename_i e; exact absurd e (sp_ne c t)
      · rename_i q r e
        rcases List.mem_cons.1 h with rfl | h
        · intro hm
          rcases List.mem_cons.1 hm with h1 | h1
          · exact hx h1.symm
          · exact ih q (by rw [e]; exact List.mem_cons_self) h1
        · exact ih p (by rw [e]; exact List.mem_cons_of_mem _ h)
theorem sp_part_len (c : UInt8) : ∀ l : List UInt8, ∀ p ∈ sp c l, p.length ≤ l.length
  | [], p, h => by simp [sp] at h; subst h; simp
  | x :: t, p, h => by
    have ih := sp_part_len c t
    simp only [sp] at h
    split at h
    · rcases List.mem_cons.1 h with rfl | h
      · simp
      · have := ih p h; simp; omega
    · split at h
      · rename_i e; exact absurd e (sp_ne c t)
      · rename_i q r e
        rcases List.mem_cons.1 h with rfl | h
        · have := ih q (by rw [e]; exact List.mem_cons_self); simp; omega
        · have := ih p (by rw [e]; exact List.mem_cons_of_mem _ h); simp; omega
end Go.Proofs.YtdhpcaamhihlmaaDoor.Sp
