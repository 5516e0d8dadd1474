/- What tokens a text can have. -/
import Derived.Test.YteenkdplpalofaaGreatDoorZLx
set_option maxRecDepth 100000
namespace Go.Proofs.YteenkdplpalofaaGreatDoor.Tk
open Go.RowKit Go.Lib Go.Proofs.YteenkdplpalofaaGreatDoor.Num Go.Proofs.YteenkdplpalofaaGreatDoor.Mem Go.Proofs.YteenkdplpalofaaGreatDoor.Ch

def NameS (s : List UInt8) : Prop := ∃ b r, s = b :: r ∧ isLow b = true ∧ (∀ x ∈ b :: r, isWd x = true) ∧ (b :: r).length ≤ 8
def SymS (s : List UInt8) : Prop := (∃ b, s = [b] ∧ b.toNat ∈ ones) ∨ ∃ b, s = [b, 61] ∧ (b.toNat = 61 ∨ b.toNat = 58)
/-- a token as a text can have it -/
def GoodT (t : Tok) : Prop := (t.k = 1 ∧ t.n = 0 ∧ NameS t.s) ∨ (t.k = 2 ∧ 0 ≤ t.n ∧ t.n < 4 ∧ t.s = []) ∨ (t.k = 3 ∧ t.n = 0 ∧ SymS t.s)
theorem low_wd {b : UInt8} (h : isLow b = true) : isWd b = true := by unfold isWd; rw [h]; rfl
theorem take_word (s : List UInt8) : s.take (wordLen s) = s.takeWhile isWd := (List.prefix_iff_eq_take.1 (List.takeWhile_prefix isWd)).symm
theorem mem_takeWhile {p : UInt8 → Bool} : ∀ {s : List UInt8} {x : UInt8}, x ∈ s.takeWhile p → p x = true
  | b :: r, x, h => by
    rw [List.takeWhile_cons] at h
    split at h
    · rename_i hb
      rcases List.mem_cons.1 h with rfl | h
      · exact hb
      · exact mem_takeWhile h
    · cases h
theorem tokV_p (b : UInt8) (r : List UInt8) (p : Int) : (tokV b r p).p = p := by
  unfold tokV
  split
  · rfl
  · split <;> rfl
theorem tokV_good {b : UInt8} {r : List UInt8} (p : Int) (h : tokL b r ≠ 0) : GoodT (tokV b r p) := by
  unfold tokL at h
  unfold tokV
  split at h
  · rename_i hb
    rw [if_pos hb]
    split at h
    · rename_i h8
      refine Or.inl ⟨rfl, rfl, ?_⟩
      show NameS ((b :: r).take (wordLen (b :: r)))
      rw [take_word, List.takeWhile_cons, if_pos (low_wd hb)]
      refine ⟨b, _, rfl, hb, fun x hx => ?_, ?_⟩
      · rcases List.mem_cons.1 hx with rfl | hx
        · exact low_wd hb
        · exact mem_takeWhile hx
      · unfold wordLen at h8
        rw [List.takeWhile_cons, if_pos (low_wd hb)] at h8
        exact h8
    · exact absurd rfl h
  · rename_i hb
    rw [if_neg hb]
    split at h
    · rename_i hd
      rw [if_pos hd]
      split at h
      · rename_i hn
        obtain ⟨d0, d1⟩ := isDig_bounds hd
        unfold numOk at hn
        rw [Bool.and_eq_true, decide_eq_true_eq] at hn
        exact Or.inr (Or.inl ⟨rfl, show (0 : Int) ≤ (b.toNat : Int) - 48 by omega, show (b.toNat : Int) - 48 < 4 by omega, rfl⟩)
      · exact absurd rfl h
    · rename_i hd
      rw [if_neg hd]
      refine Or.inr (Or.inr ⟨rfl, rfl, ?_⟩)
      show SymS ((b :: r).take (symL b r))
      unfold symL at h ⊢
      split at h
      · rename_i h1
        rw [if_pos h1]
        exact Or.inl ⟨b, rfl, h1⟩
      · rename_i h1
        rw [if_neg h1]
        split at h
        · rename_i h2
          rw [if_pos h2]
          cases r with
          | nil => simp at h2
          | cons c q =>
            have hc : c = 61 := UInt8.toNat_inj.1 (by have := h2.2; simpa using this)
            subst hc
            exact Or.inr ⟨b, rfl, h2.1⟩
        · exact absurd rfl h

theorem low_cls {b : UInt8} (h : isLow b = true) : isSep b = false := by
  simp only [isLow, Bool.and_eq_true, decide_eq_true_eq] at h
  simp [isSep]; omega
theorem dig_cls {b : UInt8} (h : isDig b = true) : isSep b = false ∧ isLow b = false := by
  obtain ⟨h1, h2⟩ := isDig_bounds h
  simp [isSep, isLow]; omega
theorem ones_cls {b : UInt8} (h : b.toNat ∈ ones) : isSep b = false ∧ isLow b = false ∧ isDig b = false := by
  simp only [ones, List.mem_cons, List.not_mem_nil, or_false] at h
  simp [isSep, isLow, isDig]; omega
theorem two_cls {b : UInt8} (h : b.toNat = 61 ∨ b.toNat = 58) : isSep b = false ∧ isLow b = false ∧ isDig b = false ∧ ¬ b.toNat ∈ ones := by
  refine ⟨?_, ?_, ?_, ?_⟩
  · simp [isSep]; omega
  · simp [isLow]; omega
  · simp [isDig]; omega
  · simp only [ones, List.mem_cons, List.not_mem_nil, or_false]; omega
/-- what may follow a token's text -/
def Stop (r : List UInt8) : Prop := r = [] ∨ ∃ q, r = 32 :: q
theorem Stop.word {r : List UInt8} (h : Stop r) : r.takeWhile isWd = [] := by
  rcases h with rfl | ⟨q, rfl⟩
  · rfl
  · rw [List.takeWhile_cons]; rfl
theorem Stop.dig {r : List UInt8} (h : Stop r) : r.head?.any isDig = false := by
  rcases h with rfl | ⟨q, rfl⟩
  · rfl
  · rfl
theorem Stop.sym {r : List UInt8} (h : Stop r) : ¬ (r.head?.map UInt8.toNat) = some 61 := by
  rcases h with rfl | ⟨q, rfl⟩
  · simp
  · simp
theorem tokz_good {S : List UInt8} (h : S.length ≤ 400) : ∀ t ∈ (tokz S).1, GoodT t ∧ 0 ≤ t.p ∧ t.p < (S.length : Int) := by
  rw [tokz_small h]
  exact (lex_inv (P := fun t => GoodT t ∧ 0 ≤ t.p ∧ t.p < (S.length : Int)) S.length S.length S 0 [] (Nat.le_refl _) (by omega) (by simp) (by simp) (fun b r a _ h2 h3 => ⟨tokV_good _ h2, by rw [tokV_p]; omega, by rw [tokV_p]; omega⟩)).2
theorem tokz_bad {S : List UInt8} (h : (tokz S).2 ≠ -1) : (tokz S).1 = [] ∧ 0 ≤ (tokz S).2 := by
  unfold tokz at *
  split at h
  · rename_i hb
    rw [if_pos hb]
    exact ⟨rfl, by decide⟩
  · rename_i hb
    rw [if_neg hb]
    rcases lex_end S.length S 0 [] (Nat.le_refl _) with h1 | ⟨h1, _, h3⟩
    · exact absurd h1 h
    · exact ⟨h3, by simpa using h1⟩
theorem good_len {t : Tok} (h : GoodT t) : t.s.length ≤ 8 := by
  rcases h with ⟨_, _, b, r, hs, _, _, h8⟩ | ⟨_, _, _, hs⟩ | ⟨_, _, ⟨b, hs, _⟩ | ⟨b, hs, _⟩⟩ <;> rw [hs]
  · exact h8
  · simp
  · simp
  · simp
theorem good_size : ∀ {l : List Tok}, (∀ t ∈ l, GoodT t) → ((l.map Tok.s).map List.length).sum ≤ l.length * 8
  | [], _ => by simp
  | t :: r, h => by
    have h1 := good_len (h t (by simp))
    have h2 := good_size (l := r) (fun x hx => h x (by simp [hx]))
    simp only [List.map_cons, List.sum_cons, List.length_cons]
    omega
end Go.Proofs.YteenkdplpalofaaGreatDoor.Tk
