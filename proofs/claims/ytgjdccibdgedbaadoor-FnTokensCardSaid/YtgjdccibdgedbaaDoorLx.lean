/- The tokens of a text, said by recursion. -/
import Derived.Test.YtgjdccibdgedbaaDoorTk
import Derived.Test.YtgjdccibdgedbaaDoorCh
set_option maxRecDepth 100000
namespace Go.Proofs.YtgjdccibdgedbaaDoor.Tk
open Go.RowKit Go.Lib Go.Proofs.YtgjdccibdgedbaaDoor.Num Go.Proofs.YtgjdccibdgedbaaDoor.Mem Go.Proofs.YtgjdccibdgedbaaDoor.Ch

def isSep (b : UInt8) : Bool := decide (b.toNat = 32) || decide (b.toNat = 10)
def isWd (b : UInt8) : Bool := isLow b || isDig b
def wordLen (s : List UInt8) : Nat := (s.takeWhile isWd).length
def ones : List Nat := [40, 41, 123, 125, 59, 43, 45, 42, 47, 60, 38, 124, 33]
/-- the length of the symbol that opens with b, r behind it -/
def symL (b : UInt8) (r : List UInt8) : Nat := if b.toNat ∈ ones then 1 else if (b.toNat = 61 ∨ b.toNat = 58) ∧ (r.head?.map UInt8.toNat) = some 61 then 2 else 0
def numOk (b : UInt8) (r : List UInt8) : Bool := decide (b.toNat < 52) && !(r.head?.any isDig)
/-- the length of the token that opens with b; 0 where there is none -/
def tokL (b : UInt8) (r : List UInt8) : Nat := if isLow b = true then (if wordLen (b :: r) ≤ 8 then wordLen (b :: r) else 0) else if isDig b = true then (if numOk b r = true then 1 else 0) else symL b r
def tokV (b : UInt8) (r : List UInt8) (p : Int) : Tok := if isLow b = true then ⟨1, 0, p, (b :: r).take (wordLen (b :: r))⟩ else if isDig b = true then ⟨2, (b.toNat : Int) - 48, p, []⟩ else ⟨3, 0, p, (b :: r).take (symL b r)⟩
def lex (s : List UInt8) (a : Nat) (out : List Tok) : List Tok × Int :=
  match s with
  | [] => (out, -1)
  | b :: r => if isSep b = true then lex r (a + 1) out else if _h : tokL b r = 0 ∨ out.length = 150 then ([], (a : Int)) else lex ((b :: r).drop (tokL b r)) (a + tokL b r) (out ++ [tokV b r a])
termination_by s.length
decreasing_by
  · simp
  · simp only [List.length_drop, List.length_cons]; omega
def tokz (S : List UInt8) : List Tok × Int := if 400 < S.length then ([], 400) else lex S 0 []

theorem lex_nil (a : Nat) (out : List Tok) : lex [] a out = (out, -1) := by rw [lex]
theorem lex_sep {b : UInt8} {r : List UInt8} {a : Nat} {out : List Tok} (h : isSep b = true) : lex (b :: r) a out = lex r (a + 1) out := by rw [lex, if_pos h]
theorem lex_bad {b : UInt8} {r : List UInt8} {a : Nat} {out : List Tok} (h : isSep b = false) (h2 : tokL b r = 0 ∨ out.length = 150) : lex (b :: r) a out = (([], (a : Int)) : List Tok × Int) := by rw [lex, if_neg (by simp [h]), dif_pos h2]
theorem lex_tok {b : UInt8} {r : List UInt8} {a : Nat} {out : List Tok} (h : isSep b = false) (h2 : tokL b r ≠ 0) (h3 : out.length ≠ 150) : lex (b :: r) a out = lex ((b :: r).drop (tokL b r)) (a + tokL b r) (out ++ [tokV b r a]) := by
  rw [lex, if_neg (by simp [h]), dif_neg (by omega)]
theorem drop_at {S : List UInt8} {a : Nat} (h : a < S.length) : S.drop a = S[a] :: S.drop (a + 1) := (List.getElem_cons_drop ..).symm
theorem wordLen_le (s : List UInt8) : wordLen s ≤ s.length := (List.takeWhile_sublist _).length_le
theorem symL_le (b : UInt8) (r : List UInt8) : symL b r ≤ r.length + 1 := by
  unfold symL
  split
  · omega
  · split
    · rename_i h
      cases r with
      | nil => simp at h
      | cons => simp
    · omega
theorem tokL_le (b : UInt8) (r : List UInt8) : tokL b r ≤ r.length + 1 := by
  have h1 := wordLen_le (b :: r)
  have h2 := symL_le b r
  simp only [List.length_cons] at h1
  unfold tokL
  split
  · split <;> omega
  · split
    · split <;> omega
    · exact h2

/-- what holds of what has been laid stays so -/
theorem lex_inv {P : Tok → Prop} (N : Nat) : ∀ (n : Nat) (s : List UInt8) (a : Nat) (out : List Tok), s.length ≤ n → a + s.length = N → out.length ≤ 150 → (∀ t ∈ out, P t) →
    (∀ b r (a : Nat), isSep b = false → tokL b r ≠ 0 → a < N → P (tokV b r a)) → (lex s a out).1.length ≤ 150 ∧ ∀ t ∈ (lex s a out).1, P t := by
  intro n
  induction n with
  | zero =>
    intro s a out hs _ hl hP _
    have := List.eq_nil_of_length_eq_zero (Nat.le_zero.1 hs); subst this
    rw [lex_nil]; exact ⟨hl, hP⟩
  | succ n ih =>
    intro s a out hs hN hl hP hst
    cases s with
    | nil => rw [lex_nil]; exact ⟨hl, hP⟩
    | cons b r =>
      simp only [List.length_cons] at hs hN
      cases hb : isSep b with
      | true => rw [lex_sep hb]; exact ih _ _ _ (by omega) (by omega) hl hP hst
      | false =>
        by_cases h2 : tokL b r = 0 ∨ out.length = 150
        · rw [lex_bad hb h2]; exact ⟨by simp, by simp⟩
        · have hle := tokL_le b r
          rw [lex_tok hb (by omega) (by omega)]
          refine ih _ _ _ (by simp only [List.length_drop, List.length_cons]; omega) (by simp only [List.length_drop, List.length_cons]; omega) (by simp; omega) (fun t ht => ?_) hst
          rcases List.mem_append.1 ht with ht | ht
          · exact hP t ht
          · rw [List.mem_singleton] at ht; subst ht
            exact hst b r a hb (by omega) (by omega)
theorem lex_end : ∀ (n : Nat) (s : List UInt8) (a : Nat) (out : List Tok), s.length ≤ n → ((lex s a out).2 = -1 ∨ ((a : Int) ≤ (lex s a out).2 ∧ (lex s a out).2 < (a + s.length : Nat) ∧ (lex s a out).1 = [])) := by
  intro n
  induction n with
  | zero =>
    intro s a out hs
    have := List.eq_nil_of_length_eq_zero (Nat.le_zero.1 hs); subst this
    rw [lex_nil]; exact Or.inl rfl
  | succ n ih =>
    intro s a out hs
    cases s with
    | nil => rw [lex_nil]; exact Or.inl rfl
    | cons b r =>
      simp only [List.length_cons] at hs
      cases hb : isSep b with
      | true =>
        rw [lex_sep hb]
        rcases ih r (a + 1) out (by omega) with h | ⟨h1, h2, h3⟩
        · exact Or.inl h
        · exact Or.inr ⟨by omega, by simp only [List.length_cons]; omega, h3⟩
      | false =>
        by_cases h2 : tokL b r = 0 ∨ out.length = 150
        · rw [lex_bad hb h2]; exact Or.inr ⟨by simp, by simp only [List.length_cons]; omega, rfl⟩
        · have hle := tokL_le b r
          rw [lex_tok hb (by omega) (by omega)]
          rcases ih ((b :: r).drop (tokL b r)) (a + tokL b r) (out ++ [tokV b r a]) (by simp only [List.length_drop, List.length_cons]; omega) with h | ⟨h1, h3, h4⟩
          · exact Or.inl h
          · simp only [List.length_drop, List.length_cons] at h3
            exact Or.inr ⟨by omega, by simp only [List.length_cons]; omega, h4⟩
theorem tokz_len (S : List UInt8) : (tokz S).1.length ≤ 150 := by
  unfold tokz
  split
  · simp
  · exact (lex_inv (P := fun _ => True) S.length S.length S 0 [] (Nat.le_refl _) (by omega) (by simp) (by simp) (fun _ _ _ _ _ _ => trivial)).1
end Go.Proofs.YtgjdccibdgedbaaDoor.Tk
