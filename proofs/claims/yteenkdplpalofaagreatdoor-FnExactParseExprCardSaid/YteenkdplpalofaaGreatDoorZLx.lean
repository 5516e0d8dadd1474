/- The tokens of a text, said by recursion. -/
import Derived.Test.YteenkdplpalofaaGreatDoorZTk
import Derived.Test.YteenkdplpalofaaGreatDoorZCh
import Derived.Laws.ResultCell
import Derived.Laws.Rows
set_option maxRecDepth 100000
namespace Go.Proofs.YteenkdplpalofaaGreatDoor.Tk
open Go.RowKit Go.Lib Go.Proofs.YteenkdplpalofaaGreatDoor.Num Go.Proofs.YteenkdplpalofaaGreatDoor.Mem Go.Proofs.YteenkdplpalofaaGreatDoor.Ch

def isSep (b : UInt8) : Bool := decide (b.toNat = 32) || decide (b.toNat = 10)
def isWd (b : UInt8) : Bool := isLow b || isDig b
def wordLen (s : List UInt8) : Nat := (s.takeWhile isWd).length
def ones : List Nat := [40, 41, 123, 125, 59, 43, 45, 42, 47, 60, 38, 124, 33]
/-- the length of the symbol that opens with b, r behind it -/
def symL (b : UInt8) (r : List UInt8) : Nat := if b.toNat ∈ ones then 1 else if (b.toNat = 61 ∨ b.toNat = 58) ∧ (r.head?.map UInt8.toNat) = some 61 then 2 else 0
def numOk (b : UInt8) (r : List UInt8) : Bool := decide (b.toNat < 52) && !(r.head?.any isDig)
/-- the length of the token that opens with b; 0 where there is none -/
def tokL (b : UInt8) (r : List UInt8) : Nat := if isLow b = true then (if wordLen (b :: r) ≤ 8 then wordLen (b :: r) else 0) else if isDig b = true then (if numOk b r = true then 1 else 0) else symL b r
def tokV (b : UInt8) (r : List UInt8) (p : Int) : Tok := if isLow b = true then ⟨1, 0, p, (b :: r).take (wordLen (b :: r))⟩ else if isDig b = true then ⟨2, (b.toNat : Int) - 48, p, []⟩ else ⟨3, 0, p, (b :: r).take (symL b r)⟩
def lex (s : List UInt8) (a : Nat) (out : List Tok) : List Tok × Int :=
  match s with
  | [] => (out, -1)
  | b :: r => if isSep b = true then lex r (a + 1) out else if _h : tokL b r = 0 ∨ out.length = 150 then ([], (a : Int)) else lex ((b :: r).drop (tokL b r)) (a + tokL b r) (out ++ [tokV b r a])
termination_by s.length
decreasing_by
  · simp
  · simp only [List.length_drop, List.length_cons]; omega
def tokz (S : List UInt8) : List Tok × Int := if 400 < S.length then ([], 400) else lex S 0 []

theorem lex_nil (a : Nat) (out : List Tok) : lex [] a out = (out, -1) := by rw [lex]
theorem lex_sep {b : UInt8} {r : List UInt8} {a : Nat} {out : List Tok} (h : isSep b = true) : lex (b :: r) a out = lex r (a + 1) out := by rw [lex, if_pos h]
theorem lex_bad {b : UInt8} {r : List UInt8} {a : Nat} {out : List Tok} (h : isSep b = false) (h2 : tokL b r = 0 ∨ out.length = 150) : lex (b :: r) a out = (([], (a : Int)) : List Tok × Int) := by rw [lex, if_neg (by simp [h]), dif_pos h2]
theorem lex_tok {b : UInt8} {r : List UInt8} {a : Nat} {out : List Tok} (h : isSep b = false) (h2 : tokL b r ≠ 0) (h3 : out.length ≠ 150) : lex (b :: r) a out = lex ((b :: r).drop (tokL b r)) (a + tokL b r) (out ++ [tokV b r a]) := by
  rw [lex, if_neg (by simp [h]), dif_neg (by omega)]
theorem drop_at {S : List UInt8} {a : Nat} (h : a < S.length) : S.drop a = S[a] :: S.drop (a + 1) := (List.getElem_cons_drop ..).symm
theorem wordLen_le (s : List UInt8) : wordLen s ≤ s.length := (List.takeWhile_sublist _).length_le
theorem symL_le (b : UInt8) (r : List UInt8) : symL b r ≤ r.length + 1 := by
  unfold symL
  split
  · omega
  · split
    · rename_i h
      cases r with
      | nil => simp at h
      | cons => simp
    · omega
theorem tokL_le (b : UInt8) (r : List UInt8) : tokL b r ≤ r.length + 1 := by
  have h1 := wordLen_le (b :: r)
  have h2 := symL_le b r
  simp only [List.length_cons] at h1
  unfold tokL
  split
  · split <;> omega
  · split
    · split <;> omega
    · exact h2

/-- what holds of what has been laid stays so -/
theorem lex_inv {P : Tok → Prop} (N : Nat) : ∀ (n : Nat) (s : List UInt8) (a : Nat) (out : List Tok), s.length ≤ n → a + s.length = N → out.length ≤ 150 → (∀ t ∈ out, P t) →
    (∀ b r (a : Nat), isSep b = false → tokL b r ≠ 0 → a < N → P (tokV b r a)) → (lex s a out).1.length ≤ 150 ∧ ∀ t ∈ (lex s a out).1, P t := by
  intro n
  induction n with
  | zero =>
    intro s a out hs _ hl hP _
    have := List.eq_nil_of_length_eq_zero (Nat.le_zero.1 hs); subst this
    rw [lex_nil]; exact ⟨hl, hP⟩
  | succ n ih =>
    intro s a out hs hN hl hP hst
    cases s with
    | nil => rw [lex_nil]; exact ⟨hl, hP⟩
    | cons b r =>
      simp only [List.length_cons] at hs hN
      cases hb : isSep b with
      | true => rw [lex_sep hb]; exact ih _ _ _ (by omega) (by omega) hl hP hst
      | false =>
        by_cases h2 : tokL b r = 0 ∨ out.length = 150
        · rw [lex_bad hb h2]; exact ⟨by simp, by simp⟩
        · have hle := tokL_le b r
          rw [lex_tok hb (by omega) (by omega)]
          refine ih _ _ _ (by simp only [List.length_drop, List.length_cons]; omega) (by simp only [List.length_drop, List.length_cons]; omega) (by simp; omega) (fun t ht => ?_) hst
          rcases List.mem_append.1 ht with ht | ht
          · exact hP t ht
          · rw [List.mem_singleton] at ht; subst ht
            exact hst b r a hb (by omega) (by omega)
theorem lex_end : ∀ (n : Nat) (s : List UInt8) (a : Nat) (out : List Tok), s.length ≤ n → ((lex s a out).2 = -1 ∨ ((a : Int) ≤ (lex s a out).2 ∧ (lex s a out).2 < (a + s.length : Nat) ∧ (lex s a out).1 = [])) := by
  intro n
  induction n with
  | zero =>
    intro s a out hs
    have := List.eq_nil_of_length_eq_zero (Nat.le_zero.1 hs); subst this
    rw [lex_nil]; exact Or.inl rfl
  | succ n ih =>
    intro s a out hs
    cases s with
    | nil => rw [lex_nil]; exact Or.inl rfl
    | cons b r =>
      simp only [List.length_cons] at hs
      cases hb : isSep b with
      | true =>
        rw [lex_sep hb]
        rcases ih r (a + 1) out (by omega) with h | ⟨h1, h2, h3⟩
        · exact Or.inl h
        · exact Or.inr ⟨by omega, by simp only [List.length_cons]; omega, h3⟩
      | false =>
        by_cases h2 : tokL b r = 0 ∨ out.length = 150
        · rw [lex_bad hb h2]; exact Or.inr ⟨by simp, by simp only [List.length_cons]; omega, rfl⟩
        · have hle := tokL_le b r
          rw [lex_tok hb (by omega) (by omega)]
          rcases ih ((b :: r).drop (tokL b r)) (a + tokL b r) (out ++ [tokV b r a]) (by simp only [List.length_drop, List.length_cons]; omega) with h | ⟨h1, h3, h4⟩
          · exact Or.inl h
          · simp only [List.length_drop, List.length_cons] at h3
            exact Or.inr ⟨by omega, by simp only [List.length_cons]; omega, h4⟩
theorem tokz_len (S : List UInt8) : (tokz S).1.length ≤ 150 := by
  unfold tokz
  split
  · simp
  · exact (lex_inv (P := fun _ => True) S.length S.length S 0 [] (Nat.le_refl _) (by omega) (by simp) (by simp) (fun _ _ _ _ _ _ => trivial)).1
end Go.Proofs.YteenkdplpalofaaGreatDoor.Tk

/- What the walks over a text's bytes need. -/
set_option maxRecDepth 100000
namespace Go.Proofs.YteenkdplpalofaaGreatDoor.Tk
open Go.RowKit Go.Lib Go.Proofs.YteenkdplpalofaaGreatDoor.Num Go.Proofs.YteenkdplpalofaaGreatDoor.Mem Go.Proofs.YteenkdplpalofaaGreatDoor.Ch

/-- byte number a of a text, as the walks spell it -/
abbrev bt (S : List UInt8) (a : Nat) (h : a < S.length) : UInt8 := ({ data := S.toArray } : ByteArray)[a]'h
theorem head_drop (S : List UInt8) (a : Nat) : (S.drop a).head? = S[a]? := by simp
theorem wordLen_eq {S : List UInt8} {a k : Nat} (h : ∀ j, a ≤ j → j < k → ∀ hs : j < S.length, isWd S[j] = true) (ha : a ≤ k) (hk : k ≤ S.length) (he : ∀ hs : k < S.length, isWd S[k] = false) : wordLen (S.drop a) = k - a := by
  unfold wordLen
  obtain ⟨d, rfl⟩ : ∃ d, k = a + d := ⟨k - a, by omega⟩
  induction d generalizing a with
  | zero =>
    rcases Nat.lt_or_ge a S.length with hl | hl
    · rw [drop_at hl, List.takeWhile_cons, if_neg (by have := he hl; simp only [Nat.add_zero] at this; simp [this])]
      simp
    · rw [List.drop_eq_nil_of_le hl]; simp
  | succ d ih =>
    have hl : a < S.length := by omega
    rw [drop_at hl, List.takeWhile_cons, if_pos (h a (Nat.le_refl _) (by omega) hl), List.length_cons]
    have := ih (a := a + 1) (fun j h1 h2 h3 => h j (by omega) (by omega) h3) (by omega) (by omega) (fun hs => (show ∀ q (hq : q < S.length), q = a + (d + 1) → isWd S[q] = false from fun q hq e => by subst e; exact he hq) _ hs (by omega))
    rw [this]; omega
theorem results_cell2 {P : Program} {fn : Func} {p u : Tmp} {ty : TypeId} (h : fn.results = #[.cell p ty, .tmp u]) (tmps : Array Value) (w : World) (g : Nat) (t : TypeId) (cs : Array Value) (fr : Nat × Nat) (d : TypeDesc)
    (hp : tmps.getD p undef = .pointer (some ⟨g, 0, none⟩)) (hg : w.heap[g]? = some (.cells cs t fr))
    (hu : P.underlying ty = some d) (hd : (match d with | .struct _ | .array _ _ => true | _ => false) = true) (hi : (P.info? ty).map (·.size) = some cs.size) :
    (results fn tmps).run P w = .ok (.tuple #[.agg cs, tmps.getD u undef]) w := by
  rw [results_cell_tmp h, hp]
  simp [asAddr, run_loadVar_row w g t ty cs fr d hg hu hd hi, Result.andThen]
theorem txt_cut (S : List UInt8) (a k : Nat) : ({ data := S.toArray } : ByteArray).extract a k = { data := ((S.drop a).take (k - a)).toArray } := by
  apply ByteArray.ext; rw [ByteArray.data_extract]; simp [List.extract_eq_take_drop]
theorem drop_bt {S : List UInt8} {a : Nat} (h : a < S.length) : S.drop a = bt S a h :: S.drop (a + 1) := drop_at h
/-- the texts from a on read so, whatever has been laid before -/
def Lay (S : List UInt8) (a : Nat) (out : List Tok) : Prop := lex (S.drop a) a out = lex S 0 []
theorem Lay.sep {S : List UInt8} {a : Nat} {out : List Tok} (h : Lay S a out) (hl : a < S.length) (hs : isSep (bt S a hl) = true) : Lay S (a + 1) out := by
  unfold Lay at *
  rw [drop_bt hl, lex_sep hs] at h
  exact h
theorem Lay.bad {S : List UInt8} {a : Nat} {out : List Tok} (h : Lay S a out) (hl : a < S.length) (hs : isSep (bt S a hl) = false) (h2 : tokL (bt S a hl) (S.drop (a + 1)) = 0 ∨ out.length = 150) : lex S 0 [] = (([], (a : Int)) : List Tok × Int) := by
  unfold Lay at h
  rw [drop_bt hl, lex_bad hs h2] at h
  exact h.symm
theorem Lay.tok {S : List UInt8} {a : Nat} {out : List Tok} (h : Lay S a out) (hl : a < S.length) (hs : isSep (bt S a hl) = false) (h2 : tokL (bt S a hl) (S.drop (a + 1)) ≠ 0) (h3 : out.length ≠ 150) :
    Lay S (a + tokL (bt S a hl) (S.drop (a + 1))) (out ++ [tokV (bt S a hl) (S.drop (a + 1)) a]) := by
  unfold Lay at *
  rw [drop_bt hl, lex_tok hs h2 h3, ← drop_bt hl, List.drop_drop] at h
  exact h
theorem Lay.end_ {S : List UInt8} {out : List Tok} (h : Lay S S.length out) : lex S 0 [] = (out, -1) := by
  unfold Lay at h
  rw [List.drop_length, lex_nil] at h
  exact h.symm
theorem sep_32 {b : UInt8} (h : isSep b = false) : ((b.toNat : Int) == 32) = false ∧ ((b.toNat : Int) == 10) = false := by
  simp only [isSep, Bool.or_eq_false_iff, decide_eq_false_iff_not] at h
  exact ⟨beq_eq_false_iff_ne.2 (by omega), beq_eq_false_iff_ne.2 (by omega)⟩
theorem tokz_small {S : List UInt8} (h : S.length ≤ 400) : tokz S = lex S 0 [] := by unfold tokz; rw [if_neg (by omega)]
theorem tokz_big {S : List UInt8} (h : 400 < S.length) : tokz S = ([], 400) := by unfold tokz; rw [if_pos h]
abbrev TokOk (S : List UInt8) (w : World) (e : Ending) (w' : World) : Prop :=
  ∃ r, e = .returned (.tuple #[r, .int .i64 (tokz S).2]) ∧ OwnT w.heap.size w'.heap.size w' r (tokz S).1 ∧ Below w.heap.size w w'
end Go.Proofs.YteenkdplpalofaaGreatDoor.Tk
