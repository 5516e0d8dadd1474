/- Reading the formatted list of a text's tokens gives them again, but for their offsets. -/
import Derived.Test.YtgjdccibdgedbaaDoorC5f
import Derived.Test.YtgjdccibdgedbaaDoorLw
set_option maxRecDepth 100000
namespace Go.Proofs.YtgjdccibdgedbaaDoor.Tk
open Go.RowKit Go.Lib Go.Proofs.YtgjdccibdgedbaaDoor.Num Go.Proofs.YtgjdccibdgedbaaDoor.Mem Go.Proofs.YtgjdccibdgedbaaDoor.Ch

def NameS (s : List UInt8) : Prop := ∃ b r, s = b :: r ∧ isLow b = true ∧ (∀ x ∈ b :: r, isWd x = true) ∧ (b :: r).length ≤ 8
def SymS (s : List UInt8) : Prop := (∃ b, s = [b] ∧ b.toNat ∈ ones) ∨ ∃ b, s = [b, 61] ∧ (b.toNat = 61 ∨ b.toNat = 58)
/-- a token as a text can have it -/
def GoodT (t : Tok) : Prop := (t.k = 1 ∧ t.n = 0 ∧ NameS t.s) ∨ (t.k = 2 ∧ 0 ≤ t.n ∧ t.n < 4 ∧ t.s = []) ∨ (t.k = 3 ∧ t.n = 0 ∧ SymS t.s)
theorem low_wd {b : UInt8} (h : isLow b = true) : isWd b = true := by unfold isWd; rw [h]; rfl
theorem take_word (s : List UInt8) : s.take (wordLen s) = s.takeWhile isWd := (List.prefix_iff_eq_take.1 (List.takeWhile_prefix isWd)).symm
theorem mem_takeWhile {p : UInt8 → Bool} : ∀ {s : List UInt8} {x : UInt8}, x ∈ s.takeWhile p → p x = true
  | b :: r, x, h => by
    rw [List.takeWhile_cons] at h
    split at h
    · rename_i hb
      rcases List.mem_cons.1 h with rfl | h
      · exact hb
      · exact mem_takeWhile h
    · cases h
theorem tokV_p (b : UInt8) (r : List UInt8) (p : Int) : (tokV b r p).p = p := by
  unfold tokV
  split
  · rfl
  · split <;> rfl
theorem tokV_good {b : UInt8} {r : List UInt8} (p : Int) (h : tokL b r ≠ 0) : GoodT (tokV b r p) := by
  unfold tokL at h
  unfold tokV
  split at h
  · rename_i hb
    rw [if_pos hb]
    split at h
    · rename_i h8
      refine Or.inl ⟨rfl, rfl, ?_⟩
      show NameS ((b :: r).take (wordLen (b :: r)))
      rw [take_word, List.takeWhile_cons, if_pos (low_wd hb)]
      refine ⟨b, _, rfl, hb, fun x hx => ?_, ?_⟩
      · rcases List.mem_cons.1 hx with rfl | hx
        · exact low_wd hb
        · exact mem_takeWhile hx
      · unfold wordLen at h8
        rw [List.takeWhile_cons, if_pos (low_wd hb)] at h8
        exact h8
    · exact absurd rfl h
  · rename_i hb
    rw [if_neg hb]
    split at h
    · rename_i hd
      rw [if_pos hd]
      split at h
      · rename_i hn
        obtain ⟨d0, d1⟩ := isDig_bounds hd
        unfold numOk at hn
        rw [Bool.and_eq_true, decide_eq_true_eq] at hn
        exact Or.inr (Or.inl ⟨rfl, show (0 : Int) ≤ (b.toNat : Int) - 48 by omega, show (b.toNat : Int) - 48 < 4 by omega, rfl⟩)
      · exact absurd rfl h
    · rename_i hd
      rw [if_neg hd]
      refine Or.inr (Or.inr ⟨rfl, rfl, ?_⟩)
      show SymS ((b :: r).take (symL b r))
      unfold symL at h ⊢
      split at h
      · rename_i h1
        rw [if_pos h1]
        exact Or.inl ⟨b, rfl, h1⟩
      · rename_i h1
        rw [if_neg h1]
        split at h
        · rename_i h2
          rw [if_pos h2]
          cases r with
          | nil => simp at h2
          | cons c q =>
            have hc : c = 61 := UInt8.toNat_inj.1 (by have := h2.2; simpa using this)
            subst hc
            exact Or.inr ⟨b, rfl, h2.1⟩
        · exact absurd rfl h

theorem low_cls {b : UInt8} (h : isLow b = true) : isSep b = false := by
  simp only [isLow, Bool.and_eq_true, decide_eq_true_eq] at h
  simp [isSep]; omega
theorem dig_cls {b : UInt8} (h : isDig b = true) : isSep b = false ∧ isLow b = false := by
  obtain ⟨h1, h2⟩ := isDig_bounds h
  simp [isSep, isLow]; omega
theorem ones_cls {b : UInt8} (h : b.toNat ∈ ones) : isSep b = false ∧ isLow b = false ∧ isDig b = false := by
  simp only [ones, List.mem_cons, List.not_mem_nil, or_false] at h
  simp [isSep, isLow, isDig]; omega
theorem two_cls {b : UInt8} (h : b.toNat = 61 ∨ b.toNat = 58) : isSep b = false ∧ isLow b = false ∧ isDig b = false ∧ ¬ b.toNat ∈ ones := by
  refine ⟨?_, ?_, ?_, ?_⟩
  · simp [isSep]; omega
  · simp [isLow]; omega
  · simp [isDig]; omega
  · simp only [ones, List.mem_cons, List.not_mem_nil, or_false]; omega
/-- what may follow a token's text -/
def Stop (r : List UInt8) : Prop := r = [] ∨ ∃ q, r = 32 :: q
theorem Stop.word {r : List UInt8} (h : Stop r) : r.takeWhile isWd = [] := by
  rcases h with rfl | ⟨q, rfl⟩
  · rfl
  · rw [List.takeWhile_cons]; rfl
theorem Stop.dig {r : List UInt8} (h : Stop r) : r.head?.any isDig = false := by
  rcases h with rfl | ⟨q, rfl⟩
  · rfl
  · rfl
theorem Stop.sym {r : List UInt8} (h : Stop r) : ¬ (r.head?.map UInt8.toNat) = some 61 := by
  rcases h with rfl | ⟨q, rfl⟩
  · simp
  · simp
theorem itoa_dig {n : Int} (h0 : 0 ≤ n) (h1 : n < 4) : itoa n = [UInt8.ofNat (48 + n.toNat)] := by
  unfold itoa
  rw [if_neg (by omega)]
  exact decDigits_one (by omega)
/-- a token's text, read -/
theorem read_txt {t : Tok} (h : GoodT t) {r : List UInt8} (hr : Stop r) :
    ∃ b q, txtT t ++ r = b :: q ∧ isSep b = false ∧ tokL b q = (txtT t).length ∧ tokL b q ≠ 0 ∧ ∀ p, tokV b q p = ⟨t.k, t.n, p, t.s⟩ := by
  obtain ⟨k, n, p0, s⟩ := t
  rcases h with ⟨hk, hn, b, q, hs, hb, hall, h8⟩ | ⟨hk, h0, h4, hs⟩ | ⟨hk, hn, ⟨b, hs, h1⟩ | ⟨b, hs, h2⟩⟩
  · have hk : k = 1 := hk
    have hn : n = 0 := hn
    have hs : s = b :: q := hs
    subst hk hn hs
    have hw : wordLen (b :: (q ++ r)) = (b :: q).length := by
      unfold wordLen
      rw [show b :: (q ++ r) = (b :: q) ++ r from rfl, List.takeWhile_append_of_pos hall, hr.word, List.append_nil]
    have hL : tokL b (q ++ r) = (b :: q).length := by
      unfold tokL; rw [if_pos hb, hw, if_pos h8]
    refine ⟨b, q ++ r, rfl, low_cls hb, hL, by rw [hL]; simp, fun p => ?_⟩
    unfold tokV
    rw [if_pos hb, hw, show b :: (q ++ r) = (b :: q) ++ r from rfl, List.take_left]
  · have hk : k = 2 := hk
    have hs : s = [] := hs
    have h0 : 0 ≤ n := h0
    have h4 : n < 4 := h4
    subst hk hs
    have ht : txtT ⟨2, n, p0, []⟩ = [UInt8.ofNat (48 + n.toNat)] := itoa_dig h0 h4
    have hb : (UInt8.ofNat (48 + n.toNat)).toNat = 48 + n.toNat := by rw [UInt8.toNat_ofNat']; omega
    have hd : isDig (UInt8.ofNat (48 + n.toNat)) = true := isDig_mk (by omega) (by omega)
    rw [ht]
    generalize UInt8.ofNat (48 + n.toNat) = b at *
    have hL : tokL b r = 1 := by
      unfold tokL
      rw [if_neg (by rw [(dig_cls hd).2]; simp), if_pos hd, if_pos]
      unfold numOk
      rw [hr.dig, Bool.and_eq_true, decide_eq_true_eq]
      exact ⟨by omega, rfl⟩
    refine ⟨b, r, rfl, (dig_cls hd).1, hL, by rw [hL]; simp, fun p => ?_⟩
    unfold tokV
    rw [if_neg (by rw [(dig_cls hd).2]; simp), if_pos hd, hb, show ((48 + n.toNat : Nat) : Int) - 48 = n by omega]
  · have hk : k = 3 := hk
    have hn : n = 0 := hn
    have hs : s = [b] := hs
    subst hk hn hs
    obtain ⟨c1, c2, c3⟩ := ones_cls h1
    have hS : symL b r = 1 := by unfold symL; rw [if_pos h1]
    have hL : tokL b r = 1 := by unfold tokL; rw [if_neg (by rw [c2]; simp), if_neg (by rw [c3]; simp), hS]
    refine ⟨b, r, rfl, c1, hL, by rw [hL]; simp, fun p => ?_⟩
    unfold tokV
    rw [if_neg (by rw [c2]; simp), if_neg (by rw [c3]; simp), hS]
    rfl
  · have hk : k = 3 := hk
    have hn : n = 0 := hn
    have hs : s = [b, 61] := hs
    subst hk hn hs
    obtain ⟨c1, c2, c3, c4⟩ := two_cls h2
    have hS : symL b (61 :: r) = 2 := by unfold symL; rw [if_neg c4, if_pos ⟨h2, rfl⟩]
    have hL : tokL b (61 :: r) = 2 := by unfold tokL; rw [if_neg (by rw [c2]; simp), if_neg (by rw [c3]; simp), hS]
    refine ⟨b, 61 :: r, rfl, c1, hL, by rw [hL]; simp, fun p => ?_⟩
    unfold tokV
    rw [if_neg (by rw [c2]; simp), if_neg (by rw [c3]; simp), hS]
    rfl
/-- the tokens, at the offsets that they have in the formatted list -/
def shiftT (a : Nat) : List Tok → List Tok
  | [] => []
  | t :: r => ⟨t.k, t.n, a, t.s⟩ :: shiftT (a + (txtT t).length + 1) r
theorem shiftT_len : ∀ (a : Nat) (l : List Tok), (shiftT a l).length = l.length
  | _, [] => rfl
  | a, t :: r => by rw [shiftT, List.length_cons, shiftT_len, List.length_cons]
theorem shiftT_at : ∀ (a : Nat) (l : List Tok) (i : Nat) (h : i < l.length), ∃ p, (shiftT a l)[i]? = some ⟨l[i].k, l[i].n, p, l[i].s⟩
  | _, [], i, h => by simp at h
  | a, t :: r, 0, _ => ⟨(a : Int), rfl⟩
  | a, t :: r, i + 1, h => by
    obtain ⟨p, hp⟩ := shiftT_at (a + (txtT t).length + 1) r i (by simpa using h)
    exact ⟨p, by rw [shiftT, List.getElem?_cons_succ, hp]; rfl⟩
theorem lex_one {t : Tok} (h : GoodT t) {r : List UInt8} (hr : Stop r) (a : Nat) {out : List Tok} (ho : out.length ≠ 150) : lex (txtT t ++ r) a out = lex r (a + (txtT t).length) (out ++ [⟨t.k, t.n, a, t.s⟩]) := by
  obtain ⟨b, q, e, hs, hL, hne, hV⟩ := read_txt h hr
  rw [e, lex_tok hs hne ho, ← e, hL, List.drop_left, hV]
theorem relex : ∀ (l : List Tok), (∀ t ∈ l, GoodT t) → ∀ (a : Nat) (out : List Tok), out.length + l.length ≤ 150 → lex (C1j.jl [32] (l.map txtT)) a out = (out ++ shiftT a l, -1)
  | [], _, a, out, _ => by
    show lex [] a out = _
    rw [lex_nil]; simp [shiftT]
  | [t], h, a, out, ho => by
    show lex (txtT t) a out = _
    have := lex_one (h t (by simp)) (r := []) (Or.inl rfl) a (out := out) (by simp at ho; omega)
    rw [List.append_nil] at this
    rw [this, lex_nil]
    simp [shiftT]
  | t :: u :: r, h, a, out, ho => by
    have e : C1j.jl [32] ((t :: u :: r).map txtT) = txtT t ++ (32 :: C1j.jl [32] ((u :: r).map txtT)) := by
      show txtT t ++ [32] ++ C1j.jl [32] ((u :: r).map txtT) = _
      simp
    simp only [List.length_cons] at ho
    rw [e, lex_one (h t (by simp)) (Or.inr ⟨_, rfl⟩) a (by omega), lex_sep rfl, relex (u :: r) (fun x hx => h x (by simp [hx])) _ _ (by simp only [List.length_append, List.length_cons, List.length_nil]; omega)]
    simp [shiftT]
theorem tokz_good {S : List UInt8} (h : S.length ≤ 400) : ∀ t ∈ (tokz S).1, GoodT t ∧ 0 ≤ t.p ∧ t.p < (S.length : Int) := by
  rw [tokz_small h]
  exact (lex_inv (P := fun t => GoodT t ∧ 0 ≤ t.p ∧ t.p < (S.length : Int)) S.length S.length S 0 [] (Nat.le_refl _) (by omega) (by simp) (by simp) (fun b r a _ h2 h3 => ⟨tokV_good _ h2, by rw [tokV_p]; omega, by rw [tokV_p]; omega⟩)).2
theorem tokz_again {S : List UInt8} (h : S.length ≤ 400) (hf : (fmtT (tokz S).1).length ≤ 400) : tokz (fmtT (tokz S).1) = (shiftT 0 (tokz S).1, -1) := by
  rw [tokz_small hf]
  unfold fmtT
  rw [C1j.join_jl, relex _ (fun t ht => (tokz_good h t ht).1) 0 [] (by simpa using tokz_len S)]
  simp
theorem tokz_bad {S : List UInt8} (h : (tokz S).2 ≠ -1) : (tokz S).1 = [] ∧ 0 ≤ (tokz S).2 := by
  unfold tokz at *
  split at h
  · rename_i hb
    rw [if_pos hb]
    exact ⟨rfl, by decide⟩
  · rename_i hb
    rw [if_neg hb]
    rcases lex_end S.length S 0 [] (Nat.le_refl _) with h1 | ⟨h1, _, h3⟩
    · exact absurd h1 h
    · exact ⟨h3, by simpa using h1⟩
theorem good_fit {t : Tok} (h : GoodT t) : FitT t := by
  unfold FitT
  rcases h with ⟨_, h, _⟩ | ⟨_, h0, h4, _⟩ | ⟨_, h, _⟩
  · rw [h]; omega
  · omega
  · rw [h]; omega
theorem good_len {t : Tok} (h : GoodT t) : t.s.length ≤ 8 := by
  rcases h with ⟨_, _, b, r, hs, _, _, h8⟩ | ⟨_, _, _, hs⟩ | ⟨_, _, ⟨b, hs, _⟩ | ⟨b, hs, _⟩⟩ <;> rw [hs]
  · exact h8
  · simp
  · simp
  · simp
theorem good_size : ∀ {l : List Tok}, (∀ t ∈ l, GoodT t) → ((l.map Tok.s).map List.length).sum ≤ l.length * 8
  | [], _ => by simp
  | t :: r, h => by
    have h1 := good_len (h t (by simp))
    have h2 := good_size (l := r) (fun x hx => h x (by simp [hx]))
    simp only [List.map_cons, List.sum_cons, List.length_cons]
    omega
end Go.Proofs.YtgjdccibdgedbaaDoor.Tk
