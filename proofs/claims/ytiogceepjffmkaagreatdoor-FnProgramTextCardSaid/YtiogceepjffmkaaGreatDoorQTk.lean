/- Tokens as values; slices of tokens that are read, and such of the call's own: compared, marked, looked at again. -/
import Derived.Test.YtiogceepjffmkaaGreatDoorQLhS
import Derived.Laws.ResultCell
import Derived.Laws.Rows
import Derived.Laws.EntriesVeiled
set_option maxHeartbeats 1000000
set_option maxRecDepth 100000
namespace Go.Proofs.YtiogceepjffmkaaGreatDoor.Tk
open Go.RowKit Go.Lib Go.Sort Com Mem YtiogceepjffmkaaGreatDoor.Os Ow
structure Tok where
 k : Int
 n : Int
 p : Int
 s : List UInt8
abbrev TK : TypeId := 67
abbrev tcs (t : Tok) : List Value := [.int .i64 t.k, .int .i64 t.n, .int .i64 t.p, sv t.s]
abbrev tv (t : Tok) : Value := .agg #[.int .i64 t.k, .int .i64 t.n, .int .i64 t.p, sv t.s]
def cellsT (l : List Tok) : List Value := l.flatMap tcs
theorem cellsT_append (l r : List Tok) : cellsT (l ++ r) = cellsT l ++ cellsT r := by simp [cellsT]
theorem cellsT_cons (t : Tok) (r : List Tok) : cellsT (t :: r) = tcs t ++ cellsT r := rfl
theorem cellsT_len (l : List Tok) : (cellsT l).length = l.length * 4 := by
 induction l with
 | nil => rfl
 | cons t r ih => rw [cellsT_cons, List.length_append, ih]; show 4 + r.length * 4 = (r.length + 1) * 4; omega
theorem cellsT_at (l : List Tok) (m : Nat) (h : m < l.length) : (cellsT l)[m * 4]? = some (.int .i64 l[m].k) ∧ (cellsT l)[m * 4 + 1]? = some (.int .i64 l[m].n) ∧ (cellsT l)[m * 4 + 2]? = some (.int .i64 l[m].p) ∧ (cellsT l)[m * 4 + 3]? = some (sv l[m].s) := by
 have e : l = l.take m ++ (l[m] :: l.drop (m + 1)) := by rw [List.getElem_cons_drop, List.take_append_drop]
 have hl : (cellsT (l.take m)).length = m * 4 := by rw [cellsT_len, List.length_take, Nat.min_eq_left (by omega)]
 have e2 : cellsT l = cellsT (l.take m) ++ (tcs l[m] ++ cellsT (l.drop (m + 1))) := by conv => lhs; rw [e, cellsT_append, cellsT_cons]
 rw [e2]
 refine ⟨?_, ?_, ?_, ?_⟩ <;> rw [List.getElem?_append_right (by omega), hl]
 ·rw [Nat.sub_self]; rfl
 ·rw [Nat.add_sub_cancel_left]; rfl
 ·rw [Nat.add_sub_cancel_left]; rfl
 ·rw [Nat.add_sub_cancel_left]; rfl
theorem tcs_one (l : List Tok) : ∀ u ∈ cellsT l, u.oneCell' = true := by
 intro u hu
 obtain ⟨t, _, ht⟩ := List.mem_flatMap.1 hu
 simp only [tcs, List.mem_cons, List.not_mem_nil, or_false] at ht
 rcases ht with rfl | rfl | rfl | rfl <;> rfl
def OwnT (lo hi : Nat) (w : World) (v : Value) (l : List Tok) : Prop :=
 ∃ A c cs, v = .slice A l.length c ∧ l.length ≤ c ∧ c ≤ maxLen ∧ (A = none → l = [] ∧ c = 0) ∧ (∀ ad, A = some ad → ad = ⟨ad.block, 0, none⟩ ∧ lo ≤ ad.block ∧ ad.block < hi ∧ Blk w ad.block TK cs) ∧ cs.take (l.length * 4) = cellsT l ∧ cs.length = c * 4
section
variable {lo hi : Nat} {w w' : World} {v : Value} {l : List Tok}
theorem OwnT.mono {lo' hi' : Nat} (h : OwnT lo hi w v l) (h1 : lo' ≤ lo) (h2 : hi ≤ hi') : OwnT lo' hi' w v l := by
 obtain ⟨A, c, cs, e1, e2, hm, e3, e4, e5⟩ := h
 exact ⟨A, c, cs, e1, e2, hm, e3, fun ad ha => ⟨(e4 ad ha).1, by have := (e4 ad ha).2.1; omega, by have := (e4 ad ha).2.2.1; omega, (e4 ad ha).2.2.2⟩, e5⟩
theorem OwnT.read (h : OwnT lo hi w v l) : ∃ A c, v = .slice A l.length c ∧ Rd w w.heap.size A (cellsT l) ∧ l.length ≤ c ∧ c ≤ maxLen ∧ (A = none → c = 0) ∧ ∀ ad, A = some ad → ad = ⟨ad.block, 0, none⟩ := by
 obtain ⟨A, c, cs, h1, h2, hm, h3, h4, h5⟩ := h
 refine ⟨A, c, h1, fun hne => ?_, h2, hm, fun ha => (h3 ha).2, fun ad ha => (h4 ad ha).1⟩
 cases A with
 | none => exact absurd (by rw [(h3 rfl).1]; rfl) hne
 | some ad =>
  obtain ⟨hz, _, _, hb⟩ := h4 ad rfl
  refine ⟨ad, rfl, hb.lt, fun j u hj => ?_⟩
  have e1 : ad.add j = ⟨ad.block, j, none⟩ := (congrArg (Addr.add · j) hz).trans (add_zero _ _)
  rw [e1, hb.cell]
  rw [← h5.1] at hj
  rw [List.getElem?_take] at hj
  split at hj
  ·exact hj
  ·cases hj
theorem OwnT.of_row {base : Nat} (h : w.ownsRow base TK 4 v l.length (cellsT l)) : OwnT base w.heap.size w v l := by
 rcases h.2 with ⟨hv, hn⟩ | ⟨g, c, cur, hv, hb, hblk, hnc, hcm, hsz, ht⟩
 ·have hx := List.eq_nil_of_length_eq_zero hn
  subst hx
  exact ⟨none, 0, [], hv, Nat.le_refl _, by unfold maxLen; omega, fun _ => ⟨rfl, rfl⟩, (fun ad h => by cases h), rfl, rfl⟩
 ·refine ⟨_, c, cur.toList, hv, hnc, hcm, (fun h => by cases h), (fun ad h => by cases h; exact ⟨rfl, hb, (Array.getElem?_eq_some_iff.1 hblk).1, by unfold Blk; simpa using hblk⟩), by simpa using ht, by rw [Array.length_toList]; exact hsz⟩
theorem OwnT.nil_ (lo hi : Nat) (w : World) : OwnT lo hi w (.slice none 0 0) [] := ⟨none, 0, [], rfl, Nat.le_refl _, by unfold maxLen; omega, fun _ => ⟨rfl, rfl⟩, (fun ad h => by cases h), rfl, rfl⟩
theorem OwnT.row (h : OwnT lo hi w v l) : w.ownsRow lo TK 4 v l.length (cellsT l) := by
 obtain ⟨A, c, cs, h1, h2, hm, h3, h4, h5, h6⟩ := h
 refine ⟨cellsT_len l, ?_⟩
 cases A with
 | none =>
  obtain ⟨rfl, rfl⟩ := h3 rfl
  exact Or.inl ⟨h1, rfl⟩
 | some ad =>
  obtain ⟨hz, hlo, _, hb⟩ := h4 ad rfl
  refine Or.inr ⟨ad.block, c, cs.toArray, by rw [h1, hz], hlo, hb, h2, hm, by rw [List.size_toArray, h6], by simpa using h5⟩
end
theorem four {w : World} {g ty : Nat} {a b c d : Value} (h : Blk w g ty [a, b, c, d]) : w.cell? ⟨g, 0, none⟩ = some a ∧ w.cell? ⟨g, 1, none⟩ = some b ∧ w.cell? ⟨g, 2, none⟩ = some c ∧ w.cell? ⟨g, 3, none⟩ = some d := ⟨h.cell 0, h.cell 1, h.cell 2, h.cell 3⟩
theorem tokInfo : (Tryz.prog.info? TK).map (fun i => (i.zero, i.size, i.bytes)) = some (some (tv ⟨0, 0, 0, []⟩), 4, 40) := by kernel_rfl
theorem row_lit (w : World) (t : Tok) : ∀ j u, (tcs t)[j]? = some u → (w.alloc (.cells #[.int .i64 t.k, .int .i64 t.n, .int .i64 t.p, sv t.s] TK)).cell? ((⟨w.heap.size, 0, none⟩ : Addr).add j) = some u := by
 intro j u hu
 rw [add_zero, (Blk.new w TK (tcs t)).cell]; exact hu
def set4 (cs : List Value) (m : Nat) (c0 c1 c2 c3 : Value) : List Value := (((cs.set (m * 4) c0).set (m * 4 + 1) c1).set (m * 4 + 2) c2).set (m * 4 + 3) c3
open Num Ch
def isSep (b : UInt8) : Bool := decide (b.toNat = 32) || decide (b.toNat = 10)
def isWd (b : UInt8) : Bool := isLow b || isDig b
def wordLen (s : List UInt8) : Nat := (s.takeWhile isWd).length
def ones : List Nat := [40, 41, 123, 125, 59, 43, 45, 42, 47, 60, 38, 124, 33]
def symL (b : UInt8) (r : List UInt8) : Nat := if b.toNat ∈ ones then 1 else if (b.toNat = 61 ∨ b.toNat = 58) ∧ (r.head?.map UInt8.toNat) = some 61 then 2 else 0
def numOk (b : UInt8) (r : List UInt8) : Bool := decide (b.toNat < 52) && !(r.head?.any isDig)
def tokL (b : UInt8) (r : List UInt8) : Nat := if isLow b = true then (if wordLen (b :: r) ≤ 8 then wordLen (b :: r) else 0) else if isDig b = true then (if numOk b r = true then 1 else 0) else symL b r
def tokV (b : UInt8) (r : List UInt8) (p : Int) : Tok := if isLow b = true then ⟨1, 0, p, (b :: r).take (wordLen (b :: r))⟩ else if isDig b = true then ⟨2, (b.toNat : Int) - 48, p, []⟩ else ⟨3, 0, p, (b :: r).take (symL b r)⟩
def lex (s : List UInt8) (a : Nat) (out : List Tok) : List Tok × Int :=
 match s with
 | [] => (out, -1)
 | b :: r => if isSep b = true then lex r (a + 1) out else if _h : tokL b r = 0 ∨ out.length = 150 then ([], (a : Int)) else lex ((b :: r).drop (tokL b r)) (a + tokL b r) (out ++ [tokV b r a])
termination_by s.length
decreasing_by
 ·simp
 ·simp only [List.length_drop, List.length_cons]; omega
def tokz (S : List UInt8) : List Tok × Int := if 400 < S.length then ([], 400) else lex S 0 []
theorem lex_nil (a : Nat) (out : List Tok) : lex [] a out = (out, -1) := by rw [lex]
theorem lex_sep {b : UInt8} {r : List UInt8} {a : Nat} {out : List Tok} (h : isSep b = true) : lex (b :: r) a out = lex r (a + 1) out := by rw [lex, if_pos h]
theorem lex_bad {b : UInt8} {r : List UInt8} {a : Nat} {out : List Tok} (h : isSep b = false) (h2 : tokL b r = 0 ∨ out.length = 150) : lex (b :: r) a out = (([], (a : Int)) : List Tok × Int) := by rw [lex, if_neg (by simp [h]), dif_pos h2]
theorem lex_tok {b : UInt8} {r : List UInt8} {a : Nat} {out : List Tok} (h : isSep b = false) (h2 : tokL b r ≠ 0) (h3 : out.length ≠ 150) : lex (b :: r) a out = lex ((b :: r).drop (tokL b r)) (a + tokL b r) (out ++ [tokV b r a]) := by
 rw [lex, if_neg (by simp [h]), dif_neg (by omega)]
theorem drop_at {S : List UInt8} {a : Nat} (h : a < S.length) : S.drop a = S[a] :: S.drop (a + 1) := (List.getElem_cons_drop ..).symm
theorem wordLen_le (s : List UInt8) : wordLen s ≤ s.length := (List.takeWhile_sublist _).length_le
theorem symL_le (b : UInt8) (r : List UInt8) : symL b r ≤ r.length + 1 := by
 unfold symL
 split
 ·omega
 ·split
  ·rename_i h
   cases r with
   | nil => simp at h
   | cons => simp
  ·omega
theorem tokL_le (b : UInt8) (r : List UInt8) : tokL b r ≤ r.length + 1 := by
 have h1 := wordLen_le (b :: r)
 have h2 := symL_le b r
 simp only [List.length_cons] at h1
 unfold tokL
 split
 ·split <;> omega
 ·split
  ·split <;> omega
  ·exact h2
theorem lex_inv {P : Tok → Prop} (N : Nat) : ∀ (n : Nat) (s : List UInt8) (a : Nat) (out : List Tok), s.length ≤ n → a + s.length = N → out.length ≤ 150 → (∀ t ∈ out, P t) →
  (∀ b r (a : Nat), isSep b = false → tokL b r ≠ 0 → a < N → P (tokV b r a)) → (lex s a out).1.length ≤ 150 ∧ ∀ t ∈ (lex s a out).1, P t := by
 intro n
 induction n with
 | zero =>
  intro s a out hs _ hl hP _
  have := List.eq_nil_of_length_eq_zero (Nat.le_zero.1 hs); subst this
  rw [lex_nil]; exact ⟨hl, hP⟩
 | succ n ih =>
  intro s a out hs hN hl hP hst
  cases s with
  | nil => rw [lex_nil]; exact ⟨hl, hP⟩
  | cons b r =>
   simp only [List.length_cons] at hs hN
   cases hb : isSep b with
   | true => rw [lex_sep hb]; exact ih _ _ _ (by omega) (by omega) hl hP hst
   | false =>
    by_cases h2 : tokL b r = 0 ∨ out.length = 150
    ·rw [lex_bad hb h2]; exact ⟨by simp, by simp⟩
    ·have hle := tokL_le b r
     rw [lex_tok hb (by omega) (by omega)]
     refine ih _ _ _ (by simp only [List.length_drop, List.length_cons]; omega) (by simp only [List.length_drop, List.length_cons]; omega) (by simp; omega) (fun t ht => ?_) hst
     rcases List.mem_append.1 ht with ht | ht
     ·exact hP t ht
     ·rw [List.mem_singleton] at ht; subst ht
      exact hst b r a hb (by omega) (by omega)
theorem lex_end : ∀ (n : Nat) (s : List UInt8) (a : Nat) (out : List Tok), s.length ≤ n → ((lex s a out).2 = -1 ∨ ((a : Int) ≤ (lex s a out).2 ∧ (lex s a out).2 < (a + s.length : Nat) ∧ (lex s a out).1 = [])) := by
 intro n
 induction n with
 | zero =>
  intro s a out hs
  have := List.eq_nil_of_length_eq_zero (Nat.le_zero.1 hs); subst this
  rw [lex_nil]; exact Or.inl rfl
 | succ n ih =>
  intro s a out hs
  cases s with
  | nil => rw [lex_nil]; exact Or.inl rfl
  | cons b r =>
   simp only [List.length_cons] at hs
   cases hb : isSep b with
   | true =>
    rw [lex_sep hb]
    rcases ih r (a + 1) out (by omega) with h | ⟨h1, h2, h3⟩
    ·exact Or.inl h
    ·exact Or.inr ⟨by omega, by simp only [List.length_cons]; omega, h3⟩
   | false =>
    by_cases h2 : tokL b r = 0 ∨ out.length = 150
    ·rw [lex_bad hb h2]; exact Or.inr ⟨by simp, by simp only [List.length_cons]; omega, rfl⟩
    ·have hle := tokL_le b r
     rw [lex_tok hb (by omega) (by omega)]
     rcases ih ((b :: r).drop (tokL b r)) (a + tokL b r) (out ++ [tokV b r a]) (by simp only [List.length_drop, List.length_cons]; omega) with h | ⟨h1, h3, h4⟩
     ·exact Or.inl h
     ·simp only [List.length_drop, List.length_cons] at h3
      exact Or.inr ⟨by omega, by simp only [List.length_cons]; omega, h4⟩
theorem tokz_len (S : List UInt8) : (tokz S).1.length ≤ 150 := by
 unfold tokz
 split
 ·simp
 ·exact (lex_inv (P := fun _ => True) S.length S.length S 0 [] (Nat.le_refl _) (by omega) (by simp) (by simp) (fun _ _ _ _ _ _ => trivial)).1
abbrev bt (S : List UInt8) (a : Nat) (h : a < S.length) : UInt8 := ({ data := S.toArray } : ByteArray)[a]'h
theorem head_drop (S : List UInt8) (a : Nat) : (S.drop a).head? = S[a]? := by simp
theorem wordLen_eq {S : List UInt8} {a k : Nat} (h : ∀ j, a ≤ j → j < k → ∀ hs : j < S.length, isWd S[j] = true) (ha : a ≤ k) (hk : k ≤ S.length) (he : ∀ hs : k < S.length, isWd S[k] = false) : wordLen (S.drop a) = k - a := by
 unfold wordLen
 obtain ⟨d, rfl⟩ : ∃ d, k = a + d := ⟨k - a, by omega⟩
 induction d generalizing a with
 | zero =>
  rcases Nat.lt_or_ge a S.length with hl | hl
  ·rw [drop_at hl, List.takeWhile_cons, if_neg (by have := he hl; simp only [Nat.add_zero] at this; simp [this])]
   simp
  ·rw [List.drop_eq_nil_of_le hl]; simp
 | succ d ih =>
  have hl : a < S.length := by omega
  rw [drop_at hl, List.takeWhile_cons, if_pos (h a (Nat.le_refl _) (by omega) hl), List.length_cons]
  have := ih (a := a + 1) (fun j h1 h2 h3 => h j (by omega) (by omega) h3) (by omega) (by omega) (fun hs => (show ∀ q (hq : q < S.length), q = a + (d + 1) → isWd S[q] = false from fun q hq e => by subst e; exact he hq) _ hs (by omega))
  rw [this]; omega
theorem results_cell2 {P : Program} {fn : Func} {p u : Tmp} {ty : TypeId} (h : fn.results = #[.cell p ty, .tmp u]) (tmps : Array Value) (w : World) (g : Nat) (t : TypeId) (cs : Array Value) (fr : Nat × Nat) (d : TypeDesc)
  (hp : tmps.getD p undef = .pointer (some ⟨g, 0, none⟩)) (hg : w.heap[g]? = some (.cells cs t fr))
  (hu : P.underlying ty = some d) (hd : (match d with | .struct _ | .array _ _ => true | _ => false) = true) (hi : (P.info? ty).map (·.size) = some cs.size) :
  (results fn tmps).run P w = .ok (.tuple #[.agg cs, tmps.getD u undef]) w := by
 rw [results_cell_tmp h, hp]
 simp [asAddr, run_loadVar_row w g t ty cs fr d hg hu hd hi, Result.andThen]
theorem txt_cut (S : List UInt8) (a k : Nat) : ({ data := S.toArray } : ByteArray).extract a k = { data := ((S.drop a).take (k - a)).toArray } := by
 apply ByteArray.ext; rw [ByteArray.data_extract]; simp [List.extract_eq_take_drop]
theorem drop_bt {S : List UInt8} {a : Nat} (h : a < S.length) : S.drop a = bt S a h :: S.drop (a + 1) := drop_at h
def Lay (S : List UInt8) (a : Nat) (out : List Tok) : Prop := lex (S.drop a) a out = lex S 0 []
theorem Lay.sep {S : List UInt8} {a : Nat} {out : List Tok} (h : Lay S a out) (hl : a < S.length) (hs : isSep (bt S a hl) = true) : Lay S (a + 1) out := by
 unfold Lay at *
 rw [drop_bt hl, lex_sep hs] at h
 exact h
theorem Lay.bad {S : List UInt8} {a : Nat} {out : List Tok} (h : Lay S a out) (hl : a < S.length) (hs : isSep (bt S a hl) = false) (h2 : tokL (bt S a hl) (S.drop (a + 1)) = 0 ∨ out.length = 150) : lex S 0 [] = (([], (a : Int)) : List Tok × Int) := by
 unfold Lay at h
 rw [drop_bt hl, lex_bad hs h2] at h
 exact h.symm
theorem Lay.tok {S : List UInt8} {a : Nat} {out : List Tok} (h : Lay S a out) (hl : a < S.length) (hs : isSep (bt S a hl) = false) (h2 : tokL (bt S a hl) (S.drop (a + 1)) ≠ 0) (h3 : out.length ≠ 150) :
  Lay S (a + tokL (bt S a hl) (S.drop (a + 1))) (out ++ [tokV (bt S a hl) (S.drop (a + 1)) a]) := by
 unfold Lay at *
 rw [drop_bt hl, lex_tok hs h2 h3, ← drop_bt hl, List.drop_drop] at h
 exact h
theorem Lay.end_ {S : List UInt8} {out : List Tok} (h : Lay S S.length out) : lex S 0 [] = (out, -1) := by
 unfold Lay at h
 rw [List.drop_length, lex_nil] at h
 exact h.symm
theorem sep_32 {b : UInt8} (h : isSep b = false) : ((b.toNat : Int) == 32) = false ∧ ((b.toNat : Int) == 10) = false := by
 simp only [isSep, Bool.or_eq_false_iff, decide_eq_false_iff_not] at h
 exact ⟨beq_eq_false_iff_ne.2 (by omega), beq_eq_false_iff_ne.2 (by omega)⟩
theorem tokz_small {S : List UInt8} (h : S.length ≤ 400) : tokz S = lex S 0 [] := by unfold tokz; rw [if_neg (by omega)]
theorem tokz_big {S : List UInt8} (h : 400 < S.length) : tokz S = ([], 400) := by unfold tokz; rw [if_pos h]
abbrev TokOk (S : List UInt8) (w : World) (e : Ending) (w' : World) : Prop :=
 ∃ r, e = .returned (.tuple #[r, .int .i64 (tokz S).2]) ∧ OwnT w.heap.size w'.heap.size w' r (tokz S).1 ∧ Below w.heap.size w w'
abbrev RowT (w : World) (base : Nat) (v : Value) (l : List Tok) : Prop := w.ownsRow base TK 4 v l.length (cellsT l)
theorem row_form {w : World} {base e n m : Nat} {v : Value} {xs : List Value} (h : w.ownsRow base e n v m xs) : ∃ A c, v = .slice A m c := by
 rcases h.2 with ⟨rfl, rfl⟩ | ⟨g, c, cur, rfl, _⟩
 ·exact ⟨none, 0, rfl⟩
 ·exact ⟨_, _, rfl⟩
theorem row_below {w w' : World} {base e sz n : Nat} {v : Value} {xs : List Value} (h : w.ownsRow base e sz v n xs) (hb : Below w.heap.size w w') : w'.ownsRow base e sz v n xs :=
 h.kept (row := none) ⟨hb.os, hb.tape, hb.output, hb.size, fun k hk _ => hb.block k hk⟩ (by cases v.ownBlock <;> simp)
theorem row_nil (w : World) (base : Nat) : RowT w base (.slice none 0 0) [] := World.ownsRow_nil _ _ _ _
theorem row_lit0 (w : World) : RowT (w.alloc (.cells #[] TK)) w.heap.size (.slice (some ⟨w.heap.size, 0, none⟩) 0 0) [] :=
 ⟨rfl, Or.inr ⟨w.heap.size, 0, #[], rfl, Nat.le_refl _, heap_alloc_new w _, Nat.le_refl _, by unfold maxLen; omega, rfl, rfl⟩⟩
theorem app_tok {w : World} {base : Nat} {v : Value} {l : List Tok} (h : RowT w base v l) (hbs : base ≤ w.heap.size) (t : Tok) (hl : l.length < 1000000) {o : Oper} {a : Act} {ops : Array Oper} {rest : List Oper} {Q : Exit → Act → World → Prop} (hgd : o.guard = none) (s x : Operand)
  (ho : o.op = .call { callee := .builtin .append, args := #[s, x], argTypes := #[34, 34] }) (hs : a.eval s = v) (g : Nat) (hg : g = w.heap.size) (hx : a.eval x = .slice (some ⟨g, 0, none⟩) 1 1)
  (hK : ∀ v' w', RowT w' base v' (l ++ [t]) → w.grownBy w' v.ownBlock → wpList Tryz.prog ops Q rest (a.put o.dst v') w') :
  wpList Tryz.prog ops Q (o :: rest) a (w.alloc (.cells #[.int .i64 t.k, .int .i64 t.n, .int .i64 t.p, sv t.s] TK)) := by
 subst hg
 obtain ⟨i0, hi, hz0, hz1, hz2⟩ := info_parts tokInfo
 refine wpList_append_own (P := Tryz.prog) _ hgd s x 34 ho base TK i0 (tv ⟨0, 0, 0, []⟩) 4 40 Tryz.underlying34 hi hz0 hz1 hz2 rfl (by decide) v l.length (cellsT l) hs (h.alloc _) ⟨w.heap.size, 0, none⟩ 1 1 (tcs t) hx rfl (row_lit w t)
  (fun u hu => tcs_one [t] u (by simpa [cellsT] using hu)) (by unfold maxLen; omega) (by omega) (by rw [size_alloc']; omega) ?_
 intro v' w' hown hg _
 refine hK v' w' ?_ (gb_trans (World.grownBy_alloc w _ _) hg)
 have e : cellsT (l ++ [t]) = cellsT l ++ tcs t := by rw [cellsT_append]; simp [cellsT]
 unfold RowT
 rw [e, List.length_append]
 exact hown
theorem below_row {w0 w w' : World} {base : Nat} {v : Value} {l : List Tok} (hb : Below base w0 w) (h : RowT w base v l) (hg : w.grownBy w' v.ownBlock) (hbs : base ≤ w.heap.size) : Below base w0 w' :=
 hb.grown hg hbs (fun g e => (h.lt g e).1)
def putK (w : World) (g m : Nat) (t : Tok) : World := (((w.setCell ⟨g, m * 4, none⟩ (.int .i64 t.k)).setCell ⟨g, m * 4 + 1, none⟩ (.int .i64 t.n)).setCell ⟨g, m * 4 + 2, none⟩ (.int .i64 t.p)).setCell ⟨g, m * 4 + 3, none⟩ (sv t.s)
theorem row_last {w : World} {base : Nat} {v : Value} {l : List Tok} {t : Tok} (h : RowT w base v (l ++ [t])) : ∃ g cap, v = .slice (some ⟨g, 0, none⟩) (l.length + 1) cap ∧ base ≤ g ∧ w.cell? ⟨g, l.length * 4, none⟩ = some (.int .i64 t.k) ∧ w.cell? ⟨g, l.length * 4 + 1, none⟩ = some (.int .i64 t.n) ∧
  w.cell? ⟨g, l.length * 4 + 2, none⟩ = some (.int .i64 t.p) ∧ w.cell? ⟨g, l.length * 4 + 3, none⟩ = some (sv t.s) ∧ (∀ i, w.frozen? ⟨g, i, none⟩ = false) ∧ ∀ u : Tok, RowT (putK w g l.length u) base v (l ++ [u]) := by
 have hlen : (l ++ [t]).length = l.length + 1 := by simp
 rcases h with ⟨hl, ⟨_, hn⟩ | ⟨g, cap, cur, hv, hb, hblk, hn, hc, hs, ht⟩⟩
 ·simp at hn
 have hB : Blk w g TK cur.toList := by unfold Blk; simpa using hblk
 have hcell : ∀ i x, (cellsT (l ++ [t]))[i]? = some x → w.cell? ⟨g, i, none⟩ = some x := fun i x hx => by
  rw [hB.cell]
  rw [← ht, List.getElem?_take] at hx
  split at hx
  ·exact hx
  ·cases hx
 obtain ⟨q0, q1, q2, q3⟩ := cellsT_at (l ++ [t]) l.length (by simp)
 have e1 : (l ++ [t])[l.length]'(by simp) = t := by simp
 rw [e1] at q0 q1 q2 q3
 refine ⟨g, cap, by rw [hv, hlen], hb, hcell _ _ q0, hcell _ _ q1, hcell _ _ q2, hcell _ _ q3, fun i => hB.frozen i, fun u => ?_⟩
 have hcl : cur.toList = cellsT l ++ (tcs t ++ cur.toList.drop ((l.length + 1) * 4)) := by
  conv => lhs; rw [← List.take_append_drop ((l.length + 1) * 4) cur.toList]
  rw [hlen] at ht
  rw [ht, cellsT_append, List.append_assoc]
  simp [cellsT]
 have hll : (cellsT l).length = l.length * 4 := cellsT_len l
 have hB2 : Blk (putK w g l.length u) g TK (set4 cur.toList l.length (.int .i64 u.k) (.int .i64 u.n) (.int .i64 u.p) (sv u.s)) := (((hB.set_ _ _).set_ _ _).set_ _ _).set_ _ _
 have hset : set4 cur.toList l.length (.int .i64 u.k) (.int .i64 u.n) (.int .i64 u.p) (sv u.s) = cellsT l ++ (tcs u ++ cur.toList.drop ((l.length + 1) * 4)) := by
  generalize cur.toList.drop ((l.length + 1) * 4) = rest at *
  rw [hcl]
  unfold set4
  have s0 : ∀ (i : Nat) (r : List Value) (x : Value), (cellsT l ++ r).set (l.length * 4 + i) x = cellsT l ++ r.set i x := fun i r x => by
   rw [List.set_append_right _ _ (by omega), hll, Nat.add_sub_cancel_left]
  have s00 := s0 0
  rw [Nat.add_zero] at s00
  rw [s00, s0, s0, s0]
  rfl
 rw [hset] at hB2
 have hlu : (l ++ [u]).length = l.length + 1 := by simp
 have ecu : cellsT (l ++ [u]) = cellsT l ++ tcs u := by rw [cellsT_append]; simp [cellsT]
 have hsz : (cellsT l ++ (tcs u ++ cur.toList.drop ((l.length + 1) * 4))).length = cur.size := by
  have := congrArg List.length hcl
  simp only [List.length_append, Array.length_toList] at this ⊢
  exact this.symm
 refine ⟨by rw [cellsT_len], Or.inr ⟨g, cap, (cellsT l ++ (tcs u ++ cur.toList.drop ((l.length + 1) * 4))).toArray, by rw [hv, hlen, hlu], hb, hB2, by rw [hlu, ← hlen]; exact hn, hc, by rw [List.size_toArray, hsz, hs], ?_⟩⟩
 rw [hlu, ← List.append_assoc, ← ecu]
 exact List.take_left' (by rw [cellsT_len, hlu])
def isWordB (t : Tok) (s : List UInt8) : Bool := (decide (t.k = 1) || decide (t.k = 3)) && decide (t.s = s)
theorem iword_any (t : Tok) (s : List UInt8) (w : World) : Calls Tryz.prog 150 #[tv t, .string ⟨s.toArray⟩] w fun e w' => e = .returned (.bool (isWordB t s)) ∧ Below w.heap.size w w' := by
 obtain ⟨k, n, p, x⟩ := t
 have hq : ∀ b, decide (x = s) = b → (x == s) = b := fun b h => by rw [← h]; by_cases e : x = s <;> simp [e]
 cases hd : decide (x = s) with
 | true =>
  have he := hq _ hd
  by_cases h1 : k = 1
  ·have hf := hid (show isWordB ⟨k, n, p, x⟩ s = true by unfold isWordB; rw [hd]; simp [h1])
   subst h1
   clear hd hq
   go_enter Tryz.func150, Tryz.ntmps150
   go_wp2_with fail
   go_ret
   exact ⟨by rw [hf.out]; rfl, (Below.refl _ _).alloc (Nat.le_refl _) _⟩
  ·have e1 : (k == 1) = false := beq_false_of_ne h1
   by_cases h3 : k = 3
   ·have hf := hid (show isWordB ⟨k, n, p, x⟩ s = true by unfold isWordB; rw [hd]; simp [h3])
    subst h3
    clear hd hq h1 e1
    go_enter Tryz.func150, Tryz.ntmps150
    go_wp2_with fail
    go_ret
    exact ⟨by rw [hf.out]; rfl, (Below.refl _ _).alloc (Nat.le_refl _) _⟩
   ·have e3 : (k == 3) = false := beq_false_of_ne h3
    have hf := hid (show isWordB ⟨k, n, p, x⟩ s = false by unfold isWordB; rw [hd]; simp [h1, h3])
    clear hd hq h1 h3
    go_enter Tryz.func150, Tryz.ntmps150
    go_wp2_with fail
    go_ret
    exact ⟨by rw [hf.out]; rfl, (Below.refl _ _).alloc (Nat.le_refl _) _⟩
 | false =>
  have he := hq _ hd
  have hf := hid (show isWordB ⟨k, n, p, x⟩ s = false by unfold isWordB; rw [hd]; simp)
  by_cases h1 : k = 1
  ·subst h1
   clear hd hq
   go_enter Tryz.func150, Tryz.ntmps150
   go_wp2_with fail
   go_ret
   exact ⟨by rw [hf.out]; rfl, (Below.refl _ _).alloc (Nat.le_refl _) _⟩
  ·have e1 : (k == 1) = false := beq_false_of_ne h1
   by_cases h3 : k = 3
   ·subst h3
    clear hd hq h1 e1
    go_enter Tryz.func150, Tryz.ntmps150
    go_wp2_with fail
    go_ret
    exact ⟨by rw [hf.out]; rfl, (Below.refl _ _).alloc (Nat.le_refl _) _⟩
   ·have e3 : (k == 3) = false := beq_false_of_ne h3
    clear hd hq h1 h3
    go_enter Tryz.func150, Tryz.ntmps150
    go_wp2_with fail
    go_ret
    exact ⟨by rw [hf.out]; rfl, (Below.refl _ _).alloc (Nat.le_refl _) _⟩
def NameS (s : List UInt8) : Prop := ∃ b r, s = b :: r ∧ isLow b = true ∧ (∀ x ∈ b :: r, isWd x = true) ∧ (b :: r).length ≤ 8
def SymS (s : List UInt8) : Prop := (∃ b, s = [b] ∧ b.toNat ∈ ones) ∨ ∃ b, s = [b, 61] ∧ (b.toNat = 61 ∨ b.toNat = 58)
def GoodT (t : Tok) : Prop := (t.k = 1 ∧ t.n = 0 ∧ NameS t.s) ∨ (t.k = 2 ∧ 0 ≤ t.n ∧ t.n < 4 ∧ t.s = []) ∨ (t.k = 3 ∧ t.n = 0 ∧ SymS t.s)
theorem low_wd {b : UInt8} (h : isLow b = true) : isWd b = true := by unfold isWd; rw [h]; rfl
theorem take_word (s : List UInt8) : s.take (wordLen s) = s.takeWhile isWd := (List.prefix_iff_eq_take.1 (List.takeWhile_prefix isWd)).symm
theorem mem_takeWhile {p : UInt8 → Bool} : ∀ {s : List UInt8} {x : UInt8}, x ∈ s.takeWhile p → p x = true
 | b :: r, x, h => by
  rw [List.takeWhile_cons] at h
  split at h
  ·rename_i hb
   rcases List.mem_cons.1 h with rfl | h
   ·exact hb
   ·exact mem_takeWhile h
  ·cases h
theorem tokV_p (b : UInt8) (r : List UInt8) (p : Int) : (tokV b r p).p = p := by
 unfold tokV
 split
 ·rfl
 ·split <;> rfl
theorem tokV_good {b : UInt8} {r : List UInt8} (p : Int) (h : tokL b r ≠ 0) : GoodT (tokV b r p) := by
 unfold tokL at h
 unfold tokV
 split at h
 ·rename_i hb
  rw [if_pos hb]
  split at h
  ·rename_i h8
   refine Or.inl ⟨rfl, rfl, ?_⟩
   show NameS ((b :: r).take (wordLen (b :: r)))
   rw [take_word, List.takeWhile_cons, if_pos (low_wd hb)]
   refine ⟨b, _, rfl, hb, fun x hx => ?_, ?_⟩
   ·rcases List.mem_cons.1 hx with rfl | hx
    ·exact low_wd hb
    ·exact mem_takeWhile hx
   ·unfold wordLen at h8
    rw [List.takeWhile_cons, if_pos (low_wd hb)] at h8
    exact h8
  ·exact absurd rfl h
 ·rename_i hb
  rw [if_neg hb]
  split at h
  ·rename_i hd
   rw [if_pos hd]
   split at h
   ·rename_i hn
    obtain ⟨d0, d1⟩ := isDig_bounds hd
    unfold numOk at hn
    rw [Bool.and_eq_true, decide_eq_true_eq] at hn
    exact Or.inr (Or.inl ⟨rfl, show (0 : Int) ≤ (b.toNat : Int) - 48 by omega, show (b.toNat : Int) - 48 < 4 by omega, rfl⟩)
   ·exact absurd rfl h
  ·rename_i hd
   rw [if_neg hd]
   refine Or.inr (Or.inr ⟨rfl, rfl, ?_⟩)
   show SymS ((b :: r).take (symL b r))
   unfold symL at h ⊢
   split at h
   ·rename_i h1
    rw [if_pos h1]
    exact Or.inl ⟨b, rfl, h1⟩
   ·rename_i h1
    rw [if_neg h1]
    split at h
    ·rename_i h2
     rw [if_pos h2]
     cases r with
     | nil => simp at h2
     | cons c q =>
      have hc : c = 61 := UInt8.toNat_inj.1 (by have := h2.2; simpa using this)
      subst hc
      exact Or.inr ⟨b, rfl, h2.1⟩
    ·exact absurd rfl h
theorem low_cls {b : UInt8} (h : isLow b = true) : isSep b = false := by
 simp only [isLow, Bool.and_eq_true, decide_eq_true_eq] at h
 simp [isSep]; omega
theorem dig_cls {b : UInt8} (h : isDig b = true) : isSep b = false ∧ isLow b = false := by
 obtain ⟨h1, h2⟩ := isDig_bounds h
 simp [isSep, isLow]; omega
theorem ones_cls {b : UInt8} (h : b.toNat ∈ ones) : isSep b = false ∧ isLow b = false ∧ isDig b = false := by
 simp only [ones, List.mem_cons, List.not_mem_nil, or_false] at h
 simp [isSep, isLow, isDig]; omega
theorem two_cls {b : UInt8} (h : b.toNat = 61 ∨ b.toNat = 58) : isSep b = false ∧ isLow b = false ∧ isDig b = false ∧ ¬ b.toNat ∈ ones := by
 refine ⟨?_, ?_, ?_, ?_⟩
 ·simp [isSep]; omega
 ·simp [isLow]; omega
 ·simp [isDig]; omega
 ·simp only [ones, List.mem_cons, List.not_mem_nil, or_false]; omega
theorem tokz_good {S : List UInt8} (h : S.length ≤ 400) : ∀ t ∈ (tokz S).1, GoodT t ∧ 0 ≤ t.p ∧ t.p < (S.length : Int) := by
 rw [tokz_small h]
 exact (lex_inv (P := fun t => GoodT t ∧ 0 ≤ t.p ∧ t.p < (S.length : Int)) S.length S.length S 0 [] (Nat.le_refl _) (by omega) (by simp) (by simp) (fun b r a _ h2 h3 => ⟨tokV_good _ h2, by rw [tokV_p]; omega, by rw [tokV_p]; omega⟩)).2
theorem tokz_bad {S : List UInt8} (h : (tokz S).2 ≠ -1) : (tokz S).1 = [] ∧ 0 ≤ (tokz S).2 := by
 unfold tokz at *
 split at h
 ·rename_i hb
  rw [if_pos hb]
  exact ⟨rfl, by decide⟩
 ·rename_i hb
  rw [if_neg hb]
  rcases lex_end S.length S 0 [] (Nat.le_refl _) with h1 | ⟨h1, _, h3⟩
  ·exact absurd h1 h
  ·exact ⟨h3, by simpa using h1⟩
theorem good_len {t : Tok} (h : GoodT t) : t.s.length ≤ 8 := by
 rcases h with ⟨_, _, b, r, hs, _, _, h8⟩ | ⟨_, _, _, hs⟩ | ⟨_, _, ⟨b, hs, _⟩ | ⟨b, hs, _⟩⟩ <;> rw [hs]
 ·exact h8
 ·simp
 ·simp
 ·simp
end Go.Proofs.YtiogceepjffmkaaGreatDoor.Tk
