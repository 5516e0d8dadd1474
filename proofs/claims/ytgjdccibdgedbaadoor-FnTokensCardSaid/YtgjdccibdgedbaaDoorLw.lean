/- What the walks over a text's bytes need. -/
import Derived.Test.YtgjdccibdgedbaaDoorLx
import Derived.Laws.ResultCell
import Derived.Laws.Rows
set_option maxRecDepth 100000
namespace Go.Proofs.YtgjdccibdgedbaaDoor.Tk
open Go.RowKit Go.Lib Go.Proofs.YtgjdccibdgedbaaDoor.Num Go.Proofs.YtgjdccibdgedbaaDoor.Mem Go.Proofs.YtgjdccibdgedbaaDoor.Ch

/-- byte number a of a text, as the walks spell it -/
abbrev bt (S : List UInt8) (a : Nat) (h : a < S.length) : UInt8 := ({ data := S.toArray } : ByteArray)[a]'h
theorem head_drop (S : List UInt8) (a : Nat) : (S.drop a).head? = S[a]? := by simp
theorem wordLen_eq {S : List UInt8} {a k : Nat} (h : ∀ j, a ≤ j → j < k → ∀ hs : j < S.length, isWd S[j] = true) (ha : a ≤ k) (hk : k ≤ S.length) (he : ∀ hs : k < S.length, isWd S[k] = false) : wordLen (S.drop a) = k - a := by
  unfold wordLen
  obtain ⟨d, rfl⟩ : ∃ d, k = a + d := ⟨k - a, by omega⟩
  induction d generalizing a with
  | zero =>
    rcases Nat.lt_or_ge a S.length with hl | hl
    · rw [drop_at hl, List.takeWhile_cons, if_neg (by have := he hl; simp only [Nat.add_zero] at this; simp [this])]
      simp
    · rw [List.drop_eq_nil_of_le hl]; simp
  | succ d ih =>
    have hl : a < S.length := by omega
    rw [drop_at hl, List.takeWhile_cons, if_pos (h a (Nat.le_refl _) (by omega) hl), List.length_cons]
    have := ih (a := a + 1) (fun j h1 h2 h3 => h j (by omega) (by omega) h3) (by omega) (by omega) (fun hs => (show ∀ q (hq : q < S.length), q = a + (d + 1) → isWd S[q] = false from fun q hq e => by subst e; exact he hq) _ hs (by omega))
    rw [this]; omega
theorem results_cell2 {P : Program} {fn : Func} {p u : Tmp} {ty : TypeId} (h : fn.results = #[.cell p ty, .tmp u]) (tmps : Array Value) (w : World) (g : Nat) (t : TypeId) (cs : Array Value) (fr : Nat × Nat) (d : TypeDesc)
    (hp : tmps.getD p undef = .pointer (some ⟨g, 0, none⟩)) (hg : w.heap[g]? = some (.cells cs t fr))
    (hu : P.underlying ty = some d) (hd : (match d with | .struct _ | .array _ _ => true | _ => false) = true) (hi : (P.info? ty).map (·.size) = some cs.size) :
    (results fn tmps).run P w = .ok (.tuple #[.agg cs, tmps.getD u undef]) w := by
  rw [results_cell_tmp h, hp]
  simp [asAddr, run_loadVar_row w g t ty cs fr d hg hu hd hi, Result.andThen]
theorem txt_cut (S : List UInt8) (a k : Nat) : ({ data := S.toArray } : ByteArray).extract a k = { data := ((S.drop a).take (k - a)).toArray } := by
  apply ByteArray.ext; rw [ByteArray.data_extract]; simp [List.extract_eq_take_drop]
theorem drop_bt {S : List UInt8} {a : Nat} (h : a < S.length) : S.drop a = bt S a h :: S.drop (a + 1) := drop_at h
/-- the texts from a on read so, whatever has been laid before -/
def Lay (S : List UInt8) (a : Nat) (out : List Tok) : Prop := lex (S.drop a) a out = lex S 0 []
theorem Lay.sep {S : List UInt8} {a : Nat} {out : List Tok} (h : Lay S a out) (hl : a < S.length) (hs : isSep (bt S a hl) = true) : Lay S (a + 1) out := by
  unfold Lay at *
  rw [drop_bt hl, lex_sep hs] at h
  exact h
theorem Lay.bad {S : List UInt8} {a : Nat} {out : List Tok} (h : Lay S a out) (hl : a < S.length) (hs : isSep (bt S a hl) = false) (h2 : tokL (bt S a hl) (S.drop (a + 1)) = 0 ∨ out.length = 150) : lex S 0 [] = (([], (a : Int)) : List Tok × Int) := by
  unfold Lay at h
  rw [drop_bt hl, lex_bad hs h2] at h
  exact h.symm
theorem Lay.tok {S : List UInt8} {a : Nat} {out : List Tok} (h : Lay S a out) (hl : a < S.length) (hs : isSep (bt S a hl) = false) (h2 : tokL (bt S a hl) (S.drop (a + 1)) ≠ 0) (h3 : out.length ≠ 150) :
    Lay S (a + tokL (bt S a hl) (S.drop (a + 1))) (out ++ [tokV (bt S a hl) (S.drop (a + 1)) a]) := by
  unfold Lay at *
  rw [drop_bt hl, lex_tok hs h2 h3, ← drop_bt hl, List.drop_drop] at h
  exact h
theorem Lay.end_ {S : List UInt8} {out : List Tok} (h : Lay S S.length out) : lex S 0 [] = (out, -1) := by
  unfold Lay at h
  rw [List.drop_length, lex_nil] at h
  exact h.symm
theorem sep_32 {b : UInt8} (h : isSep b = false) : ((b.toNat : Int) == 32) = false ∧ ((b.toNat : Int) == 10) = false := by
  simp only [isSep, Bool.or_eq_false_iff, decide_eq_false_iff_not] at h
  exact ⟨beq_eq_false_iff_ne.2 (by omega), beq_eq_false_iff_ne.2 (by omega)⟩
theorem tokz_small {S : List UInt8} (h : S.length ≤ 400) : tokz S = lex S 0 [] := by unfold tokz; rw [if_neg (by omega)]
theorem tokz_big {S : List UInt8} (h : 400 < S.length) : tokz S = ([], 400) := by unfold tokz; rw [if_pos h]
abbrev TokOk (S : List UInt8) (w : World) (e : Ending) (w' : World) : Prop :=
  ∃ r, e = .returned (.tuple #[r, .int .i64 (tokz S).2]) ∧ OwnT w.heap.size w'.heap.size w' r (tokz S).1 ∧ Below w.heap.size w w'
end Go.Proofs.YtgjdccibdgedbaaDoor.Tk
