/- Runs as a program's execution sees them: an execution's status (0 while it goes on), state, output and cost; statements one after another. -/
import Derived.Test.YtnmomlaimffonaaGreatZRn11
set_option maxRecDepth 100000
namespace Go.Proofs.YtnmomlaimffonaaGreat.Rn
open Go.RowKit Go.Lib Com Tr Gd
structure Ex1 where
  st : Int
  sg : List Int
  ou : List Int
  co : Nat
variable {V : List (List UInt8)} {f : Nat}
def runZ (V : List (List UInt8)) (f : Nat) (L : List St) (z : Ex1) : Ex1 :=
  if z.st = 0 then ⟨if (run V (f - z.co) L z.sg).st = 1 then 0 else (run V (f - z.co) L z.sg).st, (run V (f - z.co) L z.sg).sg, z.ou ++ (run V (f - z.co) L z.sg).ou, z.co + (run V (f - z.co) L z.sg).co⟩ else z
def evZ (V : List (List UInt8)) (f : Nat) (e : T) (z : Ex1) : Ex1 × Int :=
  if f ≤ z.co then (⟨3, z.sg, z.ou, z.co⟩, 0) else (⟨if (evT V z.sg e).2 = true then 0 else 2, z.sg, z.ou, z.co + 1⟩, (evT V z.sg e).1)
theorem runZ_off {L : List St} {z : Ex1} (h : z.st ≠ 0) : runZ V f L z = z := by unfold runZ; rw [if_neg h]
theorem runZ_nil (z : Ex1) : runZ V f [] z = z := by
  unfold runZ
  split
  · rename_i h
    rw [run_nil]
    obtain ⟨a, b, c, d⟩ := z
    dsimp only at h ⊢
    rw [if_pos rfl, List.append_nil, Nat.add_zero, h]
  · rfl
theorem run_st0 (n : Nat) (L : List St) (S : List Int) : (run V n L S).st ≠ 0 := by
  rcases run_st (V := V) n L S with h | h | h <;> rw [h] <;> decide
theorem runZ_app (L M : List St) (z : Ex1) : runZ V f (L ++ M) z = runZ V f M (runZ V f L z) := by
  by_cases h : z.st = 0
  · obtain ⟨a, S, o, c⟩ := z
    obtain rfl : a = 0 := h
    unfold runZ
    rw [if_pos rfl, if_pos rfl]
    dsimp only
    rw [run_app]
    by_cases h1 : (run V (f - c) L S).st = 1
    · rw [if_pos h1, if_pos h1, if_pos rfl, Nat.sub_sub]
      simp only [List.append_assoc, Nat.add_assoc]
    · rw [if_neg h1, if_neg h1, if_neg (show ¬ (run V (f - c) L S).st = 0 from run_st0 _ _ _)]
  · rw [runZ_off h, runZ_off h, runZ_off h]
theorem runZ_one {k : Int} {s : List UInt8} {e : T} {bs es : List St} {z : Ex1} (h : z.st = 0) : runZ V f [.mk k s e bs es] z =
    if (evZ V f e z).1.st = 0 then
      runZ V f (nextT V (evZ V f e z).2 z.sg (.mk k s e bs es) []).1 ⟨0, (nextT V (evZ V f e z).2 z.sg (.mk k s e bs es) []).2.1, z.ou ++ (nextT V (evZ V f e z).2 z.sg (.mk k s e bs es) []).2.2, z.co + 1⟩
    else (evZ V f e z).1 := by
  obtain ⟨a, S, o, c⟩ := z
  obtain rfl : a = 0 := h
  unfold evZ
  dsimp only
  by_cases hf : f ≤ c
  · rw [if_pos hf, if_neg (show ¬ (3 : Int) = 0 by decide)]
    unfold runZ
    dsimp only
    rw [if_pos rfl, show f - c = 0 by omega, run_zero, if_neg (show ¬ (3 : Int) = 1 by decide), List.append_nil]
    rfl
  · rw [if_neg hf]
    obtain ⟨n, hn⟩ : ∃ n, f - c = n + 1 := ⟨f - c - 1, by omega⟩
    by_cases hv : (evT V S e).2 = true
    · rw [if_pos hv, if_pos rfl]
      unfold runZ
      dsimp only
      rw [if_pos rfl, if_pos rfl, hn, run_go (a := .mk k s e bs es) hv (show nextT V (evT V S (St.e (.mk k s e bs es))).1 S (.mk k s e bs es) [] = nextT V (evT V S e).1 S (.mk k s e bs es) [] from rfl), show f - (c + 1) = n by omega]
      simp only [List.append_assoc, Ex1.mk.injEq, true_and]
      omega
    · rw [if_neg hv, if_neg (show ¬ (2 : Int) = 0 by decide)]
      unfold runZ
      dsimp only
      rw [if_pos rfl, hn, run_trap (a := .mk k s e bs es) hv, if_neg (show ¬ (2 : Int) = 1 by decide), List.append_nil]
theorem evZ_off {e : T} {z : Ex1} (h : (evZ V f e z).1.st ≠ 0) {k : Int} {s : List UInt8} {bs es : List St} (h0 : z.st = 0) : runZ V f [.mk k s e bs es] z = (evZ V f e z).1 := by rw [runZ_one h0, if_neg h]
theorem evZ_on {e : T} {z : Ex1} (h : (evZ V f e z).1.st = 0) : (evZ V f e z).1 = ⟨0, z.sg, z.ou, z.co + 1⟩ ∧ (evZ V f e z).2 = (evT V z.sg e).1 ∧ z.co < f := by
  unfold evZ at *
  by_cases hf : f ≤ z.co
  · rw [if_pos hf] at h; cases h
  · rw [if_neg hf] at h ⊢
    dsimp only at h ⊢
    by_cases hv : (evT V z.sg e).2 = true
    · rw [if_pos hv]; exact ⟨rfl, rfl, by omega⟩
    · rw [if_neg hv] at h; cases h
theorem runZ_asg {s : List UInt8} {e : T} {bs es : List St} {z : Ex1} (h : z.st = 0) (hv : (evZ V f e z).1.st = 0) : runZ V f [.mk 1 s e bs es] z = ⟨0, z.sg.set (C2.ixOf V s).toNat (evZ V f e z).2, z.ou, z.co + 1⟩ := by
  rw [runZ_one h, if_pos hv, next_mk, if_pos rfl]
  dsimp only
  rw [runZ_nil, List.append_nil]
theorem runZ_emit {s : List UInt8} {e : T} {bs es : List St} {z : Ex1} (h : z.st = 0) (hv : (evZ V f e z).1.st = 0) : runZ V f [.mk 4 s e bs es] z = ⟨0, z.sg, z.ou ++ [(evZ V f e z).2], z.co + 1⟩ := by
  rw [runZ_one h, if_pos hv, next_mk, if_neg (by decide), if_pos rfl]
  dsimp only
  rw [runZ_nil]
theorem runZ_if {s : List UInt8} {e : T} {bs es : List St} {z : Ex1} (h : z.st = 0) (hv : (evZ V f e z).1.st = 0) : runZ V f [.mk 2 s e bs es] z = runZ V f (if (evZ V f e z).2 = 0 then es else bs) (evZ V f e z).1 := by
  rw [runZ_one h, if_pos hv, next_mk, if_neg (by decide), if_neg (by decide), if_pos rfl, (evZ_on hv).1]
  dsimp only
  rw [List.append_nil, List.append_nil]
def loopZ (V : List (List UInt8)) (f : Nat) (w : St) (bs : List St) (v : Int) (z : Ex1) : Ex1 := if z.st = 0 then (if v = 0 then z else runZ V f [w] (runZ V f bs z)) else z
theorem runZ_while {s : List UInt8} {e : T} {bs es : List St} {z : Ex1} (h : z.st = 0) : runZ V f [.mk 3 s e bs es] z = loopZ V f (.mk 3 s e bs es) bs (evZ V f e z).2 (evZ V f e z).1 := by
  unfold loopZ
  by_cases hv : (evZ V f e z).1.st = 0
  · rw [if_pos hv, runZ_one h, if_pos hv, next_mk, if_neg (by decide), if_neg (by decide), if_neg (by decide), if_pos rfl, (evZ_on hv).1]
    dsimp only
    rw [List.append_nil]
    by_cases h0 : (evZ V f e z).2 = 0
    · rw [if_pos h0, if_pos h0, runZ_nil]
    · rw [if_neg h0, if_neg h0, runZ_app]
  · rw [if_neg hv, evZ_off hv h]
theorem loopZ_step {s : List UInt8} {e : T} {bs es : List St} {z : Ex1} {v : Int} (h : z.st = 0) (hv : v ≠ 0) (h1 : (runZ V f bs z).st = 0) : loopZ V f (.mk 3 s e bs es) bs v z = loopZ V f (.mk 3 s e bs es) bs (evZ V f e (runZ V f bs z)).2 (evZ V f e (runZ V f bs z)).1 := by
  rw [← runZ_while h1]
  unfold loopZ
  rw [if_pos h, if_neg hv]
theorem loopZ_stop {s : List UInt8} {e : T} {bs es : List St} {z : Ex1} {v : Int} (h : z.st = 0) (hv : v ≠ 0) (h1 : (runZ V f bs z).st ≠ 0) : loopZ V f (.mk 3 s e bs es) bs v z = runZ V f bs z := by
  unfold loopZ
  rw [if_pos h, if_neg hv, runZ_off h1]
theorem loopZ_off {w : St} {bs : List St} {z : Ex1} {v : Int} (h : z.st ≠ 0) : loopZ V f w bs v z = z := by unfold loopZ; rw [if_neg h]
theorem loopZ_end {w : St} {bs : List St} {z : Ex1} : loopZ V f w bs 0 z = z := by
  unfold loopZ
  split
  · rw [if_pos rfl]
  · rfl
theorem runZ_co {L : List St} {z : Ex1} (h : z.co ≤ f) : z.co ≤ (runZ V f L z).co ∧ (runZ V f L z).co ≤ f := by
  unfold runZ
  split
  · have := run_co (V := V) (f - z.co) L z.sg
    exact ⟨by dsimp only; omega, by dsimp only; omega⟩
  · exact ⟨Nat.le_refl _, h⟩
theorem evZ_co {e : T} {z : Ex1} (h : z.co ≤ f) : z.co ≤ (evZ V f e z).1.co ∧ (evZ V f e z).1.co ≤ f := by
  unfold evZ
  split
  · exact ⟨Nat.le_refl _, h⟩
  · exact ⟨by dsimp only; omega, by dsimp only; omega⟩
theorem runZ_start (L : List St) (S : List Int) : runZ V f L ⟨0, S, [], 0⟩ = ⟨if (run V f L S).st = 1 then 0 else (run V f L S).st, (run V f L S).sg, (run V f L S).ou, (run V f L S).co⟩ := by
  unfold runZ
  rw [if_pos rfl]
  dsimp only
  rw [Nat.sub_zero, List.nil_append, Nat.zero_add]
theorem next_len (v : Int) (S : List Int) (a : St) (r : List St) : (nextT V v S a r).2.1.length = S.length := by
  obtain ⟨k, s, e, bs, es⟩ := a
  rw [next_mk]
  by_cases h1 : k = 1
  · rw [if_pos h1]; exact List.length_set ..
  by_cases h4 : k = 4
  · rw [if_neg h1, if_pos h4]
  by_cases h2 : k = 2
  · rw [if_neg h1, if_neg h4, if_pos h2]
  by_cases h3 : k = 3
  · rw [if_neg h1, if_neg h4, if_neg h2, if_pos h3]
  · rw [if_neg h1, if_neg h4, if_neg h2, if_neg h3]
theorem run_len (n : Nat) : ∀ (L : List St) (S : List Int), (run V n L S).sg.length = S.length := by
  induction n with
  | zero => intro L S; cases L with
    | nil => rw [run_nil]
    | cons a r => rfl
  | succ n ih => intro L S; cases L with
    | nil => rw [run_nil]
    | cons a r =>
      by_cases hv : (evT V S (St.e a)).2 = true
      · rw [run_go hv rfl]
        exact (ih _ _).trans (next_len ..)
      · rw [run_trap hv]
theorem runZ_len (L : List St) (z : Ex1) : (runZ V f L z).sg.length = z.sg.length := by
  unfold runZ
  split
  · exact run_len ..
  · rfl
theorem evZ_len (e : T) (z : Ex1) : (evZ V f e z).1.sg.length = z.sg.length := by
  unfold evZ
  split <;> rfl
theorem runZ_take {L : List St} {m : Nat} {z : Ex1} (h : (runZ V f (L.take m) z).st ≠ 0) : runZ V f L z = runZ V f (L.take m) z := by
  conv => lhs; rw [← List.take_append_drop m L]
  rw [runZ_app, runZ_off h]
theorem runZ_next {L : List St} {m : Nat} (hm : m < L.length) (z : Ex1) : runZ V f (L.take (m + 1)) z = runZ V f [L[m]] (runZ V f (L.take m) z) := by
  rw [List.take_succ_eq_append_getElem hm, runZ_app]
theorem runZ_ou {L : List St} {z : Ex1} (h : z.ou.length ≤ z.co) : (runZ V f L z).ou.length ≤ (runZ V f L z).co := by
  unfold runZ
  split
  · have := run_ou (V := V) (f - z.co) L z.sg
    dsimp only
    rw [List.length_append]; omega
  · exact h
theorem evZ_ou {e : T} {z : Ex1} (h : z.ou.length ≤ z.co) : (evZ V f e z).1.ou.length ≤ (evZ V f e z).1.co := by
  unfold evZ
  split
  · exact h
  · exact Nat.le_succ_of_le h
end Go.Proofs.YtnmomlaimffonaaGreat.Rn
