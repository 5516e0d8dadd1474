/- Running statements, step by step: a list of statements that are still to come, a state; one step an evaluation. More fuel; the steps of a list behind another. -/
import Derived.Test.YtnmomlaimffonaaGreatZEv
set_option maxRecDepth 100000
namespace Go.Proofs.YtnmomlaimffonaaGreat.Rn
open Go.RowKit Go.Lib Com Tr Gd
structure Res where
  st : Int
  sg : List Int
  ou : List Int
  co : Nat
def nextT (V : List (List UInt8)) (v : Int) (S : List Int) : St → List St → List St × List Int × List Int
  | .mk k s e bs es, r =>
    if k = 1 then (r, S.set (C2.ixOf V s).toNat v, [])
    else if k = 4 then (r, S, [v])
    else if k = 2 then ((if v = 0 then es else bs) ++ r, S, [])
    else if k = 3 then (if v = 0 then r else bs ++ .mk k s e bs es :: r, S, [])
    else (r, S, [])
abbrev St.e : St → T
  | .mk _ _ e _ _ => e
def run (V : List (List UInt8)) : Nat → List St → List Int → Res
  | 0, [], S => ⟨1, S, [], 0⟩
  | 0, _ :: _, S => ⟨3, S, [], 0⟩
  | _ + 1, [], S => ⟨1, S, [], 0⟩
  | n + 1, a :: r, S =>
    if (evT V S (St.e a)).2 = true then
      ⟨(run V n (nextT V (evT V S (St.e a)).1 S a r).1 (nextT V (evT V S (St.e a)).1 S a r).2.1).st, (run V n (nextT V (evT V S (St.e a)).1 S a r).1 (nextT V (evT V S (St.e a)).1 S a r).2.1).sg, (nextT V (evT V S (St.e a)).1 S a r).2.2 ++ (run V n (nextT V (evT V S (St.e a)).1 S a r).1 (nextT V (evT V S (St.e a)).1 S a r).2.1).ou, (run V n (nextT V (evT V S (St.e a)).1 S a r).1 (nextT V (evT V S (St.e a)).1 S a r).2.1).co + 1⟩
    else ⟨2, S, [], 1⟩
variable {V : List (List UInt8)}
theorem next_mk (v : Int) (S : List Int) (k : Int) (s : List UInt8) (e : T) (bs es r : List St) : nextT V v S (.mk k s e bs es) r =
    if k = 1 then (r, S.set (C2.ixOf V s).toNat v, [])
    else if k = 4 then (r, S, [v])
    else if k = 2 then ((if v = 0 then es else bs) ++ r, S, [])
    else if k = 3 then (if v = 0 then r else bs ++ .mk k s e bs es :: r, S, [])
    else (r, S, []) := rfl
theorem run_nil (n : Nat) (S : List Int) : run V n [] S = ⟨1, S, [], 0⟩ := by cases n <;> rfl
theorem run_zero (a : St) (r : List St) (S : List Int) : run V 0 (a :: r) S = ⟨3, S, [], 0⟩ := rfl
theorem run_trap {n : Nat} {a : St} {r : List St} {S : List Int} (h : (evT V S (St.e a)).2 ≠ true) : run V (n + 1) (a :: r) S = ⟨2, S, [], 1⟩ := by
  rw [run, if_neg h]
theorem run_go {n : Nat} {a : St} {r : List St} {S : List Int} (h : (evT V S (St.e a)).2 = true) {q : List St × List Int × List Int} (hq : nextT V (evT V S (St.e a)).1 S a r = q) : run V (n + 1) (a :: r) S = ⟨(run V n q.1 q.2.1).st, (run V n q.1 q.2.1).sg, q.2.2 ++ (run V n q.1 q.2.1).ou, (run V n q.1 q.2.1).co + 1⟩ := by
  subst hq
  rw [run, if_pos h]
theorem run_st (n : Nat) : ∀ (L : List St) (S : List Int), (run V n L S).st = 1 ∨ (run V n L S).st = 2 ∨ (run V n L S).st = 3 := by
  induction n with
  | zero => intro L S; cases L with
    | nil => exact Or.inl (by rw [run_nil])
    | cons a r => exact Or.inr (Or.inr rfl)
  | succ n ih => intro L S; cases L with
    | nil => exact Or.inl (by rw [run_nil])
    | cons a r =>
      by_cases h : (evT V S (St.e a)).2 = true
      · rw [run_go h rfl]; exact ih _ _
      · rw [run_trap h]; exact Or.inr (Or.inl rfl)
theorem run_co (n : Nat) : ∀ (L : List St) (S : List Int), (run V n L S).co ≤ n := by
  induction n with
  | zero => intro L S; cases L with
    | nil => rw [run_nil]; exact Nat.le_refl _
    | cons a r => exact Nat.le_refl _
  | succ n ih => intro L S; cases L with
    | nil => rw [run_nil]; exact Nat.zero_le _
    | cons a r =>
      by_cases h : (evT V S (St.e a)).2 = true
      · rw [run_go h rfl]; exact Nat.succ_le_succ (ih _ _)
      · rw [run_trap h]; exact Nat.succ_le_succ (Nat.zero_le _)
theorem next_ou (v : Int) (S : List Int) (a : St) (r : List St) : (nextT V v S a r).2.2.length ≤ 1 := by
  obtain ⟨k, s, e, bs, es⟩ := a
  rw [next_mk]
  by_cases h1 : k = 1
  · rw [if_pos h1]; simp
  by_cases h4 : k = 4
  · rw [if_neg h1, if_pos h4]; simp
  by_cases h2 : k = 2
  · rw [if_neg h1, if_neg h4, if_pos h2]; simp
  by_cases h3 : k = 3
  · rw [if_neg h1, if_neg h4, if_neg h2, if_pos h3]; simp
  · rw [if_neg h1, if_neg h4, if_neg h2, if_neg h3]; simp
theorem run_ou (n : Nat) : ∀ (L : List St) (S : List Int), (run V n L S).ou.length ≤ (run V n L S).co := by
  induction n with
  | zero => intro L S; cases L with
    | nil => rw [run_nil]; exact Nat.le_refl _
    | cons a r => exact Nat.le_refl _
  | succ n ih => intro L S; cases L with
    | nil => rw [run_nil]; exact Nat.le_refl _
    | cons a r =>
      by_cases h : (evT V S (St.e a)).2 = true
      · rw [run_go h rfl]
        have h1 := next_ou (V := V) (evT V S (St.e a)).1 S a r
        have h2 := ih (nextT V (evT V S (St.e a)).1 S a r).1 (nextT V (evT V S (St.e a)).1 S a r).2.1
        dsimp only
        rw [List.length_append]
        omega
      · rw [run_trap h]; exact Nat.zero_le _
theorem run_more (n : Nat) : ∀ (L : List St) (S : List Int), (run V n L S).st ≠ 3 → run V (n + 1) L S = run V n L S := by
  induction n with
  | zero => intro L S h; cases L with
    | nil => rw [run_nil, run_nil]
    | cons a r => exact absurd rfl h
  | succ n ih => intro L S h; cases L with
    | nil => rw [run_nil, run_nil]
    | cons a r =>
      by_cases hv : (evT V S (St.e a)).2 = true
      · rw [run_go hv rfl] at h
        rw [run_go (n := n + 1) hv rfl, ih _ _ h, run_go hv rfl]
      · rw [run_trap hv, run_trap hv]
theorem run_less (n : Nat) : ∀ (L : List St) (S : List Int), (run V n L S).st = 3 → (run V n L S).co = n ∧ (run V (n + 1) L S).co = n + 1 ∧ ∃ t, (run V (n + 1) L S).ou = (run V n L S).ou ++ t := by
  induction n with
  | zero => intro L S h; cases L with
    | nil => rw [run_nil] at h; cases h
    | cons a r =>
      refine ⟨rfl, ?_, ⟨(run V 1 (a :: r) S).ou, by rw [run_zero]; rfl⟩⟩
      by_cases hv : (evT V S (St.e a)).2 = true
      · rw [run_go hv rfl]
        have := run_co (V := V) 0 (nextT V (evT V S (St.e a)).1 S a r).1 (nextT V (evT V S (St.e a)).1 S a r).2.1
        dsimp only
        omega
      · rw [run_trap hv]
  | succ n ih => intro L S h; cases L with
    | nil => rw [run_nil] at h; cases h
    | cons a r =>
      by_cases hv : (evT V S (St.e a)).2 = true
      · rw [run_go hv rfl] at h
        obtain ⟨h1, h2, t, h3⟩ := ih _ _ h
        rw [run_go hv rfl, run_go (n := n + 1) hv rfl]
        refine ⟨by dsimp only; omega, by dsimp only; omega, t, ?_⟩
        dsimp only
        rw [h3, List.append_assoc]
      · rw [run_trap hv] at h; cases h
theorem next_app (v : Int) (S : List Int) (a : St) (q r : List St) : nextT V v S a (q ++ r) = ((nextT V v S a q).1 ++ r, (nextT V v S a q).2) := by
  obtain ⟨k, s, e, bs, es⟩ := a
  rw [next_mk, next_mk]
  by_cases h1 : k = 1
  · rw [if_pos h1, if_pos h1]
  by_cases h4 : k = 4
  · rw [if_neg h1, if_pos h4, if_neg h1, if_pos h4]
  by_cases h2 : k = 2
  · rw [if_neg h1, if_neg h4, if_pos h2, if_neg h1, if_neg h4, if_pos h2, List.append_assoc]
  by_cases h3 : k = 3
  · rw [if_neg h1, if_neg h4, if_neg h2, if_pos h3, if_neg h1, if_neg h4, if_neg h2, if_pos h3]
    by_cases h : v = 0
    · rw [if_pos h, if_pos h]
    · rw [if_neg h, if_neg h, List.append_assoc, List.cons_append]
  · rw [if_neg h1, if_neg h4, if_neg h2, if_neg h3, if_neg h1, if_neg h4, if_neg h2, if_neg h3]
theorem run_app (n : Nat) : ∀ (L r : List St) (S : List Int), run V n (L ++ r) S = if (run V n L S).st = 1 then ⟨(run V (n - (run V n L S).co) r (run V n L S).sg).st, (run V (n - (run V n L S).co) r (run V n L S).sg).sg, (run V n L S).ou ++ (run V (n - (run V n L S).co) r (run V n L S).sg).ou, (run V n L S).co + (run V (n - (run V n L S).co) r (run V n L S).sg).co⟩ else run V n L S := by
  induction n with
  | zero => intro L r S; cases L with
    | nil => rw [run_nil, if_pos rfl, List.nil_append]; simp
    | cons a q => rw [List.cons_append, run_zero, run_zero, if_neg (show ¬ (3 : Int) = 1 by decide)]
  | succ n ih => intro L r S; cases L with
    | nil => rw [run_nil, if_pos rfl, List.nil_append]; simp
    | cons a q =>
      rw [List.cons_append]
      by_cases hv : (evT V S (St.e a)).2 = true
      · rw [run_go hv (next_app ..), run_go hv rfl]
        dsimp only
        rw [ih]
        generalize nextT V (evT V S (St.e a)).1 S a q = y
        by_cases h1 : (run V n y.1 y.2.1).st = 1
        · rw [if_pos h1, if_pos h1]
          have hc := run_co (V := V) n y.1 y.2.1
          rw [show n + 1 - ((run V n y.1 y.2.1).co + 1) = n - (run V n y.1 y.2.1).co by omega]
          simp only [Res.mk.injEq, List.append_assoc, true_and]
          omega
        · rw [if_neg h1, if_neg h1]
      · rw [run_trap hv, run_trap hv, if_neg (show ¬ (2 : Int) = 1 by decide)]
end Go.Proofs.YtnmomlaimffonaaGreat.Rn
