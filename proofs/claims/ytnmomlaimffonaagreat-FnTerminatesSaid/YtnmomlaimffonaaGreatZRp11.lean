/- How many steps a run that ends has: its configurations are all different, and there are not many. -/
import Derived.Test.YtnmomlaimffonaaGreatZRn11
set_option maxRecDepth 100000
namespace Go.Proofs.YtnmomlaimffonaaGreat.Rn
open Go.RowKit Go.Lib Com Tr Gd
mutual
def posS : St → List St → List (List St)
  | .mk k s e bs es, r => (.mk k s e bs es :: r) :: (posL bs (if k = 3 then .mk k s e bs es :: r else r) ++ posL es r)
def posL : List St → List St → List (List St)
  | [], _ => []
  | a :: q, r => posS a (q ++ r) ++ posL q r
end
theorem posS_mk (k : Int) (s : List UInt8) (e : T) (bs es r : List St) : posS (.mk k s e bs es) r = (.mk k s e bs es :: r) :: (posL bs (if k = 3 then .mk k s e bs es :: r else r) ++ posL es r) := by rw [posS]
theorem pos_len (L : List St) : ∀ r, (posL L r).length = cntL L := by
  have sub : ∀ L : List St, (∀ a ∈ L, ∀ r, (posS a r).length = cntSt a) → ∀ r, (posL L r).length = cntL L := fun L h => by
    induction L with
    | nil => intro r; rw [posL, cntL]; rfl
    | cons a q ih =>
      intro r
      rw [posL, cntL, List.length_append, h a (by simp), ih fun b hb => h b (by simp [hb])]
  have key : ∀ t : St, ∀ r, (posS t r).length = cntSt t := fun t => by
    induction t using St.ind with
    | h k s e bs es h1 h2 =>
      intro r
      rw [posS_mk, List.length_cons, List.length_append, sub bs h1, sub es h2, cntSt]
      omega
  exact sub L fun a _ => key a
theorem pos_head {L r : List St} (h : L ≠ []) : L ++ r ∈ posL L r := by
  cases L with
  | nil => exact absurd rfl h
  | cons a q =>
    rw [posL]
    obtain ⟨k, s, e, bs, es⟩ := a
    rw [posS_mk]
    simp
theorem pos_or (L r : List St) : L ++ r ∈ posL L r ∨ L ++ r = r := by
  by_cases h : L = []
  · exact Or.inr (by rw [h]; rfl)
  · exact Or.inl (pos_head h)
theorem pos_next {V : List (List UInt8)} (L : List St) : ∀ (r : List St) (a : St) (q : List St), a :: q ∈ posL L r → ∀ (v : Int) (S : List Int), (nextT V v S a q).1 ∈ posL L r ∨ (nextT V v S a q).1 = r := by
  have sub : ∀ L : List St, (∀ t ∈ L, ∀ (r : List St) (a : St) (q : List St), a :: q ∈ posS t r → ∀ (v : Int) (S : List Int), (nextT V v S a q).1 ∈ posS t r ∨ (nextT V v S a q).1 = r) →
      ∀ (r : List St) (a : St) (q : List St), a :: q ∈ posL L r → ∀ (v : Int) (S : List Int), (nextT V v S a q).1 ∈ posL L r ∨ (nextT V v S a q).1 = r := fun L h => by
    induction L with
    | nil => intro r a q hm; rw [posL] at hm; cases hm
    | cons t p ih =>
      intro r a q hm v S
      rw [posL, List.mem_append] at hm
      rw [posL, List.mem_append]
      rcases hm with hm | hm
      · rcases h t (by simp) _ a q hm v S with h1 | h1
        · exact Or.inl (Or.inl h1)
        · rcases pos_or p r with h2 | h2
          · exact Or.inl (Or.inr (by rw [h1]; exact h2))
          · exact Or.inr (by rw [h1, h2])
      · rcases ih (fun b hb => h b (by simp [hb])) r a q hm v S with h1 | h1
        · exact Or.inl (Or.inr h1)
        · exact Or.inr h1
  have key : ∀ t : St, ∀ (r : List St) (a : St) (q : List St), a :: q ∈ posS t r → ∀ (v : Int) (S : List Int), (nextT V v S a q).1 ∈ posS t r ∨ (nextT V v S a q).1 = r := fun t => by
    induction t using St.ind with
    | h k s e bs es h1 h2 =>
      intro r a q hm v S
      rw [posS_mk, List.mem_cons, List.mem_append] at hm
      rw [posS_mk, List.mem_cons, List.mem_append]
      rcases hm with hm | hm | hm
      · obtain ⟨rfl, rfl⟩ := List.cons.inj hm
        rw [next_mk]
        by_cases k1 : k = 1
        · rw [if_pos k1]; exact Or.inr rfl
        by_cases k4 : k = 4
        · rw [if_neg k1, if_pos k4]; exact Or.inr rfl
        by_cases k2 : k = 2
        · rw [if_neg k1, if_neg k4, if_pos k2, if_neg (show ¬ k = 3 by omega)]
          dsimp only
          by_cases hv : v = 0
          · rw [if_pos hv]
            rcases pos_or es q with h | h
            · exact Or.inl (Or.inr (Or.inr h))
            · exact Or.inr h
          · rw [if_neg hv]
            rcases pos_or bs q with h | h
            · exact Or.inl (Or.inr (Or.inl h))
            · exact Or.inr h
        by_cases k3 : k = 3
        · rw [if_neg k1, if_neg k4, if_neg k2, if_pos k3, if_pos k3]
          dsimp only
          by_cases hv : v = 0
          · rw [if_pos hv]; exact Or.inr rfl
          · rw [if_neg hv]
            rcases pos_or bs (.mk k s e bs es :: q) with h | h
            · exact Or.inl (Or.inr (Or.inl h))
            · exact Or.inl (Or.inl h)
        · rw [if_neg k1, if_neg k4, if_neg k2, if_neg k3]; exact Or.inr rfl
      · rcases sub bs h1 _ a q hm v S with h | h
        · exact Or.inl (Or.inr (Or.inl h))
        · by_cases k3 : k = 3
          · rw [if_pos k3] at h
            exact Or.inl (Or.inl h)
          · rw [if_neg k3] at h
            exact Or.inr h
      · rcases sub es h2 _ a q hm v S with h | h
        · exact Or.inl (Or.inr (Or.inr h))
        · exact Or.inr h
  exact sub L fun a _ => key a
def wordsL : Nat → List (List Int)
  | 0 => [[]]
  | n + 1 => (wordsL n).flatMap fun l => [0 :: l, 1 :: l, 2 :: l, 3 :: l]
theorem wordsL_len (n : Nat) : (wordsL n).length = 4 ^ n := by
  induction n with
  | zero => rfl
  | succ n ih =>
    have : ∀ l : List (List Int), (l.flatMap fun l => [0 :: l, 1 :: l, 2 :: l, 3 :: l]).length = 4 * l.length := fun l => by
      induction l with
      | nil => rfl
      | cons a r ih => rw [List.flatMap_cons, List.length_append, ih, List.length_cons]; simp; omega
    rw [wordsL, this, ih, Nat.pow_succ, Nat.mul_comm]
def Wds (S : List Int) : Prop := ∀ x ∈ S, 0 ≤ x ∧ x < 4
theorem wordsL_mem {S : List Int} (h : Wds S) : S ∈ wordsL S.length := by
  induction S with
  | nil => simp [wordsL]
  | cons a r ih =>
    have ha := h a (by simp)
    have hr := ih fun x hx => h x (by simp [hx])
    rw [List.length_cons, wordsL, List.mem_flatMap]
    refine ⟨r, hr, ?_⟩
    have : a = 0 ∨ a = 1 ∨ a = 2 ∨ a = 3 := by omega
    rcases this with rfl | rfl | rfl | rfl <;> simp
theorem wds_set {S : List Int} (h : Wds S) (i : Nat) {v : Int} (hv : 0 ≤ v ∧ v < 4) : Wds (S.set i v) := fun x hx => by
  rcases List.mem_or_eq_of_mem_set hx with h1 | h1
  · exact h x h1
  · rw [h1]; exact hv
theorem ev_word (V : List (List UInt8)) (S : List Int) (t : T) : 0 ≤ (evT V S t).1 ∧ (evT V S t).1 < 4 := C3.isW_iff.1 (evT_w V S t)
theorem next_wds {V : List (List UInt8)} {v : Int} (hv : 0 ≤ v ∧ v < 4) {S : List Int} (h : Wds S) (a : St) (r : List St) : Wds (nextT V v S a r).2.1 ∧ (nextT V v S a r).2.1.length = S.length := by
  obtain ⟨k, s, e, bs, es⟩ := a
  rw [next_mk]
  by_cases h1 : k = 1
  · rw [if_pos h1]; exact ⟨wds_set h _ hv, List.length_set ..⟩
  by_cases h4 : k = 4
  · rw [if_neg h1, if_pos h4]; exact ⟨h, rfl⟩
  by_cases h2 : k = 2
  · rw [if_neg h1, if_neg h4, if_pos h2]; exact ⟨h, rfl⟩
  by_cases h3 : k = 3
  · rw [if_neg h1, if_neg h4, if_neg h2, if_pos h3]; exact ⟨h, rfl⟩
  · rw [if_neg h1, if_neg h4, if_neg h2, if_neg h3]; exact ⟨h, rfl⟩
def trace (V : List (List UInt8)) : Nat → List St → List Int → List (List St × List Int)
  | 0, _, _ => []
  | _ + 1, [], _ => []
  | n + 1, a :: r, S => (a :: r, S) :: (if (evT V S (St.e a)).2 = true then trace V n (nextT V (evT V S (St.e a)).1 S a r).1 (nextT V (evT V S (St.e a)).1 S a r).2.1 else [])
variable {V : List (List UInt8)}
theorem trace_nil (n : Nat) (S : List Int) : trace V n [] S = [] := by cases n <;> rfl
theorem trace_len (n : Nat) : ∀ (L : List St) (S : List Int), (trace V n L S).length = (run V n L S).co := by
  induction n with
  | zero => intro L S; cases L with
    | nil => rw [run_nil]; rfl
    | cons a r => rfl
  | succ n ih => intro L S; cases L with
    | nil => rw [run_nil]; rfl
    | cons a r =>
      by_cases hv : (evT V S (St.e a)).2 = true
      · rw [run_go hv rfl, trace, if_pos hv, List.length_cons, ih]
      · rw [run_trap hv, trace, if_neg hv]; rfl
theorem trace_at (n : Nat) : ∀ (L : List St) (S : List Int), (run V n L S).st ≠ 3 → ∀ c ∈ trace V n L S, ∃ m, (run V m c.1 c.2).st ≠ 3 ∧ (run V m c.1 c.2).co ≤ (run V n L S).co := by
  induction n with
  | zero => intro L S _ c hc; cases hc
  | succ n ih => intro L S h c hc; cases L with
    | nil => rw [trace_nil] at hc; cases hc
    | cons a r =>
      rw [trace, List.mem_cons] at hc
      rcases hc with rfl | hc
      · exact ⟨n + 1, h, Nat.le_refl _⟩
      · by_cases hv : (evT V S (St.e a)).2 = true
        · rw [if_pos hv] at hc
          rw [run_go hv rfl] at h ⊢
          obtain ⟨m, h1, h2⟩ := ih _ _ h c hc
          exact ⟨m, h1, Nat.le_succ_of_le h2⟩
        · rw [if_neg hv] at hc; cases hc
theorem run_same {n m : Nat} {L : List St} {S : List Int} (h : (run V n L S).st ≠ 3) (h' : (run V m L S).st ≠ 3) : run V n L S = run V m L S := by
  rcases Nat.le_total n m with hm | hm
  · exact (run_any h hm).symm
  · exact run_any h' hm
theorem trace_nodup (n : Nat) : ∀ (L : List St) (S : List Int), (run V n L S).st ≠ 3 → (trace V n L S).Nodup := by
  induction n with
  | zero => intro L S _; exact List.Pairwise.nil
  | succ n ih => intro L S h; cases L with
    | nil => rw [trace_nil]; exact List.Pairwise.nil
    | cons a r =>
      rw [trace]
      by_cases hv : (evT V S (St.e a)).2 = true
      · have h0 := h
        rw [run_go hv rfl] at h0
        rw [if_pos hv, List.nodup_cons]
        refine ⟨fun hm => ?_, ih _ _ h0⟩
        obtain ⟨m, h1, h2⟩ := trace_at n _ _ h0 _ hm
        dsimp only at h1 h2
        rw [← run_same h h1, run_go hv rfl] at h2
        dsimp only at h2
        omega
      · rw [if_neg hv]
        exact List.nodup_cons.2 ⟨by simp, List.Pairwise.nil⟩
theorem trace_in (n : Nat) (B : List St) : ∀ (L : List St) (S : List Int), (L ∈ posL B [] ∨ L = []) → Wds S → ∀ c ∈ trace V n L S, c.1 ∈ posL B [] ∧ c.2 ∈ wordsL S.length := by
  induction n with
  | zero => intro L S _ _ c hc; cases hc
  | succ n ih => intro L S hL hS c hc; cases L with
    | nil => rw [trace_nil] at hc; cases hc
    | cons a r =>
      have hp : a :: r ∈ posL B [] := by
        rcases hL with h | h
        · exact h
        · cases h
      rw [trace, List.mem_cons] at hc
      rcases hc with rfl | hc
      · exact ⟨hp, wordsL_mem hS⟩
      · by_cases hv : (evT V S (St.e a)).2 = true
        · rw [if_pos hv] at hc
          obtain ⟨h1, h2⟩ := next_wds (V := V) (ev_word V S (St.e a)) hS a r
          have := ih _ _ (pos_next B [] a r hp _ S) h1 c hc
          rw [h2] at this
          exact this
        · rw [if_neg hv] at hc; cases hc
theorem nodup_le {α : Type} : ∀ (l m : List α), l.Nodup → (∀ x ∈ l, x ∈ m) → l.length ≤ m.length := by
  classical
  intro l
  induction l with
  | nil => intro m _ _; exact Nat.zero_le _
  | cons a r ih =>
    intro m hn hm
    rw [List.nodup_cons] at hn
    have ha := hm a (by simp)
    have h1 := ih (m.erase a) hn.2 fun x hx => (List.mem_erase_of_ne (fun e : x = a => hn.1 (by rw [← e]; exact hx))).2 (hm x (by simp [hx]))
    rw [List.length_erase_of_mem ha] at h1
    have := List.length_pos_of_mem ha
    rw [List.length_cons]
    omega
theorem pairs_len {α β : Type} (l : List α) (m : List β) : (l.flatMap fun a => m.map fun b => (a, b)).length = l.length * m.length := by
  induction l with
  | nil => simp
  | cons a r ih => rw [List.flatMap_cons, List.length_append, ih, List.length_map, List.length_cons, Nat.succ_mul, Nat.add_comm]
theorem run_short {n : Nat} {B : List St} {S : List Int} (hS : Wds S) (h : (run V n B S).st ≠ 3) : (run V n B S).co ≤ cntL B * 4 ^ S.length := by
  rw [← trace_len, ← pos_len B [], ← wordsL_len, ← pairs_len]
  refine nodup_le _ _ (trace_nodup n B S h) fun c hc => ?_
  have hB : B ∈ posL B [] ∨ B = [] := by
    have := pos_or B []
    rw [List.append_nil] at this
    exact this
  obtain ⟨h1, h2⟩ := trace_in n B B S hB hS c hc
  rw [List.mem_flatMap]
  exact ⟨c.1, h1, List.mem_map.2 ⟨c.2, h2, rfl⟩⟩
end Go.Proofs.YtnmomlaimffonaaGreat.Rn
