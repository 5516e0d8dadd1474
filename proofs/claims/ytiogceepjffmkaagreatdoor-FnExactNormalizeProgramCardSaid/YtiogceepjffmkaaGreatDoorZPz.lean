/- Parsing a list of tokens, said by recursion. -/
import Derived.Test.YtiogceepjffmkaaGreatDoorZTk
import Derived.Test.YtiogceepjffmkaaGreatDoorZLv
set_option maxRecDepth 100000
namespace Go.Proofs.YtiogceepjffmkaaGreatDoor.Tk
open Go.RowKit Go.Lib Num Mem Tr
def seesB (ts : List Tok) (i : Nat) (s : List UInt8) : Bool := match ts[i]? with
  | some t => isWordB t s
  | none => false
def errAt (ts : List Tok) (en : Nat) (i : Nat) : Int := match ts[i]? with
  | some t => t.p
  | none => en
def opAt (ts : List Tok) (l i : Nat) : Int := ((opsOf l).find? fun op => seesB ts i (C3.symL op)).getD 0
abbrev constT (n : Int) : T := .mk 1 n [] []
abbrev varT (s : List UInt8) : T := .mk 2 0 s []
abbrev opT (o : Int) (a b : T) : T := .mk 3 o [] [a, b]
abbrev notT (a : T) : T := .mk 4 0 [] [a]
abbrev Res := Except Int (T × Nat)
mutual
def pz (ts : List Tok) (en : Nat) : Nat → Nat → Nat → Res
  | 0, _, _ => .error 0
  | n + 1, l, i =>
    if 7 ≤ l then
      match ts[i]? with
      | none => .error en
      | some t =>
        if t.k = 2 then .ok (constT t.n, i + 1)
        else if isWordB t [40] = true then
          match pz ts en n 1 (i + 1) with
          | .error a => .error a
          | .ok (e, j) => if seesB ts j [41] = true then .ok (e, j + 1) else .error (errAt ts en j)
        else if t.k = 1 ∧ C2.validB t.s = true then .ok (varT t.s, i + 1) else .error t.p
    else if l = 6 then
      if seesB ts i [33] = true then
        match pz ts en n 6 (i + 1) with
        | .error a => .error a
        | .ok (e, j) => .ok (notT e, j)
      else pz ts en n 7 i
    else
      match pz ts en n (l + 1) i with
      | .error a => .error a
      | .ok (e, j) => lz ts en n l e j
def lz (ts : List Tok) (en : Nat) : Nat → Nat → T → Nat → Res
  | 0, _, _, _ => .error 0
  | n + 1, l, e, j =>
    if opAt ts l j = 0 then .ok (e, j)
    else
      match pz ts en n (l + 1) (j + 1) with
      | .error a => .error a
      | .ok (r, k) => if l = 3 then .ok (opT (opAt ts l j) e r, k) else lz ts en n l (opT (opAt ts l j) e r) k
end
theorem sees_lt {ts : List Tok} {i : Nat} {s : List UInt8} (h : seesB ts i s = true) : i < ts.length := by
  unfold seesB at h
  split at h
  · rename_i t ht
    exact lt_of_get ht
  · cases h
theorem opAt_lt {ts : List Tok} {l j : Nat} (h : opAt ts l j ≠ 0) : j < ts.length := by
  unfold opAt at h
  cases hf : (opsOf l).find? fun op => seesB ts j (C3.symL op) with
  | none => rw [hf] at h; exact absurd rfl h
  | some o => exact sees_lt (s := C3.symL o) (List.find?_some (p := fun op => seesB ts j (C3.symL op)) hf)
theorem pz_adv (ts : List Tok) (en : Nat) (n : Nat) : (∀ l i e j, pz ts en n l i = .ok (e, j) → i < j ∧ j ≤ ts.length ∧ cntT e + i ≤ j) ∧ ∀ l e0 i e j i0, lz ts en n l e0 i = .ok (e, j) → i ≤ ts.length → cntT e0 + i0 ≤ i → i ≤ j ∧ j ≤ ts.length ∧ cntT e + i0 ≤ j := by
  induction n with
  | zero => exact ⟨fun l i e j h => (by rw [pz] at h; cases h), fun l e0 i e j i0 h _ _ => (by rw [lz] at h; cases h)⟩
  | succ n ih =>
    obtain ⟨ih1, ih2⟩ := ih
    refine ⟨fun l i e j h => ?_, fun l e0 i e j i0 h hi hc => ?_⟩
    · rw [pz] at h
      split at h
      · split at h
        · cases h
        · rename_i t ht
          have hl := lt_of_get ht
          split at h
          · cases h; exact ⟨by omega, by omega, by rw [cntT_mk]; simp [cntK]; omega⟩
          · split at h
            · split at h
              · cases h
              · rename_i e' j' hp
                split at h
                · rename_i hs
                  have h1 := ih1 _ _ _ _ hp
                  have h2 := sees_lt hs
                  cases h
                  omega
                · cases h
            · split at h
              · cases h; exact ⟨by omega, by omega, by rw [cntT_mk]; simp [cntK]; omega⟩
              · cases h
      · split at h
        · split at h
          · split at h
            · cases h
            · rename_i e' j' hp
              have h1 := ih1 _ _ _ _ hp
              cases h
              refine ⟨by omega, by omega, ?_⟩
              rw [cntT_mk]
              simp only [cntK, List.map_cons, List.map_nil, List.sum_cons, List.sum_nil]
              omega
          · exact ih1 _ _ _ _ h
        · split at h
          · cases h
          · rename_i e' j' hp
            have h1 := ih1 _ _ _ _ hp
            have h2 := ih2 _ _ _ _ _ i h h1.2.1 h1.2.2
            omega
    · rw [lz] at h
      split at h
      · cases h; exact ⟨Nat.le_refl _, hi, hc⟩
      · split at h
        · cases h
        · rename_i r k hp
          have h1 := ih1 _ _ _ _ hp
          have hcn : cntT (opT (opAt ts l i) e0 r) + i0 ≤ k := by
            rw [cntT_mk]
            simp only [cntK, List.map_cons, List.map_nil, List.sum_cons, List.sum_nil]
            omega
          split at h
          · cases h; exact ⟨by omega, h1.2.1, hcn⟩
          · have h2 := ih2 _ _ _ _ _ i0 h h1.2.1 hcn
            omega
def AtT (ts : List Tok) (en : Nat) (a : Int) : Prop := a = en ∨ ∃ t ∈ ts, a = t.p
theorem errAt_at (ts : List Tok) (en i : Nat) : AtT ts en (errAt ts en i) := by
  unfold errAt
  split
  · rename_i t ht
    exact Or.inr ⟨t, List.mem_of_getElem? ht, rfl⟩
  · exact Or.inl rfl
def need (ts : List Tok) (l i : Nat) : Nat := (ts.length - i) * 10 + (8 - l)
theorem pz_err (ts : List Tok) (en : Nat) (n : Nat) : (∀ l i a, pz ts en n l i = .error a → need ts l i ≤ n → l ≤ 7 → AtT ts en a) ∧ ∀ l e0 i a, lz ts en n l e0 i = .error a → need ts l i + 1 ≤ n → l ≤ 5 → AtT ts en a := by
  induction n with
  | zero => exact ⟨fun l i a _ hn hl => (by unfold need at hn; omega), fun l e0 i a _ hn _ => (by omega)⟩
  | succ n ih =>
    obtain ⟨ih1, ih2⟩ := ih
    refine ⟨fun l i a h hn hl => ?_, fun l e0 i a h hn hl => ?_⟩
    · unfold need at hn
      rw [pz] at h
      split at h
      · split at h
        · cases h; exact Or.inl rfl
        · rename_i t ht
          have hlt := lt_of_get ht
          split at h
          · cases h
          · split at h
            · split at h
              · rename_i a' hp
                cases h
                exact ih1 _ _ _ hp (by unfold need; omega) (by omega)
              · rename_i e' j' hp
                split at h
                · cases h
                · cases h; exact errAt_at _ _ _
            · split at h
              · cases h
              · cases h; exact Or.inr ⟨t, List.mem_of_getElem? ht, rfl⟩
      · split at h
        · split at h
          · rename_i hs
            have hlt := sees_lt hs
            split at h
            · rename_i a' hp
              cases h
              exact ih1 _ _ _ hp (by unfold need; omega) (by omega)
            · cases h
          · exact ih1 _ _ _ h (by unfold need; omega) (by omega)
        · split at h
          · rename_i a' hp
            cases h
            exact ih1 _ _ _ hp (by unfold need; omega) (by omega)
          · rename_i e' j' hp
            have h1 := (pz_adv ts en n).1 _ _ _ _ hp
            exact ih2 _ _ _ _ h (by unfold need; omega) (by omega)
    · unfold need at hn
      rw [lz] at h
      split at h
      · cases h
      · rename_i ho
        have hlt := opAt_lt ho
        split at h
        · rename_i a' hp
          cases h
          exact ih1 _ _ _ hp (by unfold need; omega) (by omega)
        · rename_i r k hp
          have h1 := (pz_adv ts en n).1 _ _ _ _ hp
          split at h
          · cases h
          · exact ih2 _ _ _ _ h (by unfold need; omega) (by omega)
open Ch
theorem tokz_le {S : List UInt8} (h : (tokz S).2 = -1) : S.length ≤ 400 := by
  rcases Nat.lt_or_ge 400 S.length with h1 | h1
  · rw [tokz_big h1] at h; cases h
  · exact h1
theorem tokz_off (S : List UInt8) : (tokz S).2 ≤ (S.length : Int) := by
  unfold tokz
  split
  · rename_i h; show (400 : Int) ≤ _; omega
  · rcases lex_end S.length S 0 [] (Nat.le_refl _) with h | ⟨_, h, _⟩
    · rw [h]; omega
    · omega
theorem errAt_ok {S : List UInt8} (h : (tokz S).2 = -1) (j : Nat) : 0 ≤ errAt (tokz S).1 S.length j ∧ errAt (tokz S).1 S.length j ≤ (S.length : Int) := by
  unfold errAt
  split
  · rename_i t ht
    have := tokz_good (tokz_le h) t (List.mem_of_getElem? ht)
    omega
  · omega
end Go.Proofs.YtiogceepjffmkaaGreatDoor.Tk
