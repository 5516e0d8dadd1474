/- Parsing a program, said by recursion. -/
import Derived.Test.YtiogceepjffmkaaGreatDoorQNd8
set_option maxRecDepth 100000
namespace Go.Proofs.YtiogceepjffmkaaGreatDoor.Gd
open Go.RowKit Go.Lib Num Com Mem YtiogceepjffmkaaGreatDoor.Os Tr Tk
abbrev emitW : List UInt8 := [101, 109, 105, 116]
abbrev whileW : List UInt8 := [119, 104, 105, 108, 101]
abbrev ifW : List UInt8 := [105, 102]
abbrev elseW : List UInt8 := [101, 108, 115, 101]
abbrev varsW : List UInt8 := [118, 97, 114, 115]
def nameAt (ts : List Tok) (i : Nat) : Option (List UInt8) := match ts[i]? with
 | none => none
 | some t => if t.k = 1 ∧ C2.validB t.s = true then some t.s else none
def atSt (ts : List Tok) (i : Nat) : Bool := seesB ts i emitW || (seesB ts i whileW || (seesB ts i ifW || (nameAt ts i).isSome))
abbrev ResQ := Except Int (St × Nat)
abbrev ResB := Except Int (List St × Nat)
def St.withElse : St → List St → St
 | .mk k s e bs _, L => .mk k s e bs L
mutual
def qz (ts : List Tok) (en : Nat) : Nat → Nat → ResQ
 | 0, _ => .error 0
 | n + 1, i =>
  if seesB ts i emitW = true then
   match pz ts en 2000 1 (i + 1) with
   | .error a => .error a
   | .ok (e, j) => if seesB ts j [59] = true then .ok (.mk 4 [] e [] [], j + 1) else .error (errAt ts en j)
  else if seesB ts i whileW = true then gz ts en n 3 (i + 1)
  else if seesB ts i ifW = true then
   match gz ts en n 2 (i + 1) with
   | .error a => .error a
   | .ok (s, j) =>
    if seesB ts j elseW = true then
     match kz ts en n (j + 1) with
     | .error a => .error a
     | .ok (L, k) => .ok (s.withElse L, k)
    else .ok (s, j)
  else match nameAt ts i with
   | none => .error (errAt ts en i)
   | some x =>
    if seesB ts (i + 1) [58, 61] = true then
     match pz ts en 2000 1 (i + 1 + 1) with
     | .error a => .error a
     | .ok (e, j) => if seesB ts j [59] = true then .ok (.mk 1 x e [] [], j + 1) else .error (errAt ts en j)
    else .error (errAt ts en (i + 1))
def gz (ts : List Tok) (en : Nat) : Nat → Int → Nat → ResQ
 | 0, _, _ => .error 0
 | n + 1, q, i =>
  match pz ts en 2000 1 i with
  | .error a => .error a
  | .ok (e, j) =>
   match kz ts en n j with
   | .error a => .error a
   | .ok (L, k) => .ok (.mk q [] e L [], k)
def kz (ts : List Tok) (en : Nat) : Nat → Nat → ResB
 | 0, _ => .error 0
 | n + 1, i =>
  if seesB ts i [123] = true then
   match bz ts en n (i + 1) with
   | .error a => .error a
   | .ok (L, j) => if seesB ts j [125] = true then .ok (L, j + 1) else .error (errAt ts en j)
  else .error (errAt ts en i)
def bz (ts : List Tok) (en : Nat) : Nat → Nat → ResB
 | 0, _ => .error 0
 | n + 1, i =>
  if atSt ts i = true then
   match qz ts en n i with
   | .error a => .error a
   | .ok (s, j) =>
    match bz ts en n j with
    | .error a => .error a
    | .ok (L, k) => .ok (s :: L, k)
  else .ok ([], i)
end
def vz (ts : List Tok) (en : Nat) : Nat → Nat → Except Int (List (List UInt8) × Nat)
 | 0, _ => .error 0
 | n + 1, i =>
  if seesB ts i [59] = true then .ok ([], i + 1)
  else match nameAt ts i with
   | none => .error (errAt ts en i)
   | some x =>
    match vz ts en n (i + 1) with
    | .error a => .error a
    | .ok (V, k) => .ok (x :: V, k)
def needQ (ts : List Tok) (i : Nat) : Nat := (ts.length - i) * 4 + 1
def needB (ts : List Tok) (i : Nat) : Nat := (ts.length - i) * 4 + 2
def needK (ts : List Tok) (i : Nat) : Nat := (ts.length - i) * 4 + 3
def needG (ts : List Tok) (i : Nat) : Nat := (ts.length - i) * 4 + 4
theorem nameAt_lt {ts : List Tok} {i : Nat} {x : List UInt8} (h : nameAt ts i = some x) : i < ts.length := by
 unfold nameAt at h
 split at h
 ·cases h
 ·rename_i t ht
  exact lt_of_get ht
theorem nameAt_len {ts : List Tok} {i : Nat} {x : List UInt8} (h : nameAt ts i = some x) : x.length ≤ 8 := by
 unfold nameAt at h
 split at h
 ·cases h
 ·split at h
  ·rename_i hv
   cases h
   have := hv.2
   unfold C2.validB at this
   rw [Bool.and_eq_true, decide_eq_true_eq] at this
   exact this.1
  ·cases h
mutual
def shSt : St → Prop
 | .mk _ s _ bs es => s.length ≤ 8 ∧ shL bs ∧ shL es
def shL : List St → Prop
 | [] => True
 | a :: r => shSt a ∧ shL r
end
theorem shSt_mk {k : Int} {s : List UInt8} {e : T} {bs es : List St} : shSt (.mk k s e bs es) ↔ s.length ≤ 8 ∧ shL bs ∧ shL es := by rw [shSt]
theorem shL_nil : shL [] := by rw [shL]; trivial
theorem shL_cons {a : St} {r : List St} : shL (a :: r) ↔ shSt a ∧ shL r := by rw [shL]
theorem cntSt_mk (k : Int) (s : List UInt8) (e : T) (bs es : List St) : cntSt (.mk k s e bs es) = 1 + cntL bs + cntL es := by rw [cntSt]
def AdvQ (i : Nat) (s : St) (j len : Nat) : Prop := i < j ∧ j ≤ len ∧ cntSt s + i ≤ j ∧ exSt s + i ≤ j ∧ shSt s
def AdvB (i : Nat) (L : List St) (j len : Nat) : Prop := i ≤ j ∧ j ≤ len ∧ cntL L + i ≤ j ∧ exL L + i ≤ j ∧ shL L
theorem adv_all (ts : List Tok) (en : Nat) (n : Nat) : (∀ i s j, qz ts en n i = .ok (s, j) → AdvQ i s j ts.length) ∧ (∀ q i s j, gz ts en n q i = .ok (s, j) → AdvQ i s j ts.length ∧ ∃ e L, s = .mk q [] e L []) ∧
  (∀ i L j, kz ts en n i = .ok (L, j) → AdvB i L j ts.length ∧ cntL L + i + 2 ≤ j ∧ exL L + i + 2 ≤ j) ∧ ∀ i L j, bz ts en n i = .ok (L, j) → i ≤ ts.length → AdvB i L j ts.length := by
 induction n with
 | zero => exact ⟨fun i s j h => (by rw [qz] at h; cases h), fun q i s j h => (by rw [gz] at h; cases h), fun i s j h => (by rw [kz] at h; cases h), fun i s j h => (by rw [bz] at h; cases h)⟩
 | succ n ih =>
  obtain ⟨ihq, ihg, ihk, ihb⟩ := ih
  refine ⟨fun i s j h => ?_, fun q i s j h => ?_, fun i L j h => ?_, fun i L j h hi => ?_⟩
  ·rw [qz] at h
   split at h
   ·rename_i hs
    have := sees_lt hs
    split at h
    ·cases h
    ·rename_i e j' hp
     have h1 := (pz_adv ts en 2000).1 _ _ _ _ hp
     split at h
     ·rename_i h2
      have h3 := sees_lt h2
      cases h
      refine ⟨by omega, by omega, ?_, ?_, ?_⟩
      ·simp only [cntSt, cntL]; omega
      ·simp only [exSt, exL]; omega
      ·rw [shSt_mk]; exact ⟨by simp, shL_nil, shL_nil⟩
     ·cases h
   ·split at h
    ·rename_i hs
     have := sees_lt hs
     obtain ⟨⟨h1, h2, h3, h4, h5⟩, _⟩ := ihg _ _ _ _ h
     exact ⟨by omega, by omega, by omega, by omega, h5⟩
    ·split at h
     ·rename_i hs
      have := sees_lt hs
      split at h
      ·cases h
      ·rename_i s' j' hg
       obtain ⟨⟨h1, h2, h3, h4, h5⟩, e, B, rfl⟩ := ihg _ _ _ _ hg
       split at h
       ·rename_i he
        have := sees_lt he
        split at h
        ·cases h
        ·rename_i L k hk
         obtain ⟨⟨g1, g2, g3, g4, g5⟩, g6, g7⟩ := ihk _ _ _ hk
         cases h
         unfold St.withElse
         rw [shSt_mk] at h5
         rw [cntSt_mk] at h3
         rw [exSt_mk] at h4
         simp only [cntL, exL] at h3 h4
         refine ⟨by omega, by omega, ?_, ?_, ?_⟩
         ·rw [cntSt_mk]; omega
         ·rw [exSt_mk]; omega
         ·rw [shSt_mk]; exact ⟨h5.1, h5.2.1, g5⟩
       ·cases h
        exact ⟨by omega, by omega, by omega, by omega, h5⟩
     ·split at h
      ·cases h
      ·rename_i x hx
       have hx1 := nameAt_lt hx
       have hx2 := nameAt_len hx
       split at h
       ·rename_i ha
        have := sees_lt ha
        split at h
        ·cases h
        ·rename_i e j' hp
         have h1 := (pz_adv ts en 2000).1 _ _ _ _ hp
         split at h
         ·rename_i h2
          have h3 := sees_lt h2
          cases h
          refine ⟨by omega, by omega, ?_, ?_, ?_⟩
          ·simp only [cntSt, cntL]; omega
          ·simp only [exSt, exL]; omega
          ·rw [shSt_mk]; exact ⟨hx2, shL_nil, shL_nil⟩
         ·cases h
       ·cases h
  ·rw [gz] at h
   split at h
   ·cases h
   ·rename_i e j' hp
    have h1 := (pz_adv ts en 2000).1 _ _ _ _ hp
    split at h
    ·cases h
    ·rename_i L k hk
     obtain ⟨⟨g1, g2, g3, g4, g5⟩, g6, g7⟩ := ihk _ _ _ hk
     cases h
     refine ⟨⟨by omega, by omega, ?_, ?_, ?_⟩, e, L, rfl⟩
     ·rw [cntSt_mk]; simp only [cntL]; omega
     ·rw [exSt_mk]; simp only [exL]; omega
     ·rw [shSt_mk]; exact ⟨by simp, g5, shL_nil⟩
  ·rw [kz] at h
   split at h
   ·rename_i hs
    have := sees_lt hs
    split at h
    ·cases h
    ·rename_i L' j' hb
     obtain ⟨h1, h2, h3, h4, h5⟩ := ihb _ _ _ hb (by omega)
     split at h
     ·rename_i he
      have := sees_lt he
      cases h
      exact ⟨⟨by omega, by omega, by omega, by omega, h5⟩, by omega, by omega⟩
     ·cases h
   ·cases h
  ·rw [bz] at h
   split at h
   ·split at h
    ·cases h
    ·rename_i s j' hq
     obtain ⟨h1, h2, h3, h4, h5⟩ := ihq _ _ _ hq
     split at h
     ·cases h
     ·rename_i L' k hb
      obtain ⟨g1, g2, g3, g4, g5⟩ := ihb _ _ _ hb h2
      cases h
      refine ⟨by omega, by omega, ?_, ?_, shL_cons.2 ⟨h5, g5⟩⟩
      ·simp only [cntL]; omega
      ·simp only [exL]; omega
   ·cases h
    exact ⟨Nat.le_refl _, hi, by simp [cntL], by simp [exL], shL_nil⟩
theorem vz_adv (ts : List Tok) (en : Nat) : ∀ n i V j, vz ts en n i = .ok (V, j) → i < j ∧ j ≤ ts.length ∧ V.length + i < j ∧ ∀ x ∈ V, x.length ≤ 8 := by
 intro n
 induction n with
 | zero => intro i V j h; rw [vz] at h; cases h
 | succ n ih =>
  intro i V j h
  rw [vz] at h
  split at h
  ·rename_i hs
   have := sees_lt hs
   cases h
   exact ⟨by omega, by omega, by simp, by simp⟩
  ·split at h
   ·cases h
   ·rename_i x hx
    have hx2 := nameAt_len hx
    split at h
    ·cases h
    ·rename_i V' k hv
     have h1 := ih _ _ _ hv
     cases h
     refine ⟨by omega, h1.2.1, by simp only [List.length_cons]; omega, fun y hy => ?_⟩
     rcases List.mem_cons.1 hy with rfl | hy
     ·exact hx2
     ·exact h1.2.2.2 y hy
theorem err_all (ts : List Tok) (en : Nat) (h200 : ts.length ≤ 150) (n : Nat) : (∀ i a, qz ts en n i = .error a → needQ ts i ≤ n → AtT ts en a) ∧ (∀ q i a, gz ts en n q i = .error a → needG ts i ≤ n → AtT ts en a) ∧
  (∀ i a, kz ts en n i = .error a → needK ts i ≤ n → AtT ts en a) ∧ ∀ i a, bz ts en n i = .error a → needB ts i ≤ n → i ≤ ts.length → AtT ts en a := by
 have hpz : ∀ i a, pz ts en 2000 1 i = .error a → AtT ts en a := fun i a h => (pz_err ts en 2000).1 _ _ _ h (by unfold need; omega) (by omega)
 induction n with
 | zero => exact ⟨fun i a _ h => (by unfold needQ at h; omega), fun q i a _ h => (by unfold needG at h; omega), fun i a _ h => (by unfold needK at h; omega), fun i a _ h => (by unfold needB at h; omega)⟩
 | succ n ih =>
  obtain ⟨ihq, ihg, ihk, ihb⟩ := ih
  have adv := adv_all ts en n
  refine ⟨fun i a h hn => ?_, fun q i a h hn => ?_, fun i a h hn => ?_, fun i a h hn hi => ?_⟩
  ·unfold needQ at hn
   rw [qz] at h
   split at h
   ·split at h
    ·rename_i a' hp; cases h; exact hpz _ _ hp
    ·split at h
     ·cases h
     ·cases h; exact errAt_at _ _ _
   ·split at h
    ·rename_i hs
     have := sees_lt hs
     exact ihg _ _ _ h (by unfold needG; omega)
    ·split at h
     ·rename_i hs
      have := sees_lt hs
      split at h
      ·rename_i a' hg; cases h; exact ihg _ _ _ hg (by unfold needG; omega)
      ·rename_i s' j' hg
       have h1 := (adv.2.1 _ _ _ _ hg).1
       split at h
       ·rename_i he
        have := sees_lt he
        split at h
        ·rename_i a' hk; cases h; exact ihk _ _ hk (by unfold needK; have := h1.1; omega)
        ·cases h
       ·cases h
     ·split at h
      ·cases h; exact errAt_at _ _ _
      ·split at h
       ·split at h
        ·rename_i a' hp; cases h; exact hpz _ _ hp
        ·split at h
         ·cases h
         ·cases h; exact errAt_at _ _ _
       ·cases h; exact errAt_at _ _ _
  ·unfold needG at hn
   rw [gz] at h
   split at h
   ·rename_i a' hp; cases h; exact hpz _ _ hp
   ·rename_i e j' hp
    have h1 := (pz_adv ts en 2000).1 _ _ _ _ hp
    split at h
    ·rename_i a' hk; cases h; exact ihk _ _ hk (by unfold needK; omega)
    ·cases h
  ·unfold needK at hn
   rw [kz] at h
   split at h
   ·rename_i hs
    have := sees_lt hs
    split at h
    ·rename_i a' hb; cases h; exact ihb _ _ hb (by unfold needB; omega) (by omega)
    ·split at h
     ·cases h
     ·cases h; exact errAt_at _ _ _
   ·cases h; exact errAt_at _ _ _
  ·unfold needB at hn
   rw [bz] at h
   split at h
   ·split at h
    ·rename_i a' hq; cases h; exact ihq _ _ hq (by unfold needQ; omega)
    ·rename_i s j' hq
     have h1 := adv.1 _ _ _ hq
     split at h
     ·rename_i a' hb; cases h; exact ihb _ _ hb (by unfold needB; have := h1.1; have := h1.2.1; omega) h1.2.1
     ·cases h
   ·cases h
theorem vz_err (ts : List Tok) (en : Nat) : ∀ n i a, vz ts en n i = .error a → needQ ts i ≤ n → AtT ts en a := by
 intro n
 induction n with
 | zero => intro i a _ h; unfold needQ at h; omega
 | succ n ih =>
  intro i a h hn
  unfold needQ at hn
  rw [vz] at h
  split at h
  ·cases h
  ·split at h
   ·cases h; exact errAt_at _ _ _
   ·rename_i x hx
    have := nameAt_lt hx
    split at h
    ·rename_i a' hv; cases h; exact ih _ _ hv (by unfold needQ; omega)
    ·cases h
open Ch
def mz (ts : List Tok) (en : Nat) (stop : Nat → Bool) : Nat → Nat → ResB
 | 0, _ => .error 0
 | n + 1, i =>
  if stop i = true then .ok ([], i)
  else match qz ts en n i with
   | .error a => .error a
   | .ok (s, j) =>
    match mz ts en stop n j with
    | .error a => .error a
    | .ok (L, k) => .ok (s :: L, k)
theorem name_not {ts : List Tok} {i : Nat} {x u : List UInt8} (h : nameAt ts i = some x) (hu : C2.validB u = false) : seesB ts i u = false := by
 unfold nameAt at h
 split at h
 ·cases h
 ·rename_i t ht
  split at h
  ·rename_i hv
   cases h
   unfold seesB
   rw [ht]
   simp only
   unfold isWordB
   rw [decide_eq_false (show ¬ t.s = u from fun e => by rw [e, hu] at hv; cases hv.2), Bool.and_false]
  ·cases h
theorem atSt_lt {ts : List Tok} {i : Nat} (h : atSt ts i = true) : i < ts.length := by
 unfold atSt at h
 simp only [Bool.or_eq_true] at h
 rcases h with h | h | h | h
 ·exact sees_lt h
 ·exact sees_lt h
 ·exact sees_lt h
 ·cases hx : nameAt ts i with
  | none => rw [hx] at h; cases h
  | some x => exact nameAt_lt hx
def bodyR (ts : List Tok) (en : Nat) : Except Int (List (List UInt8) × List St × Nat) :=
 if seesB ts 0 varsW = true then
  match vz ts en 2000 1 with
  | .error a => .error a
  | .ok (V, i) => match bz ts en 2000 i with
   | .error a => .error a
   | .ok (L, j) => .ok (V, L, j)
 else .error (errAt ts en 0)
def progT (ts : List Tok) (en : Nat) : Except Int Pg := match bodyR ts en with
 | .error a => .error a
 | .ok (V, L, j) => if j < ts.length then .error (errAt ts en j) else if okP ⟨V, L⟩ = true then .ok ⟨V, L⟩ else .error 0
def progR (S : List UInt8) : Except Int Pg := if (tokz S).2 = -1 then progT (tokz S).1 S.length else .error (tokz S).2
def progV (S : List UInt8) : Pg × Int := match progR S with
 | .ok p => (p, -1)
 | .error a => (⟨[], []⟩, a)
theorem progV_ok {S : List UInt8} {p : Pg} (h : progR S = .ok p) : progV S = (p, -1) := by unfold progV; rw [h]
theorem progV_err {S : List UInt8} {a : Int} (h : progR S = .error a) : progV S = (⟨[], []⟩, a) := by unfold progV; rw [h]
theorem body_adv {ts : List Tok} {en : Nat} {V : List (List UInt8)} {L : List St} {j : Nat} (h : bodyR ts en = .ok (V, L, j)) : j ≤ ts.length ∧ V.length ≤ ts.length ∧ (∀ x ∈ V, x.length ≤ 8) ∧ cntL L ≤ ts.length ∧ exL L ≤ ts.length ∧ shL L := by
 unfold bodyR at h
 split at h
 ·split at h
  ·cases h
  ·rename_i V' i hv
   have h1 := vz_adv _ _ _ _ _ _ hv
   split at h
   ·cases h
   ·rename_i L' j' hb
    obtain ⟨h2, h3, h4, h5, h6⟩ := (adv_all ts en 2000).2.2.2 _ _ _ hb h1.2.1
    cases h
    exact ⟨by omega, by omega, h1.2.2.2, by omega, by omega, h6⟩
 ·cases h
theorem body_err {ts : List Tok} {en : Nat} (hl : ts.length ≤ 150) {a : Int} (h : bodyR ts en = .error a) : AtT ts en a := by
 unfold bodyR at h
 split at h
 ·split at h
  ·rename_i a' hv
   cases h
   exact vz_err _ _ _ _ _ hv (by unfold needQ; omega)
  ·rename_i V' i hv
   have h1 := vz_adv _ _ _ _ _ _ hv
   split at h
   ·rename_i a' hb
    cases h
    exact (err_all ts en hl 2000).2.2.2 _ _ hb (by unfold needB; omega) h1.2.1
   ·cases h
 ·cases h
  exact errAt_at _ _ _
theorem prog_off (S : List UInt8) : (∃ p, progR S = .ok p ∧ okP p = true ∧ (∀ x ∈ p.vs, x.length ≤ 8) ∧ cntL p.body ≤ 150 ∧ exL p.body ≤ 150) ∨ ∃ a, progR S = .error a ∧ 0 ≤ a ∧ a ≤ (S.length : Int) := by
 unfold progR
 split
 ·rename_i h
  have hl := tokz_len S
  unfold progT
  cases hp : bodyR (tokz S).1 S.length with
  | error a =>
   rcases body_err (by omega) hp with h1 | ⟨t, ht, h1⟩
   ·exact Or.inr ⟨a, rfl, by omega, by omega⟩
   ·have := tokz_good (tokz_le h) t ht
    exact Or.inr ⟨a, rfl, by omega, by omega⟩
  | ok p =>
   obtain ⟨V, L, j⟩ := p
   have ha := body_adv hp
   simp only
   split
   ·exact Or.inr ⟨_, rfl, errAt_ok h j⟩
   ·split
    ·rename_i hok; exact Or.inl ⟨_, rfl, hok, ha.2.2.1, by show cntL L ≤ 150; omega, by show exL L ≤ 150; omega⟩
    ·exact Or.inr ⟨0, rfl, by omega, by omega⟩
 ·rename_i h
  exact Or.inr ⟨_, rfl, (tokz_bad h).2, tokz_off S⟩
end Go.Proofs.YtiogceepjffmkaaGreatDoor.Gd
