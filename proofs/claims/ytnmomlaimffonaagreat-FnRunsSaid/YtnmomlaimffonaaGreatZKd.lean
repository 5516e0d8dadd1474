/- Trees of whatever kind, whose nodes have lists of nodes below them: counted and measured level by level, lists that lie at one place taken together. -/
import Derived.Test.YtnmomlaimffonaaGreatZIm
import Derived.Test.YtnmomlaimffonaaGreatZTr6
import Derived.Test.YtnmomlaimffonaaGreatZGd
set_option maxHeartbeats 1000000
set_option maxRecDepth 100000
namespace Go.Proofs.YtnmomlaimffonaaGreat.Kd
open Go.RowKit
def mx {α : Type} (f : α → Nat) : List α → Nat
  | [] => 0
  | a :: r => Nat.max (f a) (mx f r)
theorem mx_mem {α : Type} {f : α → Nat} {l : List α} {a : α} (h : a ∈ l) : f a ≤ mx f l := by
  induction l with
  | nil => cases h
  | cons b r ih =>
    rcases List.mem_cons.1 h with rfl | h
    · exact Nat.le_max_left _ _
    · exact Nat.le_trans (ih h) (Nat.le_max_right _ _)
theorem mx_bd {α : Type} {f : α → Nat} {l : List α} {B : Nat} (h : ∀ a ∈ l, f a ≤ B) : mx f l ≤ B := by
  induction l with
  | nil => exact Nat.zero_le _
  | cons b r ih => exact Nat.max_le.2 ⟨h b (by simp), ih fun a ha => h a (by simp [ha])⟩
theorem mx_wit {α : Type} {f : α → Nat} {l : List α} (h : l ≠ []) : ∃ a ∈ l, f a = mx f l := by
  induction l with
  | nil => exact absurd rfl h
  | cons b r ih =>
    by_cases hr : r = []
    · subst hr; exact ⟨b, by simp, (Nat.max_eq_left (Nat.zero_le _)).symm⟩
    · obtain ⟨a, ha, e⟩ := ih hr
      rcases Nat.le_total (f b) (mx f r) with hl | hl
      · exact ⟨a, by simp [ha], by rw [e]; exact (Nat.max_eq_right hl).symm⟩
      · exact ⟨b, by simp, (Nat.max_eq_left hl).symm⟩
structure Kd (τ : Type) where
  kids : τ → List (List τ)
  cnt : τ → Nat
  dep : τ → Nat
  cnt_eq : ∀ t, cnt t = 1 + ((kids t).map fun l => (l.map cnt).sum).sum
  dep_eq : ∀ t, dep t = 1 + mx (mx dep) (kids t)
  two : ∀ t, (kids t).length ≤ 2
section
variable {τ : Type} (K : Kd τ)
def Kd.cntL (l : List τ) : Nat := (l.map K.cnt).sum
def Kd.depL (l : List τ) : Nat := mx K.dep l
def Kd.cntLL (ls : List (List τ)) : Nat := (ls.map K.cntL).sum
theorem Kd.cnt_pos (t : τ) : 1 ≤ K.cnt t := by rw [K.cnt_eq]; omega
theorem Kd.dep_pos (t : τ) : 1 ≤ K.dep t := by rw [K.dep_eq]; omega
theorem Kd.cntL_nil : K.cntL [] = 0 := rfl
theorem Kd.cntL_cons (t : τ) (l : List τ) : K.cntL (t :: l) = K.cnt t + K.cntL l := by simp [Kd.cntL]
theorem Kd.cntLL_nil : K.cntLL [] = 0 := rfl
theorem Kd.cntLL_cons (l : List τ) (ls : List (List τ)) : K.cntLL (l :: ls) = K.cntL l + K.cntLL ls := by simp [Kd.cntLL]
theorem Kd.cnt_kids (t : τ) : K.cnt t = 1 + K.cntLL (K.kids t) := by rw [K.cnt_eq]; rfl
theorem Kd.len_cntL (l : List τ) : l.length ≤ K.cntL l := by
  induction l with
  | nil => simp
  | cons a r ih =>
    rw [K.cntL_cons, List.length_cons]
    have := K.cnt_pos a
    omega
theorem Kd.cntL_pos {l : List τ} (h : l ≠ []) : 1 ≤ K.cntL l := by
  have := K.len_cntL l
  have := List.length_pos_iff.2 h
  omega
theorem Kd.dep_kids {t : τ} {l : List τ} (h : l ∈ K.kids t) : K.depL l + 1 ≤ K.dep t := by
  rw [K.dep_eq]
  have : mx K.dep l ≤ mx (mx K.dep) (K.kids t) := mx_mem h
  show mx K.dep l + 1 ≤ _
  omega
theorem Kd.dep_wit (t : τ) : K.dep t = 1 ∨ ∃ l ∈ K.kids t, l ≠ [] ∧ K.depL l + 1 = K.dep t := by
  rw [K.dep_eq]
  by_cases h : K.kids t = []
  · rw [h]; exact Or.inl rfl
  · obtain ⟨l, hl, e⟩ := mx_wit (f := mx K.dep) h
    by_cases h0 : l = []
    · rw [← e, h0]; exact Or.inl rfl
    · refine Or.inr ⟨l, hl, h0, ?_⟩
      show mx K.dep l + 1 = _
      omega
theorem Kd.dep_cnt_aux (n : Nat) : ∀ t, K.cnt t ≤ n → K.dep t ≤ K.cnt t := by
  induction n with
  | zero => intro t h; have := K.cnt_pos t; omega
  | succ n ih =>
    intro t h
    have hk := K.cnt_kids t
    rw [K.dep_eq t]
    have hbd : mx (mx K.dep) (K.kids t) ≤ K.cntLL (K.kids t) := by
      have hmem : ∀ (ls : List (List τ)), ∀ l ∈ ls, K.cntL l ≤ K.cntLL ls := fun ls l hl => by
        induction ls with
        | nil => cases hl
        | cons b r ih2 =>
          rw [K.cntLL_cons]
          rcases List.mem_cons.1 hl with rfl | hl
          · omega
          · have := ih2 hl; omega
      have hmem2 : ∀ (l : List τ), ∀ a ∈ l, K.cnt a ≤ K.cntL l := fun l a ha => by
        induction l with
        | nil => cases ha
        | cons b r ih2 =>
          rw [K.cntL_cons]
          rcases List.mem_cons.1 ha with rfl | ha
          · omega
          · have := ih2 ha; omega
      refine mx_bd fun l hl => mx_bd fun a ha => ?_
      have h1 := hmem _ l hl
      have h2 := hmem2 l a ha
      have := ih a (by omega)
      omega
    omega
theorem Kd.dep_cnt (t : τ) : K.dep t ≤ K.cnt t := K.dep_cnt_aux _ t (Nat.le_refl _)
theorem Kd.depL_cntL (l : List τ) : K.depL l ≤ K.cntL l := by
  induction l with
  | nil => exact Nat.zero_le _
  | cons a r ih =>
    rw [K.cntL_cons]
    have := K.dep_cnt a
    exact Nat.max_le.2 ⟨by omega, by have h : mx K.dep r ≤ K.cntL r := ih; omega⟩
end
structure LN (τ : Type) where
  A : Option Addr
  c : Nat
  ks : List τ
def LN.key {τ : Type} (l : LN τ) : Option Addr × Nat := (if l.ks.length = 0 then none else l.A, l.ks.length)
theorem LN.key_ne {τ : Type} {l : LN τ} (h : l.ks ≠ []) : l.key = (l.A, l.ks.length) := by
  unfold LN.key
  rw [if_neg fun e => h (List.eq_nil_of_length_eq_zero e)]
def Fnl {τ : Type} (S : LN τ → Prop) : Prop := ∀ a b, S a → S b → a.key = b.key → a.ks = b.ks
section
variable {τ : Type} {K : Kd τ}
abbrev He (τ : Type) := List (LN τ × Nat)
def addE (h : He τ) (ln : LN τ) (m : Nat) : He τ := match h with
  | [] => [(ln, m)]
  | p :: r => if p.1.key = ln.key then (ln, p.2 + m) :: r else p :: addE r ln m
def getE (h : He τ) (k : Option Addr × Nat) : Nat := match h with
  | [] => 0
  | p :: r => if p.1.key = k then p.2 else getE r k
def putS (S : List (LN τ)) (ln : LN τ) : List (LN τ) := match S with
  | [] => [ln]
  | q :: r => if q.key = ln.key then q :: r else q :: putS r ln
def wS (K : Kd τ) (h : He τ) : Nat := (h.map fun p => p.2 * K.cntL p.1.ks).sum
theorem wS_cons (p : LN τ × Nat) (h : He τ) : wS K (p :: h) = p.2 * K.cntL p.1.ks + wS K h := by simp [wS]
theorem wS_perm {h k : He τ} (hp : h.Perm k) : wS K h = wS K k := (hp.map _).sum_nat
theorem addE_w {S : LN τ → Prop} (hF : Fnl S) {h : He τ} {ln : LN τ} (m : Nat) (hl : S ln) (hh : ∀ p ∈ h, S p.1) : wS K (addE h ln m) = wS K h + m * K.cntL ln.ks := by
  induction h with
  | nil => simp [addE, wS]
  | cons p r ih =>
    unfold addE
    by_cases e : p.1.key = ln.key
    · rw [if_pos e, wS_cons, wS_cons, hF _ _ (hh p (by simp)) hl e]
      show (p.2 + m) * K.cntL ln.ks + wS K r = _
      rw [Nat.add_mul]; omega
    · rw [if_neg e, wS_cons, wS_cons, ih fun q hq => hh q (by simp [hq])]; omega
theorem addE_mem {h : He τ} {ln : LN τ} {m : Nat} {p : LN τ × Nat} (hp : p ∈ addE h ln m) : p ∈ h ∨ p.1 = ln := by
  induction h with
  | nil => rw [show addE [] ln m = [(ln, m)] from rfl, List.mem_singleton] at hp; subst hp; exact Or.inr rfl
  | cons q r ih =>
    unfold addE at hp
    split at hp
    · rcases List.mem_cons.1 hp with rfl | hp
      · exact Or.inr rfl
      · exact Or.inl (by simp [hp])
    · rcases List.mem_cons.1 hp with rfl | hp
      · exact Or.inl (by simp)
      · rcases ih hp with h | h
        · exact Or.inl (by simp [h])
        · exact Or.inr h
theorem addE_pos {h : He τ} {ln : LN τ} {m : Nat} (hm : 1 ≤ m) (hh : ∀ p ∈ h, 1 ≤ p.2) : ∀ p ∈ addE h ln m, 1 ≤ p.2 := by
  induction h with
  | nil => intro p hp; rw [show addE [] ln m = [(ln, m)] from rfl, List.mem_singleton] at hp; subst hp; exact hm
  | cons q r ih =>
    intro p hp
    unfold addE at hp
    split at hp
    · rcases List.mem_cons.1 hp with rfl | hp
      · show 1 ≤ q.2 + m; omega
      · exact hh p (by simp [hp])
    · rcases List.mem_cons.1 hp with rfl | hp
      · exact hh p (by simp)
      · exact ih (fun q hq => hh q (by simp [hq])) p hp
theorem addE_new (h : He τ) (ln : LN τ) (m : Nat) : ∃ p ∈ addE h ln m, p.1 = ln := by
  induction h with
  | nil => exact ⟨(ln, m), by simp [addE], rfl⟩
  | cons q r ih =>
    unfold addE
    split
    · exact ⟨(ln, q.2 + m), by simp, rfl⟩
    · obtain ⟨p, hp, e⟩ := ih
      exact ⟨p, by simp [hp], e⟩
theorem addE_old {S : LN τ → Prop} (hF : Fnl S) {h : He τ} {ln : LN τ} {m : Nat} (hl : S ln) (hh : ∀ p ∈ h, S p.1) {p : LN τ × Nat} (hp : p ∈ h) : ∃ q ∈ addE h ln m, q.1.ks = p.1.ks := by
  induction h with
  | nil => cases hp
  | cons q r ih =>
    unfold addE
    by_cases e : q.1.key = ln.key
    · rw [if_pos e]
      rcases List.mem_cons.1 hp with rfl | hp
      · exact ⟨(ln, p.2 + m), by simp, (hF _ _ (hh p (by simp)) hl e).symm⟩
      · exact ⟨p, by simp [hp], rfl⟩
    · rw [if_neg e]
      rcases List.mem_cons.1 hp with rfl | hp
      · exact ⟨p, by simp, rfl⟩
      · obtain ⟨x, hx, e⟩ := ih (fun q hq => hh q (by simp [hq])) hp
        exact ⟨x, by simp [hx], e⟩
theorem getE_le {h : He τ} (k : Option Addr × Nat) (hne : ∀ p ∈ h, p.1.ks ≠ []) : getE h k ≤ wS K h := by
  induction h with
  | nil => exact Nat.zero_le _
  | cons p r ih =>
    rw [wS_cons]
    unfold getE
    split
    · have h1 := K.cntL_pos (hne p (by simp))
      have : p.2 * 1 ≤ p.2 * K.cntL p.1.ks := Nat.mul_le_mul_left _ h1
      omega
    · have := ih fun q hq => hne q (by simp [hq])
      omega
theorem putS_mem {S : List (LN τ)} {ln q : LN τ} (h : q ∈ putS S ln) : q ∈ S ∨ q = ln := by
  induction S with
  | nil => rw [show putS [] ln = [ln] from rfl, List.mem_singleton] at h; exact Or.inr h
  | cons a r ih =>
    unfold putS at h
    split at h
    · exact Or.inl h
    · rcases List.mem_cons.1 h with rfl | h
      · exact Or.inl (by simp)
      · rcases ih h with h | h
        · exact Or.inl (by simp [h])
        · exact Or.inr h
theorem putS_old {S : List (LN τ)} {ln q : LN τ} (h : q ∈ S) : q ∈ putS S ln := by
  induction S with
  | nil => cases h
  | cons a r ih =>
    unfold putS
    split
    · exact h
    · rcases List.mem_cons.1 h with rfl | h
      · simp
      · simp [ih h]
theorem putS_new {P : LN τ → Prop} (hF : Fnl P) {S : List (LN τ)} {ln : LN τ} (hl : P ln) (hS : ∀ q ∈ S, P q) : ∃ q ∈ putS S ln, q.ks = ln.ks := by
  induction S with
  | nil => exact ⟨ln, by simp [putS], rfl⟩
  | cons a r ih =>
    unfold putS
    by_cases e : a.key = ln.key
    · rw [if_pos e]; exact ⟨a, by simp, hF _ _ (hS a (by simp)) hl e⟩
    · rw [if_neg e]
      obtain ⟨q, hq, e⟩ := ih fun q hq => hS q (by simp [hq])
      exact ⟨q, by simp [hq], e⟩
theorem pigeon {α : Type} (f : α → Nat) (D : Nat) : ∀ (n : Nat) (l : List α), n ≤ D → (∀ i, i < n → ∃ x ∈ l, f x = D - i) → n ≤ l.length := by
  intro n
  induction n with
  | zero => intro l _ _; exact Nat.zero_le _
  | succ n ih =>
    intro l hD h
    obtain ⟨x, hx, e⟩ := h n (Nat.lt_succ_self n)
    obtain ⟨s, t, rfl⟩ := List.append_of_mem hx
    have := ih (s ++ t) (by omega) fun i hi => by
      obtain ⟨y, hy, e'⟩ := h i (by omega)
      refine ⟨y, ?_, e'⟩
      rcases List.mem_append.1 hy with hy | hy
      · simp [hy]
      · rcases List.mem_cons.1 hy with rfl | hy
        · omega
        · simp [hy]
    simp only [List.length_append, List.length_cons] at this ⊢
    omega
structure ZO (K : Kd τ) (P : LN τ → Prop) (N Dp nodes depth : Nat) (S : List (LN τ)) (H : He τ) : Prop where
  cnt : nodes + wS K H = N
  up : ∀ p ∈ H, depth + K.depL p.1.ks ≤ Dp
  wit : (H = [] ∧ Dp = depth) ∨ ∃ p ∈ H, depth + K.depL p.1.ks = Dp
  seen : ∀ i, i < depth → ∃ q ∈ S, K.depL q.ks = Dp - i
  ne : ∀ p ∈ H, p.1.ks ≠ [] ∧ 1 ≤ p.2
  inH : ∀ p ∈ H, P p.1
  inS : ∀ q ∈ S, P q
structure ZX (K : Kd τ) (P : LN τ → Prop) (N Dp nodes depth : Nat) (S : List (LN τ)) (Lf : He τ) (m : Nat) (cur : List τ) (ls : List (List τ)) (Bl : He τ) : Prop where
  cnt : nodes + (m * K.cntLL ls + m * K.cntL cur + (wS K Lf + wS K Bl)) = N
  upC : ∀ t ∈ cur, depth + K.dep t ≤ Dp
  upL : ∀ p ∈ Lf, depth + K.depL p.1.ks ≤ Dp
  upK : ∀ l ∈ ls, depth + 1 + K.depL l ≤ Dp
  dn : ∀ p ∈ Bl, depth + 1 + K.depL p.1.ks ≤ Dp
  wit : (∃ t ∈ cur, depth + K.dep t = Dp) ∨ (∃ p ∈ Lf, depth + K.depL p.1.ks = Dp) ∨ (∃ l ∈ ls, depth + 1 + K.depL l = Dp) ∨ (∃ p ∈ Bl, depth + 1 + K.depL p.1.ks = Dp) ∨ Dp = depth + 1
  seen : ∀ i, i < depth → ∃ q ∈ S, K.depL q.ks = Dp - i
  now : (∃ p ∈ Lf, depth + K.depL p.1.ks = Dp) ∨ ∃ q ∈ S, K.depL q.ks = Dp - depth
  neL : ∀ p ∈ Lf, p.1.ks ≠ [] ∧ 1 ≤ p.2
  neB : ∀ p ∈ Bl, p.1.ks ≠ [] ∧ 1 ≤ p.2
  inL : ∀ p ∈ Lf, P p.1
  inB : ∀ p ∈ Bl, P p.1
  inS : ∀ q ∈ S, P q
variable {P : LN τ → Prop} {N Dp nodes depth m : Nat} {S : List (LN τ)} {H Lf Lf' Bl : He τ} {cur : List τ} {ls : List (List τ)}
theorem ZO.first {l : LN τ} (hl : P l) (hne : l.ks ≠ []) : ZO K P (K.cntL l.ks) (K.depL l.ks) 0 0 [] [(l, 1)] := by
  refine ⟨by simp [wS], fun p hp => ?_, Or.inr ⟨(l, 1), by simp, by simp⟩, fun i hi => absurd hi (Nat.not_lt_zero _), fun p hp => ?_, fun p hp => ?_, fun q hq => absurd hq (by simp)⟩
  · rw [List.mem_singleton] at hp; subst hp; simp
  · rw [List.mem_singleton] at hp; subst hp; exact ⟨hne, Nat.le_refl _⟩
  · rw [List.mem_singleton] at hp; subst hp; exact hl
theorem ZO.end_ (h : ZO K P N Dp nodes depth S []) : nodes = N ∧ depth = Dp := by
  refine ⟨by have := h.cnt; simpa [wS] using this, ?_⟩
  rcases h.wit with ⟨_, e⟩ | ⟨p, hp, _⟩
  · exact e.symm
  · cases hp
theorem ZO.start (h : ZO K P N Dp nodes depth S H) (hne : H ≠ []) : ZX K P N Dp nodes depth S H 0 [] [] [] := by
  have hw : ∃ p ∈ H, depth + K.depL p.1.ks = Dp := by
    rcases h.wit with ⟨e, _⟩ | h1
    · exact absurd e hne
    · exact h1
  refine ⟨?_, fun t ht => absurd ht (by simp), h.up, fun l hl => absurd hl (by simp), fun p hp => absurd hp (by simp), Or.inr (Or.inl hw), h.seen, Or.inl hw, h.ne, fun p hp => absurd hp (by simp), h.inH, fun p hp => absurd hp (by simp), h.inS⟩
  have := h.cnt
  simp only [Nat.zero_mul]
  have e : wS K ([] : He τ) = 0 := rfl
  omega
theorem ZX.take (hF : Fnl P) {m0 : Nat} (h : ZX K P N Dp nodes depth S Lf m0 [] [] Bl) {ln : LN τ} (hp : Lf.Perm ((ln, m) :: Lf')) : ZX K P N Dp nodes depth (putS S ln) Lf' m ln.ks [] Bl := by
  have hm : (ln, m) ∈ Lf := hp.mem_iff.2 (by simp)
  have hsub : ∀ p ∈ Lf', p ∈ Lf := fun p hp' => hp.mem_iff.2 (by simp [hp'])
  obtain ⟨q0, hq0, e0⟩ := putS_new hF (S := S) (h.inL _ hm) h.inS
  refine ⟨?_, fun t ht => ?_, fun p hp' => h.upL p (hsub p hp'), fun l hl => absurd hl (by simp), h.dn, ?_, fun i hi => ?_, ?_, fun p hp' => h.neL p (hsub p hp'), h.neB, fun p hp' => h.inL p (hsub p hp'), h.inB, fun q hq => ?_⟩
  · have h1 := h.cnt
    rw [wS_perm hp, wS_cons, K.cntL_nil, K.cntLL_nil] at h1
    rw [K.cntLL_nil]
    simp only [Nat.mul_zero] at h1 ⊢
    omega
  · have h1 : K.dep t ≤ K.depL ln.ks := mx_mem ht
    have h2 := h.upL _ hm
    simp only at h2
    omega
  · rcases h.wit with ⟨t, ht, _⟩ | ⟨p, hp', e⟩ | ⟨l, hl, _⟩ | h4 | h5
    · cases ht
    · rcases List.mem_cons.1 (hp.mem_iff.1 hp') with rfl | hp'
      · obtain ⟨t, ht, et⟩ := mx_wit (f := K.dep) (h.neL _ hm).1
        exact Or.inl ⟨t, ht, by rw [et]; exact e⟩
      · exact Or.inr (Or.inl ⟨p, hp', e⟩)
    · cases hl
    · exact Or.inr (Or.inr (Or.inr (Or.inl h4)))
    · exact Or.inr (Or.inr (Or.inr (Or.inr h5)))
  · obtain ⟨q, hq, e⟩ := h.seen i hi
    exact ⟨q, putS_old hq, e⟩
  · rcases h.now with ⟨p, hp', e⟩ | ⟨q, hq, e⟩
    · rcases List.mem_cons.1 (hp.mem_iff.1 hp') with rfl | hp'
      · refine Or.inr ⟨q0, hq0, ?_⟩
        rw [e0]; have e : depth + K.depL ln.ks = Dp := e; omega
      · exact Or.inl ⟨p, hp', e⟩
    · exact Or.inr ⟨q, putS_old hq, e⟩
  · rcases putS_mem hq with hq | rfl
    · exact h.inS q hq
    · exact h.inL _ hm
theorem ZX.node {t : τ} (h : ZX K P N Dp nodes depth S Lf m (t :: cur) [] Bl) : ZX K P N Dp (nodes + m) depth S Lf m cur (K.kids t) Bl := by
  have hup := h.upC t (by simp)
  refine ⟨?_, fun u hu => h.upC u (by simp [hu]), h.upL, fun l hl => ?_, h.dn, ?_, h.seen, h.now, h.neL, h.neB, h.inL, h.inB, h.inS⟩
  · have h1 := h.cnt
    rw [K.cntL_cons, K.cnt_kids t, K.cntLL_nil, Nat.mul_add, Nat.mul_add] at h1
    simp only [Nat.mul_zero, Nat.mul_one] at h1
    omega
  · have := K.dep_kids hl
    omega
  · rcases h.wit with ⟨u, hu, e⟩ | h2 | ⟨l, hl, _⟩ | h4 | h5
    · rcases List.mem_cons.1 hu with rfl | hu
      · rcases K.dep_wit u with e1 | ⟨l, hl, _, e1⟩
        · exact Or.inr (Or.inr (Or.inr (Or.inr (by omega))))
        · exact Or.inr (Or.inr (Or.inl ⟨l, hl, by omega⟩))
      · exact Or.inl ⟨u, hu, e⟩
    · exact Or.inr (Or.inl h2)
    · cases hl
    · exact Or.inr (Or.inr (Or.inr (Or.inl h4)))
    · exact Or.inr (Or.inr (Or.inr (Or.inr h5)))
theorem ZX.none_ (h : ZX K P N Dp nodes depth S Lf m cur ([] :: ls) Bl) : ZX K P N Dp nodes depth S Lf m cur ls Bl := by
  refine ⟨?_, h.upC, h.upL, fun l hl => h.upK l (by simp [hl]), h.dn, ?_, h.seen, h.now, h.neL, h.neB, h.inL, h.inB, h.inS⟩
  · have h1 := h.cnt
    rw [K.cntLL_cons, K.cntL_nil, Nat.zero_add] at h1
    exact h1
  · rcases h.wit with h1 | h2 | ⟨l, hl, e⟩ | h4
    · exact Or.inl h1
    · exact Or.inr (Or.inl h2)
    · rcases List.mem_cons.1 hl with rfl | hl
      · have : K.depL ([] : List τ) = 0 := rfl
        exact Or.inr (Or.inr (Or.inr (Or.inr (by omega))))
      · exact Or.inr (Or.inr (Or.inl ⟨l, hl, e⟩))
    · exact Or.inr (Or.inr (Or.inr h4))
theorem ZX.some_ (hF : Fnl P) {ln : LN τ} (h : ZX K P N Dp nodes depth S Lf m cur (ln.ks :: ls) Bl) (hl : P ln) (hne : ln.ks ≠ []) (hm : 1 ≤ m) : ZX K P N Dp nodes depth S Lf m cur ls (addE Bl ln m) := by
  refine ⟨?_, h.upC, h.upL, fun l hl => h.upK l (by simp [hl]), fun p hp => ?_, ?_, h.seen, h.now, h.neL, fun p hp => ?_, h.inL, fun p hp => ?_, h.inS⟩
  · have h1 := h.cnt
    rw [K.cntLL_cons, Nat.mul_add] at h1
    rw [addE_w hF m hl h.inB]
    omega
  · rcases addE_mem hp with hp | e
    · exact h.dn p hp
    · rw [e]; exact h.upK ln.ks (by simp)
  · rcases h.wit with h1 | h2 | ⟨l, hl', e⟩ | ⟨p, hp, e⟩ | h5
    · exact Or.inl h1
    · exact Or.inr (Or.inl h2)
    · rcases List.mem_cons.1 hl' with rfl | hl'
      · obtain ⟨p, hp, ep⟩ := addE_new Bl ln m
        exact Or.inr (Or.inr (Or.inr (Or.inl ⟨p, hp, by rw [ep]; exact e⟩)))
      · exact Or.inr (Or.inr (Or.inl ⟨l, hl', e⟩))
    · obtain ⟨q, hq, eq⟩ := addE_old hF (m := m) hl h.inB hp
      exact Or.inr (Or.inr (Or.inr (Or.inl ⟨q, hq, by rw [eq]; exact e⟩)))
    · exact Or.inr (Or.inr (Or.inr (Or.inr h5)))
  · refine ⟨?_, addE_pos hm (fun q hq => (h.neB q hq).2) p hp⟩
    rcases addE_mem hp with hp | e
    · exact (h.neB p hp).1
    · rw [e]; exact hne
  · rcases addE_mem hp with hp | e
    · exact h.inB p hp
    · rw [e]; exact hl
theorem ZX.m_ {m' : Nat} (h : ZX K P N Dp nodes depth S Lf m [] [] Bl) : ZX K P N Dp nodes depth S Lf m' [] [] Bl := by
  refine ⟨?_, h.upC, h.upL, h.upK, h.dn, h.wit, h.seen, h.now, h.neL, h.neB, h.inL, h.inB, h.inS⟩
  have h1 := h.cnt
  rw [K.cntL_nil, K.cntLL_nil] at h1 ⊢
  simpa using h1
theorem ZX.turn (h : ZX K P N Dp nodes depth S [] m [] [] Bl) : ZO K P N Dp nodes (depth + 1) S Bl ∧ depth + 1 ≤ S.length ∧ depth + 1 ≤ Dp := by
  have hD : depth + 1 ≤ Dp := by
    rcases h.wit with ⟨t, ht, _⟩ | ⟨p, hp, _⟩ | ⟨l, hl, _⟩ | ⟨p, _, e⟩ | e
    · cases ht
    · cases hp
    · cases hl
    · omega
    · omega
  have hs : ∀ i, i < depth + 1 → ∃ q ∈ S, K.depL q.ks = Dp - i := fun i hi => by
    rcases Nat.lt_or_ge i depth with h1 | h1
    · exact h.seen i h1
    · obtain rfl : i = depth := by omega
      rcases h.now with ⟨p, hp, _⟩ | h2
      · cases hp
      · exact h2
  refine ⟨⟨?_, h.dn, ?_, hs, h.neB, h.inB, h.inS⟩, pigeon (fun q : LN τ => K.depL q.ks) Dp (depth + 1) S hD hs, hD⟩
  · have h1 := h.cnt
    rw [K.cntL_nil, K.cntLL_nil] at h1
    have e : wS K ([] : He τ) = 0 := rfl
    simp only [Nat.mul_zero] at h1
    omega
  · rcases h.wit with ⟨t, ht, _⟩ | ⟨p, hp, _⟩ | ⟨l, hl, _⟩ | h4 | e
    · cases ht
    · cases hp
    · cases hl
    · exact Or.inr h4
    · cases Bl with
      | nil => exact Or.inl ⟨rfl, e⟩
      | cons p r =>
        obtain ⟨hne, _⟩ := h.neB p (by simp)
        obtain ⟨t, r', et⟩ := List.exists_cons_of_ne_nil hne
        have h1 := h.dn p (by simp)
        have h2 := K.dep_pos t
        have h3 : K.dep t ≤ K.depL p.1.ks := mx_mem (by rw [et]; simp)
        omega
end
open Mem Ag Pl
section
variable {τ : Type}
abbrev slv (l : LN τ) : Value := .slice l.A l.ks.length l.c
def kvH (h : He τ) : List (Pk × Value) := h.map fun p => (p.1.key, .agg #[slv p.1, .int .i64 (p.2 : Nat)])
def kvS (S : List (LN τ)) : List (Pk × Value) := S.map fun q => (q.key, .bool true)
theorem aget_kvH (h : He τ) (k : Pk) : ∃ A l c, (aget (kvH h) k).getD (.agg #[.slice none 0 0, .int .i64 0]) = .agg #[.slice A l c, .int .i64 (getE h k : Nat)] := by
  induction h with
  | nil => exact ⟨_, _, _, rfl⟩
  | cons p r ih =>
    unfold getE
    simp only [kvH, List.map_cons, aget]
    by_cases e : p.1.key = k
    · rw [if_pos e, if_pos e]; exact ⟨_, _, _, rfl⟩
    · rw [if_neg e, if_neg e]; exact ih
theorem aput_kvH (h : He τ) (ln : LN τ) (m : Nat) : aput (kvH h) ln.key (.agg #[slv ln, .int .i64 ((getE h ln.key + m : Nat) : Int)]) = kvH (addE h ln m) := by
  induction h with
  | nil => simp [kvH, aput, addE, getE]
  | cons p r ih =>
    unfold getE addE
    simp only [kvH, List.map_cons, aput]
    by_cases e : p.1.key = ln.key
    · rw [if_pos e, if_pos e, if_pos e]; rfl
    · rw [if_neg e, if_neg e, if_neg e, List.map_cons]
      congr 1
theorem aput_kvS (S : List (LN τ)) (ln : LN τ) : aput (kvS S) ln.key (.bool true) = kvS (putS S ln) := by
  induction S with
  | nil => rfl
  | cons q r ih =>
    unfold putS
    simp only [kvS, List.map_cons, aput]
    by_cases e : q.key = ln.key
    · rw [if_pos e, if_pos e, List.map_cons, e]
    · rw [if_neg e, if_neg e, List.map_cons]
      congr 1
theorem aget_kvS (S : List (LN τ)) (k : Pk) : (aget (kvS S) k).getD (.bool false) = .bool (S.any fun q => decide (q.key = k)) := by
  induction S with
  | nil => rfl
  | cons q r ih =>
    simp only [kvS, List.map_cons, aget, List.any_cons]
    by_cases e : q.key = k
    · rw [if_pos e, decide_eq_true e]; rfl
    · rw [if_neg e, decide_eq_false e, Bool.false_or]; exact ih
end
theorem IsPl_lt {w : World} {g : Nat} (h : IsPl w g) : g < w.heap.size := by
  obtain ⟨c, t, e⟩ := h
  rcases Nat.lt_or_ge g w.heap.size with h1 | h1
  · exact h1
  · rw [Array.getElem?_eq_none h1] at e; cases e
theorem PtOk_go {w w' : World} {A : Option Addr} (h : PtOk w A) (hb : Below w.heap.size w w') : PtOk w' A := h.below hb fun ad e => IsPl_lt (h ad e)
theorem PtOk_none (w : World) : PtOk w none := fun _ e => by cases e
theorem PtOk_key {τ : Type} {w : World} {l : LN τ} (h : l.ks ≠ [] → PtOk w l.A) : PtOk w l.key.1 := by
  unfold LN.key
  by_cases e : l.ks.length = 0
  · rw [if_pos e]; exact PtOk_none w
  · rw [if_neg e]; exact h fun e' => e (by rw [e']; rfl)
section
variable {τ : Type} (K : Kd τ)
inductive Sub : τ → τ → Prop where
  | here (t : τ) : Sub t t
  | kid {u t a : τ} {l : List τ} (h1 : l ∈ K.kids t) (h2 : a ∈ l) (h : Sub u a) : Sub u t
def SubL (u : τ) (l : List τ) : Prop := ∃ a ∈ l, Sub K u a
end
section
variable {τ : Type} {K : Kd τ}
theorem sub_iff {u t : τ} : Sub K u t ↔ u = t ∨ ∃ l ∈ K.kids t, SubL K u l := by
  constructor
  · intro h
    cases h with
    | here => exact Or.inl rfl
    | kid h1 h2 h => exact Or.inr ⟨_, h1, _, h2, h⟩
  · rintro (rfl | ⟨l, h1, a, h2, h⟩)
    · exact .here _
    · exact .kid h1 h2 h
def lw (K : Kd τ) (Pd : List (LN τ)) : Nat := (Pd.map fun l => 1 + 2 * K.cntL l.ks).sum
def nw (K : Kd τ) (Pd : List (LN τ)) : Nat := (Pd.map fun l => K.cntL l.ks).sum
theorem lw_cons (l : LN τ) (Pd : List (LN τ)) : lw K (l :: Pd) = 1 + 2 * K.cntL l.ks + lw K Pd := by simp [lw]
theorem nw_cons (l : LN τ) (Pd : List (LN τ)) : nw K (l :: Pd) = K.cntL l.ks + nw K Pd := by simp [nw]
theorem lw_append (a b : List (LN τ)) : lw K (a ++ b) = lw K a + lw K b := by simp [lw]
theorem nw_append (a b : List (LN τ)) : nw K (a ++ b) = nw K a + nw K b := by simp [nw]
theorem lw_kids {KL : List (LN τ)} {ls : List (List τ)} (h : KL.map LN.ks = ls) : lw K KL = ls.length + 2 * K.cntLL ls := by
  subst h
  induction KL with
  | nil => rfl
  | cons l r ih => rw [lw_cons, ih, List.map_cons, List.length_cons, K.cntLL_cons]; omega
theorem nw_kids {KL : List (LN τ)} {ls : List (List τ)} (h : KL.map LN.ks = ls) : nw K KL = K.cntLL ls := by
  subst h
  induction KL with
  | nil => rfl
  | cons l r ih => rw [nw_cons, ih, List.map_cons, K.cntLL_cons]
theorem lw_len (Pd : List (LN τ)) : Pd.length ≤ lw K Pd := by
  induction Pd with
  | nil => exact Nat.zero_le _
  | cons l r ih => rw [lw_cons, List.length_cons]; omega
def InL (x : List τ) (E Pd : List (LN τ)) : Prop := (∃ e ∈ E, e.ks = x) ∨ ∃ l ∈ Pd, l.ks = x
structure ZN (K : Kd τ) (P : LN τ → Prop) (top : List τ) (k : Nat) (E : List (LN τ)) (Q : List τ) (Pd : List (LN τ)) : Prop where
  sub1 : ∀ u ∈ Q, SubL K u top
  sub2 : ∀ l ∈ Pd, ∀ u, SubL K u l.ks → SubL K u top
  top_ : InL top E Pd
  clo : ∀ e ∈ E, ∀ a ∈ e.ks, a ∈ Q ∧ ∀ x ∈ K.kids a, InL x E Pd
  cnt : k + lw K Pd ≤ 1 + 2 * K.cntL top
  few : Q.length + nw K Pd ≤ K.cntL top
  inP : ∀ l ∈ Pd, P l
  inE : ∀ e ∈ E, P e
structure ZM (K : Kd τ) (P : LN τ → Prop) (top : List τ) (k : Nat) (E : List (LN τ)) (Q : List τ) (cur : List τ) (Pd : List (LN τ)) : Prop where
  sub1 : ∀ u ∈ Q, SubL K u top
  subC : ∀ u, SubL K u cur → SubL K u top
  sub2 : ∀ l ∈ Pd, ∀ u, SubL K u l.ks → SubL K u top
  top_ : InL top E Pd
  clo : ∀ e ∈ E, ∀ a ∈ e.ks, (a ∈ Q ∧ ∀ x ∈ K.kids a, InL x E Pd) ∨ a ∈ cur
  cnt : k + 1 + 2 * K.cntL cur + lw K Pd ≤ 1 + 2 * K.cntL top
  few : Q.length + K.cntL cur + nw K Pd ≤ K.cntL top
  inP : ∀ l ∈ Pd, P l
  inE : ∀ e ∈ E, P e
variable {P : LN τ → Prop} {top : List τ} {k : Nat} {E : List (LN τ)} {Q cur : List τ} {Pd : List (LN τ)} {l : LN τ}
theorem ZN.first (hl : P l) : ZN K P l.ks 0 [] [] [l] := by
  refine ⟨fun u hu => absurd hu (by simp), fun x hx u hu => ?_, Or.inr ⟨l, by simp, rfl⟩, fun e he => absurd he (by simp), by simp [lw], by simp [nw], fun x hx => ?_, fun e he => absurd he (by simp)⟩
  · rw [List.mem_singleton] at hx; subst hx; exact hu
  · rw [List.mem_singleton] at hx; subst hx; exact hl
theorem ZN.skip (hF : Fnl P) (h : ZN K P top k E Q (l :: Pd)) {e : LN τ} (he : e ∈ E) (hk : e.key = l.key) : ZN K P top (k + 1) E Q Pd := by
  have hks : e.ks = l.ks := hF _ _ (h.inE e he) (h.inP l (by simp)) hk
  have hin : ∀ x, InL x E (l :: Pd) → InL x E Pd := by
    rintro x (h1 | ⟨y, hy, rfl⟩)
    · exact Or.inl h1
    · rcases List.mem_cons.1 hy with rfl | hy
      · exact Or.inl ⟨e, he, hks⟩
      · exact Or.inr ⟨y, hy, rfl⟩
  refine ⟨h.sub1, fun x hx => h.sub2 x (by simp [hx]), hin _ h.top_, fun e' he' a ha => ⟨(h.clo e' he' a ha).1, fun x hx => hin _ ((h.clo e' he' a ha).2 x hx)⟩, ?_, ?_, fun x hx => h.inP x (by simp [hx]), h.inE⟩
  · have := h.cnt; rw [lw_cons] at this; omega
  · have := h.few; rw [nw_cons] at this; omega
theorem ZN.enter (h : ZN K P top k E Q (l :: Pd)) : ZM K P top k (E ++ [l]) Q l.ks Pd := by
  have hin : ∀ x, InL x E (l :: Pd) → InL x (E ++ [l]) Pd := by
    rintro x (⟨y, hy, rfl⟩ | ⟨y, hy, rfl⟩)
    · exact Or.inl ⟨y, by simp [hy], rfl⟩
    · rcases List.mem_cons.1 hy with rfl | hy
      · exact Or.inl ⟨y, by simp, rfl⟩
      · exact Or.inr ⟨y, hy, rfl⟩
  refine ⟨h.sub1, h.sub2 l (by simp), fun x hx => h.sub2 x (by simp [hx]), hin _ h.top_, fun e he a ha => ?_, ?_, ?_, fun x hx => h.inP x (by simp [hx]), fun e he => ?_⟩
  · rcases List.mem_append.1 he with he | he
    · exact Or.inl ⟨(h.clo e he a ha).1, fun x hx => hin _ ((h.clo e he a ha).2 x hx)⟩
    · rw [List.mem_singleton] at he; subst he; exact Or.inr ha
  · have := h.cnt; rw [lw_cons] at this; omega
  · have := h.few; rw [nw_cons] at this; omega
  · rcases List.mem_append.1 he with he | he
    · exact h.inE e he
    · rw [List.mem_singleton] at he; subst he; exact h.inP e (by simp)
theorem ZM.step {t : τ} {KL : List (LN τ)} (h : ZM K P top k E Q (t :: cur) Pd) (hk : KL.map LN.ks = K.kids t) (hP : ∀ l ∈ KL, P l) : ZM K P top k E (Q ++ [t]) cur (Pd ++ KL) := by
  have hin : ∀ x, InL x E Pd → InL x E (Pd ++ KL) := by
    rintro x (h1 | ⟨y, hy, rfl⟩)
    · exact Or.inl h1
    · exact Or.inr ⟨y, by simp [hy], rfl⟩
  have hkid : ∀ x ∈ K.kids t, InL x E (Pd ++ KL) := fun x hx => by
    rw [← hk] at hx
    obtain ⟨y, hy, rfl⟩ := List.mem_map.1 hx
    exact Or.inr ⟨y, by simp [hy], rfl⟩
  have hc := K.cnt_kids t
  have h2 := K.two t
  refine ⟨fun u hu => ?_, fun u ⟨a, ha, hs⟩ => h.subC u ⟨a, by simp [ha], hs⟩, fun x hx u hu => ?_, hin _ h.top_, fun e he a ha => ?_, ?_, ?_, fun x hx => ?_, h.inE⟩
  · rcases List.mem_append.1 hu with hu | hu
    · exact h.sub1 u hu
    · rw [List.mem_singleton] at hu; subst hu; exact h.subC u ⟨u, by simp, .here u⟩
  · rcases List.mem_append.1 hx with hx | hx
    · exact h.sub2 x hx u hu
    · have hx' : x.ks ∈ K.kids t := by rw [← hk]; exact List.mem_map.2 ⟨x, hx, rfl⟩
      exact h.subC u ⟨t, by simp, sub_iff.2 (Or.inr ⟨x.ks, hx', hu⟩)⟩
  · rcases h.clo e he a ha with ⟨h1, h2⟩ | h3
    · exact Or.inl ⟨by simp [h1], fun x hx => hin _ (h2 x hx)⟩
    · rcases List.mem_cons.1 h3 with rfl | h3
      · exact Or.inl ⟨by simp, hkid⟩
      · exact Or.inr h3
  · have := h.cnt
    rw [K.cntL_cons] at this
    rw [lw_append, lw_kids hk]; omega
  · have := h.few
    rw [K.cntL_cons] at this
    rw [nw_append, nw_kids hk, List.length_append, List.length_singleton]; omega
  · rcases List.mem_append.1 hx with hx | hx
    · exact h.inP x hx
    · exact hP x hx
theorem ZM.end_ (h : ZM K P top k E Q [] Pd) : ZN K P top (k + 1) E Q Pd :=
  ⟨h.sub1, h.sub2, h.top_, fun e he a ha => (h.clo e he a ha).elim id fun h3 => absurd h3 (by simp), by have := h.cnt; rw [K.cntL_nil] at this; omega, by have := h.few; rw [K.cntL_nil] at this; omega, h.inP, h.inE⟩
theorem ZN.end_ (h : ZN K P top k E Q []) (u : τ) : u ∈ Q ↔ SubL K u top := by
  refine ⟨h.sub1 u, ?_⟩
  have hE : ∀ x, InL x E [] → ∃ e ∈ E, e.ks = x := by
    rintro x (h1 | ⟨y, hy, _⟩)
    · exact h1
    · cases hy
  have key : ∀ t, Sub K u t → ∀ e ∈ E, t ∈ e.ks → u ∈ Q := fun t hs => by
    induction hs with
    | here => exact fun e he ht => (h.clo e he _ ht).1
    | kid h1 h2 _ ih =>
      intro e he ht
      obtain ⟨e', he', ex⟩ := hE _ ((h.clo e he _ ht).2 _ h1)
      exact ih e' he' (by rw [ex]; exact h2)
  rintro ⟨a, ha, hs⟩
  obtain ⟨e, he, ex⟩ := hE _ h.top_
  exact key a hs e he (by rw [ex]; exact ha)
end
def eqLs {α : Type} (e : α → α → Bool) : List α → List α → Bool
  | [], [] => true
  | a :: r, b :: q => e a b && eqLs e r q
  | [], _ :: _ => false
  | _ :: _, [] => false
structure Kq (τ : Type) extends Kd τ where
  root : τ → τ → Bool
  eq : τ → τ → Bool
  eq_eq : ∀ s t, eq s t = (root s t && eqLs (eqLs eq) (kids s) (kids t))
  kids_len : ∀ s t, (kids s).length = (kids t).length
open Tr
theorem depK_mem' {ks : List T} {f : T → Nat} {a : T} (ha : a ∈ ks) : f a ≤ depK ks f := by
  unfold depK
  have key : ∀ (l : List T) (n : Nat), n ≤ l.foldl (fun n a => max n (f a)) n ∧ ∀ b ∈ l, f b ≤ l.foldl (fun n a => max n (f a)) n := fun l => by
    induction l with
    | nil => exact fun n => ⟨Nat.le_refl _, fun _ hb => absurd hb (by simp)⟩
    | cons c r ih =>
      intro n
      obtain ⟨h1, h2⟩ := ih (max n (f c))
      refine ⟨Nat.le_trans (Nat.le_max_left _ _) h1, fun b hb => ?_⟩
      rcases List.mem_cons.1 hb with rfl | hb
      · exact Nat.le_trans (Nat.le_max_right _ _) h1
      · exact h2 b hb
  exact (key ks 0).2 a ha
def kidsT : T → List (List T)
  | .mk _ _ _ ks => [ks]
def rootT : T → T → Bool
  | .mk k n s _, .mk k' n' s' _ => (k == k') && ((n == n') && (s == s'))
theorem depK_mx (ks : List T) : depK ks depT = mx depT ks :=
  Nat.le_antisymm (depK_bd ks depT _ fun _ ha => mx_mem ha) (mx_bd fun _ ha => depK_mem' ha)
theorem eqL_eqLs : ∀ ks ks' : List T, eqL ks ks' = eqLs eqT ks ks'
  | [], [] => by rw [eqL]; rfl
  | a :: r, b :: q => by rw [eqL, eqLs, eqL_eqLs r q]
  | [], _ :: _ => by rw [eqL]; rfl
  | _ :: _, [] => by rw [eqL]; rfl
def kqX : Kq T where
  kids := kidsT
  cnt := cntT
  dep := depT
  cnt_eq := fun t => by obtain ⟨k, n, s, ks⟩ := t; rw [cntT_mk]; simp [kidsT, cntK]
  dep_eq := fun t => by
    obtain ⟨k, n, s, ks⟩ := t
    rw [depT_mk, depK_mx]
    show _ = 1 + Nat.max (mx depT ks) 0
    have : Nat.max (mx depT ks) 0 = mx depT ks := Nat.max_eq_left (Nat.zero_le _)
    omega
  two := fun t => by obtain ⟨k, n, s, ks⟩ := t; simp [kidsT]
  root := rootT
  eq := eqT
  eq_eq := fun a b => by
    obtain ⟨k, n, s, ks⟩ := a
    obtain ⟨k', n', s', ks'⟩ := b
    rw [eqT_mk, eqL_eqLs]
    simp [kidsT, rootT, eqLs, Bool.and_assoc]
  kids_len := fun a b => by cases a; cases b; rfl
abbrev kdX : Kd T := kqX.toKd
theorem varsT_sub (x : List UInt8) (t : T) : x ∈ varsT t ↔ ∃ n ks, Sub kdX (.mk 2 n x ks) t := by
  induction t using T.ind with
  | h k n s ks ih =>
    rw [varsT_mk, List.mem_append]
    have hk : x ∈ varsK ks ↔ ∃ n' ks', SubL kdX (.mk 2 n' x ks') ks := by
      unfold varsK
      rw [List.mem_flatten]
      constructor
      · rintro ⟨l, hl, hx⟩
        obtain ⟨a, ha, rfl⟩ := List.mem_map.1 hl
        obtain ⟨n', ks', h⟩ := (ih a ha).1 hx
        exact ⟨n', ks', a, ha, h⟩
      · rintro ⟨n', ks', a, ha, h⟩
        exact ⟨varsT a, List.mem_map.2 ⟨a, ha, rfl⟩, (ih a ha).2 ⟨n', ks', h⟩⟩
    rw [hk]
    constructor
    · rintro (h | ⟨n', ks', h⟩)
      · by_cases h2 : k = 2
        · rw [if_pos h2, List.mem_singleton] at h
          subst h2; subst h
          exact ⟨n, ks, .here _⟩
        · rw [if_neg h2] at h; cases h
      · exact ⟨n', ks', sub_iff.2 (Or.inr ⟨ks, List.mem_singleton.2 rfl, h⟩)⟩
    · rintro ⟨n', ks', h⟩
      rcases sub_iff.1 h with h | ⟨l, hl, h⟩
      · cases h; exact Or.inl (by simp)
      · have hl : l ∈ [ks] := hl
        rw [List.mem_singleton] at hl
        rw [hl] at h
        exact Or.inr ⟨n', ks', h⟩
end Go.Proofs.YtnmomlaimffonaaGreat.Kd
set_option maxRecDepth 100000
namespace Go.Proofs.YtnmomlaimffonaaGreat.Gx
open Go.RowKit Go.Lib Go.Sort Com Mem Tr Im Ag Pl Kd
def RdN (W : World) (B : Nat) (cs : List Value) (t : T) : Prop := Ex W B (.agg cs.toArray) t
def LdC (W : World) (a : Addr) (cs : List Value) : Prop := Ld4 W a (.agg cs.toArray)
structure LAt (W : World) (B : Nat) (l : LN T) (rows : Nat → List Value) : Prop where
  cell : ∀ j, j < l.ks.length → ∃ ad, l.A = some ad ∧ ad.block < B ∧ LdC W (ad.add (j * 4)) (rows j)
  kid : ∀ j t, l.ks[j]? = some t → RdN W B (rows j) t
  len : l.ks.length ≤ 9223372036854775807
def LA (W : World) (B : Nat) (l : LN T) : Prop := ∃ rows, LAt W B l rows
theorem ldC_keep {W W' : World} {a : Addr} {cs : List Value} (h : LdC W a cs) (hk : ∀ p : Addr, p.block = a.block → W'.cell? p = W.cell? p) : LdC W' a cs :=
  Ld4.keep h hk
theorem ldC_out {W : World} {a : Addr} {cs : List Value} (h : LdC (pln W) a cs) : LdC W a cs ∧ IsPl W a.block :=
  pln_ld4 h
theorem ldC_cells {W : World} {a : Addr} {cs : List Value} (h : LdC W a cs) : ∃ v0 v1 v2 v3, cs = [v0, v1, v2, v3] ∧ W.cell? a = some v0 ∧ W.cell? ⟨a.block, a.off + 1, none⟩ = some v1 ∧ W.cell? ⟨a.block, a.off + 2, none⟩ = some v2 ∧ W.cell? ⟨a.block, a.off + 3, none⟩ = some v3 := by
  obtain ⟨c0, c1, c2, c3, e, h0, h1, h2, h3⟩ := h
  injection e with e
  exact ⟨c0, c1, c2, c3, congrArg Array.toList e, h0, h1, h2, h3⟩
theorem ldC_at {W : World} {a : Addr} {v0 v1 v2 v3 : Value} (h : LdC W a [v0, v1, v2, v3]) : W.cell? a = some v0 ∧ W.cell? ⟨a.block, a.off + 1, none⟩ = some v1 ∧ W.cell? ⟨a.block, a.off + 2, none⟩ = some v2 ∧ W.cell? ⟨a.block, a.off + 3, none⟩ = some v3 := by
  obtain ⟨_, _, _, _, e, h⟩ := ldC_cells h
  cases e; exact h
theorem ldC_fun {W : World} {a : Addr} {cs cs' : List Value} (h : LdC W a cs) (h' : LdC W a cs') : cs = cs' := by
  have := ld4_fun h h'
  injection this with e
  exact congrArg Array.toList e
theorem rdN_fun {W : World} {B B' : Nat} {cs : List Value} {t t' : T} (h : RdN W B cs t) (h' : RdN W B' cs t') : t = t' := ex_fun h h'
theorem la_fun {W : World} {B : Nat} : Fnl (LA W B) := by
  rintro ⟨A, c, ks⟩ ⟨A', c', ks'⟩ ⟨r, h⟩ ⟨r', h'⟩ hk
  unfold LN.key at hk
  injection hk with hk1 hk2
  apply List.ext_getElem hk2
  intro j g1 g2
  have g1' : j < ks.length := g1
  rw [if_neg (by show ¬ ks.length = 0; omega), if_neg (by show ¬ ks'.length = 0; have g2' : j < ks'.length := g2; omega)] at hk1
  obtain ⟨ad, ea, _, hld⟩ := h.cell j g1
  obtain ⟨ad', ea', _, hld'⟩ := h'.cell j g2
  have ea : A = some ad := ea
  have ea' : A' = some ad' := ea'
  have hk1 : A = A' := hk1
  rw [ea, ea'] at hk1
  cases hk1
  have hcs := ldC_fun hld hld'
  refine rdN_fun (h.kid j _ (List.getElem?_eq_getElem g1)) (t' := ks'[j]) (B' := B) ?_
  rw [hcs]
  exact h'.kid j _ (List.getElem?_eq_getElem g2)
theorem la_ad {w : World} {B : Nat} {l : LN T} (h : LA (pln w) B l) (hne : l.ks ≠ []) : ∃ ad, l.A = some ad ∧ IsPl w ad.block ∧ ad.block < B := by
  obtain ⟨rows, h⟩ := h
  obtain ⟨ad, e, hB, hl⟩ := h.cell 0 (List.length_pos_iff.2 hne)
  have := (ldC_out hl).2
  rw [add_block] at this
  exact ⟨ad, e, this, hB⟩
theorem la_pt {w : World} {B : Nat} {l : LN T} (h : LA (pln w) B l) : PtOk w l.key.1 := PtOk_key fun hne ad e => by
  obtain ⟨ad', e', hp, _⟩ := la_ad h hne
  rw [e] at e'; cases e'; exact hp
theorem la_at {w wr : World} {l : LN T} {m : Nat} {t : T} (h : LA (pln w) w.heap.size l) (hb : Below w.heap.size w wr) (ht : l.ks[m]? = some t) :
    ∃ ad v0 v1 v2 v3, l.A = some ad ∧ LdC wr (ad.add (m * 4)) [v0, v1, v2, v3] ∧ RdN (pln w) w.heap.size [v0, v1, v2, v3] t := by
  obtain ⟨rows, h⟩ := h
  have hm : m < l.ks.length := by
    rcases Nat.lt_or_ge m l.ks.length with h1 | h1
    · exact h1
    · rw [List.getElem?_eq_none h1] at ht; cases ht
  obtain ⟨ad, e, hB, hl⟩ := h.cell m hm
  have hk := h.kid m t ht
  have h1 := (ldC_out hl).1
  have h2 := ldC_keep h1 (W' := wr) fun p hp => hb.cell (by rw [hp, add_block]; exact hB)
  obtain ⟨v0, v1, v2, v3, ev, _⟩ := ldC_cells h2
  rw [ev] at h2 hk
  exact ⟨ad, v0, v1, v2, v3, e, h2, hk⟩
theorem rdN_form {W : World} {B : Nat} {v0 v1 v2 v3 : Value} {t : T} (h : RdN W B [v0, v1, v2, v3] t) : ∃ (nk nn : Int) (ns : List UInt8) (nA : Option Addr) (nl nc : Nat), [v0, v1, v2, v3] = ([.int .i64 nk, .int .i64 nn, sv ns, .slice nA nl nc] : List Value) := by
  obtain ⟨k, n, s, ks⟩ := t
  obtain ⟨A, c, vs, e, _, hl, hk⟩ := Ex.kids h
  injection e with e
  exact ⟨k, n, s, A, ks.length, c, congrArg Array.toList e⟩
theorem la_node {w wr : World} {l : LN T} {m : Nat} {t : T} (h : LA (pln w) w.heap.size l) (hb : Below w.heap.size w wr) (ht : l.ks[m]? = some t) :
    ∃ (ad : Addr) (nk nn : Int) (ns : List UInt8) (nA : Option Addr) (nl nc : Nat), l.A = some ad ∧ LdC wr (ad.add (m * 4)) [.int .i64 nk, .int .i64 nn, sv ns, .slice nA nl nc] ∧ RdN (pln w) w.heap.size [.int .i64 nk, .int .i64 nn, sv ns, .slice nA nl nc] t := by
  obtain ⟨ad, v0, v1, v2, v3, hA, hld, hrd⟩ := la_at h hb ht
  obtain ⟨nk, nn, ns, nA, nl, nc, e⟩ := rdN_form hrd
  rw [e] at hld hrd
  exact ⟨ad, nk, nn, ns, nA, nl, nc, hA, hld, hrd⟩
theorem rdN_kids {W : World} {B : Nat} {v0 v1 v2 v3 : Value} {t : T} (h : RdN W B [v0, v1, v2, v3] t) :
    ∃ KL : List (LN T), KL.map LN.ks = kidsT t ∧ (∀ l ∈ KL, LA W B l) ∧ KL.map slv = [v3] := by
  obtain ⟨k, n, s, ks⟩ := t
  obtain ⟨A, c, vs, e, _, hl, hk⟩ := Ex.kids h
  injection e with e
  have e : [v0, v1, v2, v3] = [Value.int .i64 k, .int .i64 n, sv s, .slice A ks.length c] := congrArg Array.toList e
  injection e with _ e; injection e with _ e; injection e with _ e; injection e with e _
  refine ⟨[⟨A, c, ks⟩], rfl, fun l hl' => ?_, by rw [e]; rfl⟩
  rw [List.mem_singleton] at hl'; subst hl'
  refine ⟨fun j => match vs j with | .agg cs => cs.toList | _ => [], fun j hj => ?_, fun j t ht => ?_, hl⟩
  · obtain ⟨ad, ea, hB, hld⟩ := hk.cell j hj
    refine ⟨ad, ea, hB, ?_⟩
    have hld' := hld
    obtain ⟨c0, c1, c2, c3, ev, _⟩ := hld'
    rw [ev] at hld ⊢
    exact hld
  · have hj : j < ks.length := by
      rcases Nat.lt_or_ge j ks.length with h1 | h1
      · exact h1
      · rw [List.getElem?_eq_none h1] at ht; cases ht
    obtain ⟨ad, ea, hB, c0, c1, c2, c3, ev, _⟩ := hk.cell j hj
    have := hk.kid j t ht
    unfold RdN
    rw [ev] at this ⊢
    exact this
abbrev belowF : Value := .func (Fn.func 135) #[] #[]
abbrev RowT : TypeId := 90
theorem below_c (v0 v1 v2 : Value) (A : Option Addr) (l c : Nat) (w : World) : Calls Tryz.prog 135 #[.agg #[v0, v1, v2, .slice A l c]] w fun e w' => ∃ g, e = .returned (.slice (some ⟨g, 0, none⟩) 1 1) ∧ w.heap.size ≤ g ∧ Blk w' g 90 [.slice A l c] ∧ Below w.heap.size w w' := by
  have hb := hid (box_below w (.cells #[v0, v1, v2, .slice A l c] 92))
  have hB := hid (Blk.new w 92 [v0, v1, v2, .slice A l c])
  go_enter Tryz.func135, Tryz.ntmps135
  have p3 : (w.alloc (.cells #[v0, v1, v2, .slice A l c] 92)).cell? ⟨w.heap.size, 3, none⟩ = some (.slice A l c) := hB.out.cell 3
  go_wp2_with fail
  go_ret
  have hn := Blk.new (w.alloc (.cells #[v0, v1, v2, .slice A l c] 92)) 90 [.slice A l c]
  rw [size_alloc'] at hn
  exact ⟨_, rfl, Nat.le_succ _, hn, hb.out.trans ((box_below _ _).mono hb.out.size)⟩
theorem below_any {v0 v1 v2 v3 : Value} {t : T} {W : World} {B : Nat} (h : RdN W B [v0, v1, v2, v3] t) : ∃ KL : List (LN T), KL.map LN.ks = kidsT t ∧ (∀ l ∈ KL, LA W B l) ∧ KL.length ≤ 2 ∧
    ∀ w, Calls Tryz.prog 135 #[.agg #[v0, v1, v2, v3]] w fun e w' => ∃ g, e = .returned (.slice (some ⟨g, 0, none⟩) KL.length KL.length) ∧ w.heap.size ≤ g ∧ Blk w' g RowT (KL.map slv) ∧ Below w.heap.size w w' := by
  obtain ⟨KL, h1, h2, h3⟩ := rdN_kids h
  have hl : KL.length = 1 := by have := congrArg List.length h3; simpa using this
  obtain ⟨l0, rfl⟩ := List.length_eq_one_iff.1 hl
  injection h3 with h3 _
  subst h3
  refine ⟨[l0], h1, h2, by simp, fun w => (below_c v0 v1 v2 l0.A l0.ks.length l0.c w).mono fun e w' ⟨g, e1, e2, e3, e4⟩ => ⟨g, e1, e2, e3, e4⟩⟩
end Go.Proofs.YtnmomlaimffonaaGreat.Gx
