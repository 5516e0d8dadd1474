/- Reading the text of a valid expression gives the expression again: the parser on those tokens. -/
import Derived.Test.YtiogceepjffmkaaGreatDoorQXa
set_option maxRecDepth 100000
namespace Go.Proofs.YtiogceepjffmkaaGreatDoor.Tk
open Go.RowKit Go.Lib Num Mem Ch Tr
structure PzOk (ts : List Tok) (en l i : Nat) (e : T) (j : Nat) : Prop where
 lt : i < j
 le : j ≤ ts.length
 go : ∀ n, need ts l i ≤ n → pz ts en n l i = .ok (e, j)
structure LzOk (ts : List Tok) (en l : Nat) (e0 : T) (i : Nat) (e : T) (j : Nat) : Prop where
 le : i ≤ j
 len : j ≤ ts.length
 go : ∀ n, need ts l i + 1 ≤ n → lz ts en n l e0 i = .ok (e, j)
section
variable {ts : List Tok} {en l i j k : Nat} {e e' r : T} {o : Int}
theorem PzOk.level (h : PzOk ts en (l + 1) i e j) (hl : l ≤ 5) (h2 : LzOk ts en l e j e' k) : PzOk ts en l i e' k := by
 have h1 := h.lt
 have h3 := h2.le
 have h4 := h.le
 refine ⟨by omega, h2.len, fun n hn => ?_⟩
 unfold need at hn
 cases n with
 | zero => omega
 | succ n =>
  rw [pz, if_neg (by omega), if_neg (by omega), h.go n (by unfold need; omega)]
  exact h2.go n (by unfold need; omega)
theorem LzOk.nil (hj : j ≤ ts.length) (h : opAt ts l j = 0) : LzOk ts en l e j e j := by
 refine ⟨Nat.le_refl _, hj, fun n hn => ?_⟩
 cases n with
 | zero => omega
 | succ n => rw [lz, if_pos h]
theorem LzOk.op (ho : opAt ts l j = o) (h0 : o ≠ 0) (hl : l ≤ 5) (h3 : l ≠ 3) (h : PzOk ts en (l + 1) (j + 1) r k) {m : Nat} (h2 : LzOk ts en l (opT o e r) k e' m) : LzOk ts en l e j e' m := by
 have a1 := h.lt
 have a2 := h2.le
 have a3 := h.le
 refine ⟨by omega, h2.len, fun n hn => ?_⟩
 unfold need at hn
 cases n with
 | zero => omega
 | succ n =>
  rw [lz, if_neg (by rw [ho]; exact h0), h.go n (by unfold need; omega)]
  show (if l = 3 then _ else _) = _
  rw [if_neg h3, ho]
  exact h2.go n (by unfold need; omega)
theorem LzOk.cmp (ho : opAt ts 3 j = o) (h0 : o ≠ 0) (h : PzOk ts en 4 (j + 1) r k) : LzOk ts en 3 e j (opT o e r) k := by
 have a1 := h.lt
 have a3 := h.le
 refine ⟨by omega, h.le, fun n hn => ?_⟩
 unfold need at hn
 cases n with
 | zero => omega
 | succ n =>
  rw [lz, if_neg (by rw [ho]; exact h0), h.go n (by unfold need; omega)]
  show (if 3 = 3 then _ else _) = _
  rw [if_pos rfl, ho]
theorem PzOk.atom (h : PzOk ts en 7 i e j) (hs : seesB ts i [33] = false) : PzOk ts en 6 i e j := by
 refine ⟨h.lt, h.le, fun n hn => ?_⟩
 unfold need at hn
 cases n with
 | zero => omega
 | succ n => rw [pz, if_neg (by omega), if_pos rfl, if_neg (by rw [hs]; simp), h.go n (by unfold need; omega)]
theorem PzOk.not (h : PzOk ts en 6 (i + 1) e j) (hs : seesB ts i [33] = true) : PzOk ts en 6 i (notT e) j := by
 have a1 := h.lt
 have a2 := h.le
 refine ⟨by omega, h.le, fun n hn => ?_⟩
 unfold need at hn
 cases n with
 | zero => omega
 | succ n => rw [pz, if_neg (by omega), if_pos rfl, if_pos hs, h.go n (by unfold need; omega)]
theorem PzOk.num {t : Tok} (h : ts[i]? = some t) (hk : t.k = 2) : PzOk ts en 7 i (constT t.n) (i + 1) := by
 have hlt := lt_of_get h
 refine ⟨by omega, by omega, fun n hn => ?_⟩
 unfold need at hn
 cases n with
 | zero => omega
 | succ n =>
  rw [pz, if_pos (by omega), h]
  show (if t.k = 2 then _ else _) = _
  rw [if_pos hk]
theorem PzOk.name {t : Tok} (h : ts[i]? = some t) (hk : t.k = 1) (hv : C2.validB t.s = true) : PzOk ts en 7 i (varT t.s) (i + 1) := by
 have hlt := lt_of_get h
 have hw : isWordB t [40] = false := by
  have hne : t.s ≠ [40] := fun e => by rw [e] at hv; exact absurd hv (by decide)
  unfold isWordB
  rw [decide_eq_false hne, Bool.and_false]
 refine ⟨by omega, by omega, fun n hn => ?_⟩
 unfold need at hn
 cases n with
 | zero => omega
 | succ n =>
  rw [pz, if_pos (by omega), h]
  show (if t.k = 2 then _ else _) = _
  rw [if_neg (by omega), if_neg (by rw [hw]; simp), if_pos ⟨hk, hv⟩]
theorem PzOk.par {t : Tok} (h : ts[i]? = some t) (hk : t.k = 3) (hs : t.s = [40]) (hp : PzOk ts en 1 (i + 1) e j) (hc : seesB ts j [41] = true) : PzOk ts en 7 i e (j + 1) := by
 have hlt := sees_lt hc
 have a1 := hp.lt
 have hw : isWordB t [40] = true := by
  unfold isWordB
  rw [hk, hs]; rfl
 refine ⟨by omega, by omega, fun n hn => ?_⟩
 unfold need at hn
 cases n with
 | zero => omega
 | succ n =>
  rw [pz, if_pos (by omega), h]
  show (if t.k = 2 then _ else _) = _
  rw [if_neg (by omega), if_pos hw, hp.go n (by unfold need; omega)]
  show (if seesB ts j [41] = true then _ else _) = _
  rw [if_pos hc]
end
def From (ts : List Tok) (i : Nat) (l : List Tok) : Prop := i ≤ ts.length ∧ (ts.map st).drop i = l
theorem From.skip {ts : List Tok} {i : Nat} {l R : List Tok} (h : From ts i (l ++ R)) : From ts (i + l.length) R := by
 obtain ⟨h1, h2⟩ := h
 have hlen := congrArg List.length h2
 simp only [List.length_drop, List.length_map, List.length_append] at hlen
 refine ⟨by omega, ?_⟩
 rw [← List.drop_drop, h2, List.drop_left]
theorem From.cons {ts : List Tok} {i : Nat} {x : Tok} {R : List Tok} (h : From ts i (x :: R)) : (∃ t, ts[i]? = some t ∧ t.k = x.k ∧ t.n = x.n ∧ t.s = x.s) ∧ From ts (i + 1) R := by
 refine ⟨?_, From.skip (l := [x]) h⟩
 obtain ⟨h1, h2⟩ := h
 have hg : (ts.map st)[i]? = some x := by
  have := congrArg (fun l => l[0]?) h2
  simpa using this
 rw [List.getElem?_map] at hg
 cases ht : ts[i]? with
 | none => rw [ht] at hg; cases hg
 | some t =>
  rw [ht] at hg
  have e : st t = x := Option.some.inj hg
  subst e
  exact ⟨t, rfl, rfl, rfl, rfl⟩
theorem From.sees {ts : List Tok} {i : Nat} {x : Tok} {R : List Tok} (h : From ts i (x :: R)) (s : List UInt8) : seesB ts i s = isWordB x s := by
 obtain ⟨⟨t, ht, hk, _, hs⟩, _⟩ := h.cons
 unfold seesB
 rw [ht]
 show isWordB t s = _
 unfold isWordB
 rw [hk, hs]
theorem From.atOp {ts : List Tok} {i : Nat} {x : Tok} {R : List Tok} (h : From ts i (x :: R)) (l : Nat) : opAt ts l i = ((opsOf l).find? fun op => isWordB x (C3.symL op)).getD 0 := by
 unfold opAt
 congr 2
 funext op
 exact h.sees _
def NoOp (ts : List Tok) (l i : Nat) : Prop := ∀ m, l ≤ m → m ≤ 5 → opAt ts m i = 0
theorem NoOp.mono {ts : List Tok} {l l' i : Nat} (h : NoOp ts l i) (hl : l ≤ l') : NoOp ts l' i := fun m h1 h2 => h m (by omega) h2
theorem op_cmp {n : Int} (h : 1 ≤ n ∧ n ≤ 8) : 1 ≤ lvl 3 n ∧ lvl 3 n ≤ 5 ∧ n ≠ 0 ∧ ∀ m, m ≤ 5 → ((opsOf m).find? fun op => isWordB (symT n) (C3.symL op)).getD 0 = if m = lvl 3 n then n else 0 := by
 rcases C3.op_cases h.1 h.2 with rfl | rfl | rfl | rfl | rfl | rfl | rfl | rfl <;> decide
theorem From.sym {ts : List Tok} {i : Nat} {n : Int} {R : List Tok} (h : From ts i (symT n :: R)) (hn : 1 ≤ n ∧ n ≤ 8) : opAt ts (lvl 3 n) i = n ∧ NoOp ts (lvl 3 n + 1) i := by
 obtain ⟨_, h5, _, hm⟩ := op_cmp hn
 refine ⟨by rw [h.atOp, hm _ h5, if_pos rfl], fun m h1 h2 => ?_⟩
 rw [h.atOp, hm _ h2, if_neg (by omega)]
theorem From.close {ts : List Tok} {i : Nat} {R : List Tok} (h : From ts i (rpT :: R)) (l : Nat) (hl : 1 ≤ l) : NoOp ts l i := fun m h1 h2 => by
 rw [h.atOp]
 have hm : m = 1 ∨ m = 2 ∨ m = 3 ∨ m = 4 ∨ m = 5 := by omega
 rcases hm with rfl | rfl | rfl | rfl | rfl <;> decide
section
variable {ts : List Tok} {en l l' i j : Nat} {e : T}
theorem PzOk.lift : ∀ (d : Nat) {l : Nat}, PzOk ts en (l + d) i e j → l + d ≤ 6 → NoOp ts l j → PzOk ts en l i e j
 | 0, _, h, _, _ => h
 | d + 1, l, h, h6, hno => by
  have h1 := PzOk.lift d (l := l + 1) (by rw [show l + 1 + d = l + (d + 1) by omega]; exact h) (by omega) (hno.mono (by omega))
  exact h1.level (by omega) (.nil h1.le (hno l (Nat.le_refl _) (by omega)))
theorem PzOk.down (h : PzOk ts en l' i e j) (hl : l ≤ l') (h7 : l' ≤ 7) (hno : NoOp ts l j) (hs : l' = 7 → seesB ts i [33] = false) : PzOk ts en l i e j := by
 by_cases h6 : l' ≤ 6
 ·exact PzOk.lift (l' - l) (by rw [show l + (l' - l) = l' by omega]; exact h) (by omega) hno
 ·obtain rfl : l' = 7 := by omega
  by_cases hl7 : l = 7
  ·subst hl7; exact h
  ·exact PzOk.lift (6 - l) (by rw [show l + (6 - l) = 6 by omega]; exact h.atom (hs rfl)) (by omega) hno
end
structure RdT (t : T) : Prop where
 all : ∀ (ts : List Tok) (en i : Nat) (R : List Tok), From ts i (tkT t ++ R) → ∀ l, 1 ≤ l → l ≤ lvlT t → NoOp ts l (i + (tkT t).length) → PzOk ts en l i t (i + (tkT t).length)
 on : ∀ (ts : List Tok) (en i : Nat) (R : List Tok), From ts i (tkT t ++ R) → ∀ l, lvlT t = l → l ≤ 5 → l ≠ 3 → NoOp ts (l + 1) (i + (tkT t).length) → ∀ e' j', LzOk ts en l t (i + (tkT t).length) e' j' → PzOk ts en l i e' j'
theorem RdT.paren {t : T} (h : RdT t) (ts : List Tok) (en i : Nat) (R : List Tok) (l : Nat) (hl : 1 ≤ l) (h7 : l ≤ 7) (hf : From ts i (parK (tkT t) (decide (lvlT t < l)) ++ R)) (hno : NoOp ts l (i + (parK (tkT t) (decide (lvlT t < l))).length)) : PzOk ts en l i t (i + (parK (tkT t) (decide (lvlT t < l))).length) := by
 by_cases hlt : lvlT t < l
 ·rw [decide_eq_true hlt] at *
  have e0 : parK (tkT t) true ++ R = lpT :: (tkT t ++ (rpT :: R)) := by simp [parK]
  have e1 : (parK (tkT t) true).length = (tkT t).length + 2 := by simp [parK]
  rw [e1] at hno ⊢
  rw [e0] at hf
  have hs := hf.sees [33]
  obtain ⟨⟨x, hx, hk, _, hxs⟩, hf1⟩ := hf.cons
  have hf2 := hf1.skip
  have hp := h.all ts en (i + 1) (rpT :: R) hf1 1 (Nat.le_refl _) (by obtain ⟨k, n, s, ks⟩ := t; exact (lvl_le k n).1) (hf2.close 1 (Nat.le_refl _))
  have hc := hf2.sees [41]
  have h8 := PzOk.par hx hk hxs hp (by rw [hc]; rfl)
  rw [show i + 1 + (tkT t).length + 1 = i + ((tkT t).length + 2) by omega] at h8
  exact h8.down (by omega) (Nat.le_refl _) hno fun _ => by rw [hs]; rfl
 ·rw [decide_eq_false hlt] at *
  exact h.all ts en i R hf l hl (by omega) hno
theorem RdT.left {t : T} (h : RdT t) (ts : List Tok) (en i : Nat) (R : List Tok) (l : Nat) (hl : 1 ≤ l) (h5 : l ≤ 5) (h3 : l ≠ 3) (hf : From ts i (parK (tkT t) (decide (lvlT t < l)) ++ R)) (hno : NoOp ts (l + 1) (i + (parK (tkT t) (decide (lvlT t < l))).length)) (e' : T) (j' : Nat) (hz : LzOk ts en l t (i + (parK (tkT t) (decide (lvlT t < l))).length) e' j') : PzOk ts en l i e' j' := by
 by_cases he : lvlT t = l
 ·rw [decide_eq_false (by omega)] at *
  exact h.on ts en i R hf l he h5 h3 hno e' j' hz
 ·have e1 : decide (lvlT t < l) = decide (lvlT t < l + 1) := decide_eq_decide.2 (by omega)
  rw [e1] at hf hno hz
  exact (h.paren ts en i R (l + 1) (by omega) (by omega) hf hno).level h5 hz
theorem rdT (t : T) : allT t = true → RdT t := by
 induction t using T.ind with
 | h k n s ks ih =>
  intro hall
  have hnode : nodeB k n s ks.length = true := by rw [allT_mk, Bool.and_eq_true] at hall; exact hall.2
  rcases node_cases hnode with rfl | rfl | ⟨rfl, a, b, rfl⟩ | ⟨rfl, a, rfl⟩
  ·have hz : s = [] ∧ ks = [] := by
    unfold nodeB at hnode
    rw [if_pos rfl] at hnode
    simp only [Bool.and_eq_true, beq_iff_eq] at hnode
    exact ⟨hnode.2.1, List.eq_nil_of_length_eq_zero (by omega)⟩
   obtain ⟨rfl, rfl⟩ := hz
   have h7 : lvlT (.mk 1 n [] []) = 7 := rfl
   refine ⟨fun ts en i R hf l h1 hl hno => ?_, fun ts en i R hf l hl h5 => by omega⟩
   rw [tk_1] at *
   have hs := hf.sees [33]
   obtain ⟨⟨x, hx, hk, hn, _⟩, _⟩ := hf.cons
   have := PzOk.num (en := en) hx hk
   rw [hn] at this
   exact this.down (by omega) (Nat.le_refl _) hno fun _ => by rw [hs]; rfl
  ·have hz : n = 0 ∧ ks = [] ∧ C2.validB s = true := by
    unfold nodeB at hnode
    rw [if_neg (by decide), if_pos rfl] at hnode
    simp only [Bool.and_eq_true, beq_iff_eq] at hnode
    exact ⟨hnode.2.1, List.eq_nil_of_length_eq_zero (by omega), hnode.1⟩
   obtain ⟨rfl, rfl, hv⟩ := hz
   have h7 : lvlT (.mk 2 0 s []) = 7 := rfl
   refine ⟨fun ts en i R hf l h1 hl hno => ?_, fun ts en i R hf l hl h5 => by omega⟩
   rw [tk_2] at *
   have hs := hf.sees [33]
   obtain ⟨⟨x, hx, hk, _, hxs⟩, _⟩ := hf.cons
   have hxs : x.s = s := hxs
   have := PzOk.name (en := en) hx hk (by rw [hxs]; exact hv)
   rw [hxs] at this
   refine this.down (by omega) (Nat.le_refl _) hno fun _ => ?_
   rw [hs]
   have hne : s ≠ [33] := fun e => by rw [e] at hv; exact absurd hv (by decide)
   unfold isWordB
   rw [decide_eq_false hne, Bool.and_false]
  ·have hz : s = [] ∧ 1 ≤ n ∧ n ≤ 8 := by
    unfold nodeB at hnode
    rw [if_neg (by decide), if_neg (by decide), if_pos rfl] at hnode
    simp only [Bool.and_eq_true, beq_iff_eq, C3.inB, decide_eq_true_eq] at hnode
    exact ⟨hnode.2.1, by omega⟩
   obtain ⟨rfl, hn⟩ := hz
   have hA := ih a (by simp) (allT_2 hall).1
   have hB := ih b (by simp) (allT_2 hall).2
   obtain ⟨l1, l5, n0, _⟩ := op_cmp hn
   have hlv : lvlT (.mk 3 n [] [a, b]) = lvl 3 n := rfl
   /- what both parts want -/
   have core : ∀ (ts : List Tok) (en i : Nat) (R : List Tok), From ts i (tkT (.mk 3 n [] [a, b]) ++ R) → lvl 3 n ≠ 3 → NoOp ts (lvl 3 n + 1) (i + (tkT (.mk 3 n [] [a, b])).length) → ∀ e' j', LzOk ts en (lvl 3 n) (.mk 3 n [] [a, b]) (i + (tkT (.mk 3 n [] [a, b])).length) e' j' → PzOk ts en (lvl 3 n) i e' j' := by
    intro ts en i R hf h3 hno e' j' hz
    rw [tk_3, if_neg h3] at *
    rw [List.append_assoc] at hf
    have hf1 := hf.skip
    rw [List.cons_append] at hf1
    obtain ⟨ho, hno1⟩ := hf1.sym hn
    obtain ⟨_, hf2⟩ := hf1.cons
    rw [List.length_append, List.length_cons, show ∀ x y : Nat, i + (x + (y + 1)) = i + x + 1 + y from fun x y => by omega] at hno hz
    have hb := hB.paren ts en _ R (lvl 3 n + 1) (by omega) (by omega) hf2 hno
    exact hA.left ts en i _ (lvl 3 n) l1 l5 h3 hf hno1 e' j' (.op ho n0 l5 h3 hb hz)
   refine ⟨fun ts en i R hf l h1 hl hno => ?_, fun ts en i R hf l hl h5 h3 hno e' j' hz => ?_⟩
   ·rw [hlv] at hl
    by_cases h3 : lvl 3 n = 3
    ·have key : PzOk ts en 3 i (.mk 3 n [] [a, b]) (i + (tkT (.mk 3 n [] [a, b])).length) := by
      rw [tk_3, if_pos h3] at *
      rw [List.append_assoc] at hf
      have hf1 := hf.skip
      rw [List.cons_append] at hf1
      obtain ⟨ho, hno1⟩ := hf1.sym hn
      obtain ⟨_, hf2⟩ := hf1.cons
      rw [List.length_append, List.length_cons, show ∀ x y : Nat, i + (x + (y + 1)) = i + x + 1 + y from fun x y => by omega] at hno ⊢
      rw [h3] at ho hno1 hf2 hno ⊢
      have hb := hB.paren ts en _ R 4 (by omega) (by omega) hf2 (hno.mono (by omega))
      have ha := hA.paren ts en i _ 4 (by omega) (by omega) hf hno1
      exact ha.level (by omega) (.cmp ho n0 hb)
     rw [h3] at hl
     exact key.down hl (by omega) hno fun h => by omega
    ·have key := core ts en i R hf h3 (hno.mono (by omega)) _ _ (.nil (by
      have := hf.skip.1
      exact this) (hno _ hl l5))
     exact key.down hl (by omega) hno fun h => by omega
   ·rw [hlv] at hl
    subst hl
    exact core ts en i R hf h3 hno e' j' hz
  ·have hz : s = [] ∧ n = 0 := by
    unfold nodeB at hnode
    rw [if_neg (by decide), if_neg (by decide), if_neg (by decide), if_pos rfl] at hnode
    simp only [Bool.and_eq_true, beq_iff_eq] at hnode
    exact ⟨hnode.2.1, hnode.1⟩
   obtain ⟨rfl, rfl⟩ := hz
   have hA := ih a (by simp) (allT_1 hall)
   have h6 : lvlT (.mk 4 0 [] [a]) = 6 := rfl
   refine ⟨fun ts en i R hf l h1 hl hno => ?_, fun ts en i R hf l hl h5 => by omega⟩
   rw [tk_4] at *
   rw [List.cons_append] at hf
   have hs := hf.sees [33]
   obtain ⟨_, hf1⟩ := hf.cons
   rw [List.length_cons, show ∀ x : Nat, i + (x + 1) = i + 1 + x from fun x => by omega] at hno ⊢
   have ha := hA.paren ts en (i + 1) R 6 (by omega) (by omega) hf1 (fun m h1 h2 => by omega)
   exact (ha.not (by rw [hs]; rfl)).down (by omega) (by omega) hno fun h => by omega
end Go.Proofs.YtiogceepjffmkaaGreatDoor.Tk
set_option maxRecDepth 100000
namespace Go.Proofs.YtiogceepjffmkaaGreatDoor.Gd
open Go.RowKit Go.Lib Num Mem Ch Tr Tk
def LexW (F : List UInt8 → Prop) (x : List UInt8) (l : List Tok) : Prop := ∀ (r : List UInt8) (a : Nat) (out : List Tok), F r → out.length ≤ 150 → (lex (x ++ r) a out).2 = -1 → out.length + l.length ≤ 150 ∧ ∃ L, lex (x ++ r) a out = lex r (a + x.length) (out ++ L) ∧ L.map st = l
abbrev Any8 : List UInt8 → Prop := fun _ => True
theorem lexW_seq {F G : List UInt8 → Prop} {x y : List UInt8} {l m : List Tok} (hx : LexW F x l) (hy : LexW G y m) (h : ∀ r, G r → F (y ++ r)) : LexW G (x ++ y) (l ++ m) := by
 intro r a out hr ho hs
 rw [List.append_assoc] at hs ⊢
 obtain ⟨h1, L, e, hL⟩ := hx (y ++ r) a out (h r hr) ho hs
 have hLl : L.length = l.length := by rw [← hL, List.length_map]
 rw [e] at hs ⊢
 obtain ⟨h2, M, e2, hM⟩ := hy r (a + x.length) (out ++ L) hr (by rw [List.length_append]; omega) hs
 rw [List.length_append] at h2
 refine ⟨by rw [List.length_append]; omega, L ++ M, ?_, by rw [List.map_append, hL, hM]⟩
 rw [e2, List.append_assoc, List.length_append, Nat.add_assoc]
theorem lexW_nil {F : List UInt8 → Prop} : LexW F [] [] := fun r a out _ ho _ => ⟨by simpa using ho, [], by simp, rfl⟩
theorem lexW_weak {F G : List UInt8 → Prop} {x : List UInt8} {l : List Tok} (h : LexW F x l) (hg : ∀ r, G r → F r) : LexW G x l := fun r a out hr => h r a out (hg r hr)
theorem lexW_sp : LexW Any8 [32] [] := fun r a out _ ho _ => ⟨by simpa using ho, [], by
 rw [show ([32] : List UInt8) ++ r = 32 :: r from rfl, lex_sep rfl]; simp, rfl⟩
theorem lexW_tok {F : List UInt8 → Prop} {x : List UInt8} {u : Tok} (h0 : ∀ r, F r → ∃ b q, x ++ r = b :: q ∧ isSep b = false) (h : ∀ r, F r → ∀ (a : Nat) (out : List Tok), out.length ≠ 150 → ∃ v, lex (x ++ r) a out = lex r (a + x.length) (out ++ [v]) ∧ Tk.st v = u) : LexW F x [u] := by
 intro r a out hr ho hs
 by_cases h150 : out.length = 150
 ·obtain ⟨b, q, e, hb⟩ := h0 r hr
  rw [e, lex_bad hb (Or.inr h150)] at hs
  have : (a : Int) = -1 := hs
  omega
 ·obtain ⟨v, e, hv⟩ := h r hr a out h150
  exact ⟨by rw [List.length_singleton]; omega, [v], e, by rw [List.map_singleton, hv]⟩
theorem lexW_name {s : List UInt8} (h : NameS s) : LexW Tk.Halt s [⟨1, 0, 0, s⟩] := lexW_tok (fun r _ => by
 obtain ⟨b, q, rfl, hb, _⟩ := h
 exact ⟨b, q ++ r, rfl, low_cls hb⟩) fun r hr a _ ho => ⟨_, lex_name h hr a ho, rfl⟩
theorem lexW_num {n : Int} (h0 : 0 ≤ n) (h4 : n < 4) : LexW Tk.Halt (itoa n) [⟨2, n, 0, []⟩] := lexW_tok (fun r _ => by
 have hb : (UInt8.ofNat (48 + n.toNat)).toNat = 48 + n.toNat := by rw [UInt8.toNat_ofNat']; omega
 rw [itoa_one h0 h4]
 exact ⟨_, r, rfl, (dig_cls (isDig_mk (by omega) (by omega))).1⟩) fun r hr a _ ho => ⟨_, lex_num h0 h4 hr a ho, rfl⟩
theorem lexW_sym {b : UInt8} (h : b.toNat ∈ ones) : LexW Any8 [b] [⟨3, 0, 0, [b]⟩] := lexW_tok (fun r _ => ⟨b, r, rfl, (ones_cls h).1⟩) fun r _ a _ ho => ⟨_, lex_sym h r a ho, rfl⟩
theorem lexW_two {b : UInt8} (h : b.toNat = 61 ∨ b.toNat = 58) : LexW Any8 [b, 61] [⟨3, 0, 0, [b, 61]⟩] := lexW_tok (fun r _ => ⟨b, 61 :: r, rfl, (two_cls h).1⟩) fun r _ a _ ho => ⟨_, lex_two h r a ho, rfl⟩
theorem lexW_op {n : Int} (h : 1 ≤ n ∧ n ≤ 8) : LexW Any8 (C3.symL n) [symT n] := by
 rcases C3.op_cases h.1 h.2 with rfl | rfl | rfl | rfl | rfl | rfl | rfl | rfl
 ·exact lexW_sym (b := 43) (by decide)
 ·exact lexW_sym (b := 45) (by decide)
 ·exact lexW_sym (b := 42) (by decide)
 ·exact lexW_sym (b := 47) (by decide)
 ·exact lexW_sym (b := 60) (by decide)
 ·exact lexW_two (b := 61) (Or.inl rfl)
 ·exact lexW_sym (b := 38) (by decide)
 ·exact lexW_sym (b := 124) (by decide)
theorem lexW_par {x : List UInt8} {l : List Tok} (h : LexW Tk.Halt x l) (b : Bool) : LexW Tk.Halt (paren x b) (parK l b) := by
 unfold paren parK
 cases b with
 | false => exact h
 | true => exact lexW_seq (x := [40]) (l := [lpT]) (lexW_sym (by decide)) (lexW_seq h (lexW_weak (lexW_sym (b := 41) (by decide)) fun _ _ => trivial) fun r _ => Or.inr (Or.inr ⟨r, rfl⟩)) fun _ _ => trivial
theorem lexW_txt (t : T) : allT t = true → LexW Tk.Halt (txtT7 t) (tkT t) := by
 induction t using T.ind with
 | h k n s ks ih =>
  intro hall
  have hnode : nodeB k n s ks.length = true := by rw [allT_mk, Bool.and_eq_true] at hall; exact hall.2
  rcases node_cases hnode with rfl | rfl | ⟨rfl, a, b, rfl⟩ | ⟨rfl, a, rfl⟩
  ·unfold nodeB at hnode
   rw [if_pos rfl, Bool.and_eq_true] at hnode
   have hw := C3.isW_iff.1 hnode.1
   rw [txt7_1, tk_1]
   exact lexW_num hw.1 hw.2
  ·unfold nodeB at hnode
   rw [if_neg (by decide), if_pos rfl, Bool.and_eq_true] at hnode
   rw [txt7_2, tk_2]
   exact lexW_name (valid_name hnode.1)
  ·have hop : 1 ≤ n ∧ n ≤ 8 := by
    unfold nodeB at hnode
    rw [if_neg (by decide), if_neg (by decide), if_pos rfl, Bool.and_eq_true] at hnode
    have := hnode.1
    simp only [C3.inB, Bool.and_eq_true, decide_eq_true_eq] at this
    omega
   have hA := lexW_par (ih a (by simp) (allT_2 hall).1) (decide (lvlT a < if lvl 3 n = 3 then 4 else lvl 3 n))
   have hB := lexW_par (ih b (by simp) (allT_2 hall).2) (decide (lvlT b < lvl 3 n + 1))
   rw [txt7_3, tk_3]
   generalize paren (txtT7 a) (decide (lvlT a < if lvl 3 n = 3 then 4 else lvl 3 n)) = xa at *
   generalize paren (txtT7 b) (decide (lvlT b < lvl 3 n + 1)) = xb at *
   generalize parK (tkT a) (decide (lvlT a < if lvl 3 n = 3 then 4 else lvl 3 n)) = la at *
   generalize parK (tkT b) (decide (lvlT b < lvl 3 n + 1)) = lb at *
   have h := lexW_seq hA (lexW_seq lexW_sp (lexW_seq (lexW_op hop) (lexW_seq lexW_sp hB fun _ _ => trivial) fun _ _ => trivial) fun _ _ => trivial) fun r _ => Or.inr (Or.inl ⟨_, rfl⟩)
   have e0 : xa ++ [32] ++ C3.symL n ++ [32] ++ xb = xa ++ ([32] ++ (C3.symL n ++ ([32] ++ xb))) := by simp
   rw [e0]
   exact h
  ·have hA := lexW_par (ih a (by simp) (allT_1 hall)) (decide (lvlT a < 6))
   rw [txt7_4, tk_4]
   exact lexW_seq (x := [33]) (l := [⟨3, 0, 0, [33]⟩]) (lexW_sym (by decide)) hA fun _ _ => trivial
abbrev wT (s : List UInt8) : Tok := ⟨1, 0, 0, s⟩
abbrev yT (s : List UInt8) : Tok := ⟨3, 0, 0, s⟩
mutual
def tkSt : St → List Tok
 | .mk k s e bs es =>
  if k = 1 then [wT s, yT [58, 61]] ++ tkT e ++ [yT [59]]
  else if k = 4 then wT emitW :: tkT e ++ [yT [59]]
  else if k = 3 then wT whileW :: tkT e ++ (yT [123] :: tkJ bs ++ [yT [125]])
  else if k = 2 then (if 0 < es.length then wT ifW :: tkT e ++ (yT [123] :: tkJ bs ++ [yT [125]]) ++ wT elseW :: (yT [123] :: tkJ es ++ [yT [125]])
   else wT ifW :: tkT e ++ (yT [123] :: tkJ bs ++ [yT [125]]))
  else []
def tkJ : List St → List Tok
 | [] => []
 | a :: r => tkSt a ++ tkJ r
end
def tkB (L : List St) : List Tok := yT [123] :: tkJ L ++ [yT [125]]
theorem tkSt_mk (k : Int) (s : List UInt8) (e : T) (bs es : List St) : tkSt (.mk k s e bs es) =
  (if k = 1 then [wT s, yT [58, 61]] ++ tkT e ++ [yT [59]]
  else if k = 4 then wT emitW :: tkT e ++ [yT [59]]
  else if k = 3 then wT whileW :: tkT e ++ tkB bs
  else if k = 2 then (if 0 < es.length then wT ifW :: tkT e ++ tkB bs ++ wT elseW :: tkB es
   else wT ifW :: tkT e ++ tkB bs)
  else []) := by rw [tkSt]; rfl
inductive OkS (V : List (List UInt8)) : St → Prop
 | asg {s : List UInt8} {e : T} (hs : s ∈ V) (he : okT e = true) : OkS V (.mk 1 s e [] [])
 | emit {e : T} (he : okT e = true) : OkS V (.mk 4 [] e [] [])
 | loop {e : T} {bs : List St} (he : okT e = true) (hb : ∀ a ∈ bs, OkS V a) : OkS V (.mk 3 [] e bs [])
 | cond {e : T} {bs es : List St} (he : okT e = true) (hb : ∀ a ∈ bs, OkS V a) (hc : ∀ a ∈ es, OkS V a) : OkS V (.mk 2 [] e bs es)
theorem ixOf_mem {V : List (List UInt8)} {s : List UInt8} (h : 0 ≤ C2.ixOf V s) : s ∈ V := by
 by_cases hm : s ∈ V
 ·exact hm
 ·exact absurd h (by have := C2.ixOf_neg.2 hm; omega)
theorem okS_of {V : List (List UInt8)} (t : St) : okSt V t = true → OkS V t := by
 induction t using St.ind with
 | h k s e bs es ih1 ih2 =>
  intro h
  rw [okSt_mk] at h
  simp only [Bool.and_eq_true] at h
  obtain ⟨he, hb, hc, hk⟩ := h
  have he : okT e = true := by unfold okE8 at he; rw [Bool.and_eq_true] at he; exact he.1
  have all : ∀ L : List St, okSts V L = true → ∀ a ∈ L, okSt V a = true := fun L => by
   induction L with
   | nil => intro _ a ha; cases ha
   | cons b r ih =>
    intro h a ha
    rw [okSts, Bool.and_eq_true] at h
    rcases List.mem_cons.1 ha with rfl | ha
    ·exact h.1
    ·exact ih h.2 a ha
  have hb' : ∀ a ∈ bs, OkS V a := fun a ha => ih1 a ha (all bs hb a ha)
  have hc' : ∀ a ∈ es, OkS V a := fun a ha => ih2 a ha (all es hc a ha)
  have nil_of : ∀ L : List St, ((L.length : Int) == 0) = true → L = [] := fun L h => List.eq_nil_of_length_eq_zero (by have := beq_iff_eq.1 h; omega)
  unfold kindB at hk
  split at hk
  ·rename_i h1
   subst h1
   simp only [Bool.and_eq_true, decide_eq_true_eq] at hk
   obtain ⟨h0, h2, h3⟩ := hk
   rw [nil_of bs h2, nil_of es h3]
   exact .asg (ixOf_mem h0) he
  ·split at hk
   ·rename_i h2
    subst h2
    rw [beq_iff_eq.1 hk]
    exact .cond he hb' hc'
   ·split at hk
    ·rename_i h3
     subst h3
     simp only [Bool.and_eq_true] at hk
     rw [beq_iff_eq.1 hk.1, nil_of es hk.2]
     exact .loop he hb'
    ·split at hk
     ·rename_i h4
      subst h4
      simp only [Bool.and_eq_true] at hk
      rw [beq_iff_eq.1 hk.1, nil_of bs hk.2.1, nil_of es hk.2.2]
      exact .emit he
     ·cases hk
theorem okSs_of {V : List (List UInt8)} {L : List St} (h : okSts V L = true) : ∀ a ∈ L, OkS V a := by
 induction L with
 | nil => intro a ha; cases ha
 | cons b r ih =>
  intro a ha
  rw [okSts, Bool.and_eq_true] at h
  rcases List.mem_cons.1 ha with rfl | ha
  ·exact okS_of _ h.1
  ·exact ih h.2 a ha
abbrev Sp8 : List UInt8 → Prop := fun r => r = [] ∨ ∃ q, r = 32 :: q
theorem Sp8.halt {r : List UInt8} (h : Sp8 r) : Tk.Halt r := by
 rcases h with rfl | ⟨q, rfl⟩
 ·exact Or.inl rfl
 ·exact Or.inr (Or.inl ⟨q, rfl⟩)
theorem lexW_X {e : T} (he : okT e = true) : LexW Tk.Halt (fmtX e) (tkT e) := by
 have : fmtX e = txtT7 e := by unfold fmtX; rw [if_pos he]
 rw [this]
 exact lexW_txt e (ok_parts he).2
theorem lexW_J {L : List St} (h : ∀ a ∈ L, LexW Sp8 (tSt a) (tkSt a)) : LexW Sp8 (tJ L) (tkJ L) := by
 induction L with
 | nil => rw [tJ, tkJ]; exact lexW_nil
 | cons a r ih =>
  rw [tJ, tkJ]
  refine lexW_seq (x := [32]) (l := []) lexW_sp (lexW_seq (h a (by simp)) (ih fun b hb => h b (by simp [hb])) fun q hq => ?_) fun _ _ => trivial
  cases r with
  | nil => simpa [tJ] using hq
  | cons b s => exact Or.inr ⟨tSt b ++ tJ s ++ q, by simp [tJ]⟩
theorem lexW_B {L : List St} (h : ∀ a ∈ L, LexW Sp8 (tSt a) (tkSt a)) : LexW Any8 (tB L) (tkB L) := by
 have h1 := lexW_seq (x := [123]) (l := [yT [123]]) (lexW_sym (by decide)) (lexW_seq (lexW_J h) (lexW_seq lexW_sp (lexW_sym (b := 125) (by decide)) fun _ _ => trivial) fun r _ => Or.inr ⟨_, rfl⟩) fun _ _ => trivial
 have e1 : tB L = [123] ++ (tJ L ++ ([32] ++ [125])) := by unfold tB; simp
 have e2 : tkB L = [yT [123]] ++ (tkJ L ++ ([] ++ [yT [125]])) := by unfold tkB; simp
 rw [e1, e2]; exact h1
theorem kw_name : NameS emitW ∧ NameS whileW ∧ NameS ifW ∧ NameS elseW ∧ NameS varsW := by
 refine ⟨⟨101, [109, 105, 116], rfl, by decide, by decide, by decide⟩, ⟨119, [104, 105, 108, 101], rfl, by decide, by decide, by decide⟩, ⟨105, [102], rfl, by decide, by decide, by decide⟩, ⟨101, [108, 115, 101], rfl, by decide, by decide, by decide⟩, ⟨118, [97, 114, 115], rfl, by decide, by decide, by decide⟩⟩
theorem lexW_word {s : List UInt8} (h : NameS s) {F : List UInt8 → Prop} {y : List UInt8} {m : List Tok} (hy : LexW F y m) : LexW F (s ++ (32 :: y)) (wT s :: m) :=
 lexW_seq (lexW_name h) (lexW_seq (x := [32]) (l := []) lexW_sp hy fun _ _ => trivial) fun r _ => Or.inr (Or.inl ⟨y ++ r, rfl⟩)
theorem lexW_expr {e : T} (he : okT e = true) {F : List UInt8 → Prop} {y : List UInt8} {m : List Tok} (hy : LexW F y m) : LexW F (fmtX e ++ (32 :: y)) (tkT e ++ m) :=
 lexW_seq (lexW_X he) (lexW_seq (x := [32]) (l := []) lexW_sp hy fun _ _ => trivial) fun r _ => Or.inr (Or.inl ⟨y ++ r, rfl⟩)
theorem lexW_st {V : List (List UInt8)} (hV : ∀ x ∈ V, C2.validB x = true) (t : St) : OkS V t → LexW Any8 (tSt t) (tkSt t) := by
 induction t using St.ind with
 | h k s e bs es ih1 ih2 =>
  intro h
  rw [tSt_mk, tkSt_mk]
  cases h with
  | asg hs he =>
   rw [if_pos rfl, if_pos rfl]
   have h1 := lexW_word (valid_name (hV s hs)) (lexW_seq (lexW_two (b := 58) (Or.inr rfl)) (lexW_seq (x := [32]) (l := []) lexW_sp (lexW_expr he (lexW_sym (b := 59) (by decide))) fun _ _ => trivial) fun _ _ => trivial)
   have e1 : s ++ [32, 58, 61, 32] ++ fmtX e ++ [32, 59] = s ++ 32 :: ([58, 61] ++ ([32] ++ (fmtX e ++ 32 :: [59]))) := by simp
   have e2 : [wT s, yT [58, 61]] ++ tkT e ++ [yT [59]] = wT s :: ([yT [58, 61]] ++ ([] ++ (tkT e ++ [yT [59]]))) := by simp
   rw [e1, e2]; exact h1
  | emit he =>
   rw [if_neg (by decide), if_pos rfl, if_neg (by decide), if_pos rfl]
   have h1 := lexW_word kw_name.1 (lexW_expr he (lexW_sym (b := 59) (by decide)))
   have e1 : [101, 109, 105, 116, 32] ++ fmtX e ++ [32, 59] = emitW ++ 32 :: (fmtX e ++ 32 :: [59]) := by simp
   rw [e1]; exact h1
  | loop he hb =>
   rw [if_neg (by decide), if_neg (by decide), if_pos rfl, if_neg (by decide), if_neg (by decide), if_pos rfl]
   have h1 := lexW_word kw_name.2.1 (lexW_expr he (lexW_B fun a ha => lexW_weak (ih1 a ha (hb a ha)) fun _ _ => trivial))
   have e1 : [119, 104, 105, 108, 101, 32] ++ fmtX e ++ [32] ++ tB bs = whileW ++ 32 :: (fmtX e ++ 32 :: tB bs) := by simp
   rw [e1]; exact h1
  | cond he hb hc =>
   rw [if_neg (show ¬ (2 : Int) = 1 by decide), if_neg (show ¬ (2 : Int) = 4 by decide), if_neg (show ¬ (2 : Int) = 3 by decide), if_pos rfl, if_neg (show ¬ (2 : Int) = 1 by decide), if_neg (show ¬ (2 : Int) = 4 by decide), if_neg (show ¬ (2 : Int) = 3 by decide), if_pos rfl]
   have hB := lexW_B fun a ha => lexW_weak (ih1 a ha (hb a ha)) (G := Sp8) fun _ _ => trivial
   have hC := lexW_B fun a ha => lexW_weak (ih2 a ha (hc a ha)) (G := Sp8) fun _ _ => trivial
   by_cases h0 : 0 < es.length
   ·rw [if_pos h0, if_pos h0]
    have h1 := lexW_word kw_name.2.2.1 (lexW_expr he (lexW_seq hB (lexW_seq (x := [32]) (l := []) lexW_sp (lexW_word kw_name.2.2.2.1 hC) fun _ _ => trivial) fun _ _ => trivial))
    have e1 : [105, 102, 32] ++ fmtX e ++ [32] ++ tB bs ++ [32, 101, 108, 115, 101, 32] ++ tB es = ifW ++ 32 :: (fmtX e ++ 32 :: (tB bs ++ ([32] ++ (elseW ++ 32 :: tB es)))) := by simp
    have e2 : wT ifW :: tkT e ++ tkB bs ++ wT elseW :: tkB es = wT ifW :: (tkT e ++ (tkB bs ++ ([] ++ wT elseW :: tkB es))) := by simp
    rw [e1, e2]; exact h1
   ·rw [if_neg h0, if_neg h0]
    have h1 := lexW_word kw_name.2.2.1 (lexW_expr he hB)
    have e1 : [105, 102, 32] ++ fmtX e ++ [32] ++ tB bs = ifW ++ 32 :: (fmtX e ++ 32 :: tB bs) := by simp
    rw [e1]; exact h1
def tkV : List (List UInt8) → List Tok
 | [] => []
 | a :: r => wT a :: tkV r
def tkP (p : Pg) : List Tok := wT varsW :: (tkV p.vs ++ (yT [59] :: tkJ p.body))
theorem lexW_V {V : List (List UInt8)} (hV : ∀ x ∈ V, C2.validB x = true) : LexW Sp8 (vJ V) (tkV V) := by
 induction V with
 | nil => rw [vJ, tkV]; exact lexW_nil
 | cons a r ih =>
  rw [vJ, tkV]
  refine lexW_seq (x := [32]) (l := []) lexW_sp (lexW_seq (l := [wT a]) (lexW_name (valid_name (hV a (by simp)))) (ih fun x hx => hV x (by simp [hx])) fun q hq => ?_) fun _ _ => trivial
  cases r with
  | nil => exact Sp8.halt (by simpa [vJ] using hq)
  | cons b s => exact Or.inr (Or.inl ⟨b ++ vJ s ++ q, by simp [vJ]⟩)
theorem vJ_sp {V : List (List UInt8)} {r : List UInt8} : Sp8 (vJ V ++ (32 :: r)) := by
 cases V with
 | nil => exact Or.inr ⟨r, by simp [vJ]⟩
 | cons a q => exact Or.inr ⟨a ++ vJ q ++ 32 :: r, by simp [vJ]⟩
theorem ok_prog {p : Pg} (h : okP p = true) : (∀ x ∈ p.vs, C2.validB x = true) ∧ ∀ a ∈ p.body, OkS p.vs a := by
 unfold okP varsB at h
 simp only [Bool.and_eq_true, decide_eq_true_eq] at h
 obtain ⟨⟨hva, hv2, -⟩, hc8, -, hoks⟩ := h
 exact ⟨fun x hx => List.all_eq_true.1 hva x hx, okSs_of hoks⟩
theorem tokz_prog {p : Pg} (h : okP p = true) (hb : (tokz (fmtP p)).2 = -1) : (tokz (fmtP p)).1.map st = tkP p := by
 obtain ⟨hV, hS⟩ := ok_prog h
 have e0 : fmtP p = varsW ++ (vJ p.vs ++ (32 :: ([59] ++ tJ p.body))) := by unfold fmtP; rw [if_pos h]; simp
 have hsm := tokz_le hb
 have htz := tokz_small hsm
 rw [htz] at hb ⊢
 have hW : LexW Sp8 (fmtP p) (tkP p) := by
  rw [e0]
  refine lexW_seq (l := [wT varsW]) (lexW_name kw_name.2.2.2.2) (lexW_seq (lexW_V hV) (lexW_seq (x := [32]) (l := []) lexW_sp (lexW_seq (l := [yT [59]]) (lexW_sym (b := 59) (by decide)) (lexW_J fun a ha => lexW_weak (lexW_st hV a (hS a ha)) fun _ _ => trivial) fun _ _ => trivial) fun _ _ => trivial) fun r _ => Or.inr ⟨_, rfl⟩) fun r _ => ?_
  rw [List.append_assoc]
  exact Sp8.halt vJ_sp
 obtain ⟨_, L, e, hL⟩ := hW [] 0 [] (Or.inl rfl) (by simp) (by rw [List.append_nil]; exact hb)
 rw [List.append_nil, lex_nil, List.nil_append] at e
 rw [e]; exact hL
end Go.Proofs.YtiogceepjffmkaaGreatDoor.Gd
