/- Reading the text of a valid expression gives the expression again: the parser on those tokens. -/
import Derived.Test.YtjglllpemhkkdaaGreatDoorZIk
set_option maxRecDepth 100000
namespace Go.Proofs.YtjglllpemhkkdaaGreatDoor.Tk
open Go.RowKit Go.Lib Num Mem Ch Tr

structure PzOk (ts : List Tok) (en l i : Nat) (e : T) (j : Nat) : Prop where
  lt : i < j
  le : j ≤ ts.length
  go : ∀ n, need ts l i ≤ n → pz ts en n l i = .ok (e, j)
structure LzOk (ts : List Tok) (en l : Nat) (e0 : T) (i : Nat) (e : T) (j : Nat) : Prop where
  le : i ≤ j
  len : j ≤ ts.length
  go : ∀ n, need ts l i + 1 ≤ n → lz ts en n l e0 i = .ok (e, j)
section
variable {ts : List Tok} {en l i j k : Nat} {e e' r : T} {o : Int}
theorem PzOk.level (h : PzOk ts en (l + 1) i e j) (hl : l ≤ 5) (h2 : LzOk ts en l e j e' k) : PzOk ts en l i e' k := by
  have h1 := h.lt
  have h3 := h2.le
  have h4 := h.le
  refine ⟨by omega, h2.len, fun n hn => ?_⟩
  unfold need at hn
  cases n with
  | zero => omega
  | succ n =>
    rw [pz, if_neg (by omega), if_neg (by omega), h.go n (by unfold need; omega)]
    exact h2.go n (by unfold need; omega)
theorem LzOk.nil (hj : j ≤ ts.length) (h : opAt ts l j = 0) : LzOk ts en l e j e j := by
  refine ⟨Nat.le_refl _, hj, fun n hn => ?_⟩
  cases n with
  | zero => omega
  | succ n => rw [lz, if_pos h]
theorem LzOk.op (ho : opAt ts l j = o) (h0 : o ≠ 0) (hl : l ≤ 5) (h3 : l ≠ 3) (h : PzOk ts en (l + 1) (j + 1) r k) {m : Nat} (h2 : LzOk ts en l (opT o e r) k e' m) : LzOk ts en l e j e' m := by
  have a1 := h.lt
  have a2 := h2.le
  have a3 := h.le
  refine ⟨by omega, h2.len, fun n hn => ?_⟩
  unfold need at hn
  cases n with
  | zero => omega
  | succ n =>
    rw [lz, if_neg (by rw [ho]; exact h0), h.go n (by unfold need; omega)]
    show (if l = 3 then _ else _) = _
    rw [if_neg h3, ho]
    exact h2.go n (by unfold need; omega)
theorem LzOk.cmp (ho : opAt ts 3 j = o) (h0 : o ≠ 0) (h : PzOk ts en 4 (j + 1) r k) : LzOk ts en 3 e j (opT o e r) k := by
  have a1 := h.lt
  have a3 := h.le
  refine ⟨by omega, h.le, fun n hn => ?_⟩
  unfold need at hn
  cases n with
  | zero => omega
  | succ n =>
    rw [lz, if_neg (by rw [ho]; exact h0), h.go n (by unfold need; omega)]
    show (if 3 = 3 then _ else _) = _
    rw [if_pos rfl, ho]
theorem PzOk.atom (h : PzOk ts en 7 i e j) (hs : seesB ts i [33] = false) : PzOk ts en 6 i e j := by
  refine ⟨h.lt, h.le, fun n hn => ?_⟩
  unfold need at hn
  cases n with
  | zero => omega
  | succ n => rw [pz, if_neg (by omega), if_pos rfl, if_neg (by rw [hs]; simp), h.go n (by unfold need; omega)]
theorem PzOk.not (h : PzOk ts en 6 (i + 1) e j) (hs : seesB ts i [33] = true) : PzOk ts en 6 i (notT e) j := by
  have a1 := h.lt
  have a2 := h.le
  refine ⟨by omega, h.le, fun n hn => ?_⟩
  unfold need at hn
  cases n with
  | zero => omega
  | succ n => rw [pz, if_neg (by omega), if_pos rfl, if_pos hs, h.go n (by unfold need; omega)]
theorem PzOk.num {t : Tok} (h : ts[i]? = some t) (hk : t.k = 2) : PzOk ts en 7 i (constT t.n) (i + 1) := by
  have hlt := lt_of_get h
  refine ⟨by omega, by omega, fun n hn => ?_⟩
  unfold need at hn
  cases n with
  | zero => omega
  | succ n =>
    rw [pz, if_pos (by omega), h]
    show (if t.k = 2 then _ else _) = _
    rw [if_pos hk]
theorem PzOk.name {t : Tok} (h : ts[i]? = some t) (hk : t.k = 1) (hv : C2.validB t.s = true) : PzOk ts en 7 i (varT t.s) (i + 1) := by
  have hlt := lt_of_get h
  have hw : isWordB t [40] = false := by
    have hne : t.s ≠ [40] := fun e => by rw [e] at hv; exact absurd hv (by decide)
    unfold isWordB
    rw [decide_eq_false hne, Bool.and_false]
  refine ⟨by omega, by omega, fun n hn => ?_⟩
  unfold need at hn
  cases n with
  | zero => omega
  | succ n =>
    rw [pz, if_pos (by omega), h]
    show (if t.k = 2 then _ else _) = _
    rw [if_neg (by omega), if_neg (by rw [hw]; simp), if_pos ⟨hk, hv⟩]
theorem PzOk.par {t : Tok} (h : ts[i]? = some t) (hk : t.k = 3) (hs : t.s = [40]) (hp : PzOk ts en 1 (i + 1) e j) (hc : seesB ts j [41] = true) : PzOk ts en 7 i e (j + 1) := by
  have hlt := sees_lt hc
  have a1 := hp.lt
  have hw : isWordB t [40] = true := by
    unfold isWordB
    rw [hk, hs]; rfl
  refine ⟨by omega, by omega, fun n hn => ?_⟩
  unfold need at hn
  cases n with
  | zero => omega
  | succ n =>
    rw [pz, if_pos (by omega), h]
    show (if t.k = 2 then _ else _) = _
    rw [if_neg (by omega), if_pos hw, hp.go n (by unfold need; omega)]
    show (if seesB ts j [41] = true then _ else _) = _
    rw [if_pos hc]
end

def From (ts : List Tok) (i : Nat) (l : List Tok) : Prop := i ≤ ts.length ∧ (ts.map st).drop i = l
theorem From.skip {ts : List Tok} {i : Nat} {l R : List Tok} (h : From ts i (l ++ R)) : From ts (i + l.length) R := by
  obtain ⟨h1, h2⟩ := h
  have hlen := congrArg List.length h2
  simp only [List.length_drop, List.length_map, List.length_append] at hlen
  refine ⟨by omega, ?_⟩
  rw [← List.drop_drop, h2, List.drop_left]
theorem From.cons {ts : List Tok} {i : Nat} {x : Tok} {R : List Tok} (h : From ts i (x :: R)) : (∃ t, ts[i]? = some t ∧ t.k = x.k ∧ t.n = x.n ∧ t.s = x.s) ∧ From ts (i + 1) R := by
  refine ⟨?_, From.skip (l := [x]) h⟩
  obtain ⟨h1, h2⟩ := h
  have hg : (ts.map st)[i]? = some x := by
    have := congrArg (fun l => l[0]?) h2
    simpa using this
  rw [List.getElem?_map] at hg
  cases ht : ts[i]? with
  | none => rw [ht] at hg; cases hg
  | some t =>
    rw [ht] at hg
    have e : st t = x := Option.some.inj hg
    subst e
    exact ⟨t, rfl, rfl, rfl, rfl⟩
theorem From.sees {ts : List Tok} {i : Nat} {x : Tok} {R : List Tok} (h : From ts i (x :: R)) (s : List UInt8) : seesB ts i s = isWordB x s := by
  obtain ⟨⟨t, ht, hk, _, hs⟩, _⟩ := h.cons
  unfold seesB
  rw [ht]
  show isWordB t s = _
  unfold isWordB
  rw [hk, hs]
theorem From.atOp {ts : List Tok} {i : Nat} {x : Tok} {R : List Tok} (h : From ts i (x :: R)) (l : Nat) : opAt ts l i = ((opsOf l).find? fun op => isWordB x (C3.symL op)).getD 0 := by
  unfold opAt
  congr 2
  funext op
  exact h.sees _
def NoOp (ts : List Tok) (l i : Nat) : Prop := ∀ m, l ≤ m → m ≤ 5 → opAt ts m i = 0
theorem NoOp.mono {ts : List Tok} {l l' i : Nat} (h : NoOp ts l i) (hl : l ≤ l') : NoOp ts l' i := fun m h1 h2 => h m (by omega) h2
theorem op_cmp {n : Int} (h : 1 ≤ n ∧ n ≤ 8) : 1 ≤ lvl 3 n ∧ lvl 3 n ≤ 5 ∧ n ≠ 0 ∧ ∀ m, m ≤ 5 → ((opsOf m).find? fun op => isWordB (symT n) (C3.symL op)).getD 0 = if m = lvl 3 n then n else 0 := by
  rcases C3.op_cases h.1 h.2 with rfl | rfl | rfl | rfl | rfl | rfl | rfl | rfl <;> decide
theorem From.sym {ts : List Tok} {i : Nat} {n : Int} {R : List Tok} (h : From ts i (symT n :: R)) (hn : 1 ≤ n ∧ n ≤ 8) : opAt ts (lvl 3 n) i = n ∧ NoOp ts (lvl 3 n + 1) i := by
  obtain ⟨_, h5, _, hm⟩ := op_cmp hn
  refine ⟨by rw [h.atOp, hm _ h5, if_pos rfl], fun m h1 h2 => ?_⟩
  rw [h.atOp, hm _ h2, if_neg (by omega)]
theorem From.close {ts : List Tok} {i : Nat} {R : List Tok} (h : From ts i (rpT :: R)) (l : Nat) (hl : 1 ≤ l) : NoOp ts l i := fun m h1 h2 => by
  rw [h.atOp]
  have hm : m = 1 ∨ m = 2 ∨ m = 3 ∨ m = 4 ∨ m = 5 := by omega
  rcases hm with rfl | rfl | rfl | rfl | rfl <;> decide
theorem From.nil {ts : List Tok} {i : Nat} (h : From ts i []) (l : Nat) : NoOp ts l i := fun m _ _ => by
  have hlen := congrArg List.length h.2
  simp only [List.length_drop, List.length_map, List.length_nil] at hlen
  have : i = ts.length := by have := h.1; omega
  subst this
  exact opAt_end
section
variable {ts : List Tok} {en l l' i j : Nat} {e : T}
theorem PzOk.lift : ∀ (d : Nat) {l : Nat}, PzOk ts en (l + d) i e j → l + d ≤ 6 → NoOp ts l j → PzOk ts en l i e j
  | 0, _, h, _, _ => h
  | d + 1, l, h, h6, hno => by
    have h1 := PzOk.lift d (l := l + 1) (by rw [show l + 1 + d = l + (d + 1) by omega]; exact h) (by omega) (hno.mono (by omega))
    exact h1.level (by omega) (.nil h1.le (hno l (Nat.le_refl _) (by omega)))
theorem PzOk.down (h : PzOk ts en l' i e j) (hl : l ≤ l') (h7 : l' ≤ 7) (hno : NoOp ts l j) (hs : l' = 7 → seesB ts i [33] = false) : PzOk ts en l i e j := by
  by_cases h6 : l' ≤ 6
  · exact PzOk.lift (l' - l) (by rw [show l + (l' - l) = l' by omega]; exact h) (by omega) hno
  · obtain rfl : l' = 7 := by omega
    by_cases hl7 : l = 7
    · subst hl7; exact h
    · exact PzOk.lift (6 - l) (by rw [show l + (6 - l) = 6 by omega]; exact h.atom (hs rfl)) (by omega) hno
end
structure RdT (t : T) : Prop where
  all : ∀ (ts : List Tok) (en i : Nat) (R : List Tok), From ts i (tkT t ++ R) → ∀ l, 1 ≤ l → l ≤ lvlT t → NoOp ts l (i + (tkT t).length) → PzOk ts en l i t (i + (tkT t).length)
  on : ∀ (ts : List Tok) (en i : Nat) (R : List Tok), From ts i (tkT t ++ R) → ∀ l, lvlT t = l → l ≤ 5 → l ≠ 3 → NoOp ts (l + 1) (i + (tkT t).length) → ∀ e' j', LzOk ts en l t (i + (tkT t).length) e' j' → PzOk ts en l i e' j'
theorem RdT.paren {t : T} (h : RdT t) (ts : List Tok) (en i : Nat) (R : List Tok) (l : Nat) (hl : 1 ≤ l) (h7 : l ≤ 7) (hf : From ts i (parK (tkT t) (decide (lvlT t < l)) ++ R)) (hno : NoOp ts l (i + (parK (tkT t) (decide (lvlT t < l))).length)) : PzOk ts en l i t (i + (parK (tkT t) (decide (lvlT t < l))).length) := by
  by_cases hlt : lvlT t < l
  · rw [decide_eq_true hlt] at *
    have e0 : parK (tkT t) true ++ R = lpT :: (tkT t ++ (rpT :: R)) := by simp [parK]
    have e1 : (parK (tkT t) true).length = (tkT t).length + 2 := by simp [parK]
    rw [e1] at hno ⊢
    rw [e0] at hf
    have hs := hf.sees [33]
    obtain ⟨⟨x, hx, hk, _, hxs⟩, hf1⟩ := hf.cons
    have hf2 := hf1.skip
    have hp := h.all ts en (i + 1) (rpT :: R) hf1 1 (Nat.le_refl _) (by obtain ⟨k, n, s, ks⟩ := t; exact (lvl_le k n).1) (hf2.close 1 (Nat.le_refl _))
    have hc := hf2.sees [41]
    have h8 := PzOk.par hx hk hxs hp (by rw [hc]; rfl)
    rw [show i + 1 + (tkT t).length + 1 = i + ((tkT t).length + 2) by omega] at h8
    exact h8.down (by omega) (Nat.le_refl _) hno fun _ => by rw [hs]; rfl
  · rw [decide_eq_false hlt] at *
    exact h.all ts en i R hf l hl (by omega) hno
theorem RdT.left {t : T} (h : RdT t) (ts : List Tok) (en i : Nat) (R : List Tok) (l : Nat) (hl : 1 ≤ l) (h5 : l ≤ 5) (h3 : l ≠ 3) (hf : From ts i (parK (tkT t) (decide (lvlT t < l)) ++ R)) (hno : NoOp ts (l + 1) (i + (parK (tkT t) (decide (lvlT t < l))).length)) (e' : T) (j' : Nat) (hz : LzOk ts en l t (i + (parK (tkT t) (decide (lvlT t < l))).length) e' j') : PzOk ts en l i e' j' := by
  by_cases he : lvlT t = l
  · rw [decide_eq_false (by omega)] at *
    exact h.on ts en i R hf l he h5 h3 hno e' j' hz
  · have e1 : decide (lvlT t < l) = decide (lvlT t < l + 1) := decide_eq_decide.2 (by omega)
    rw [e1] at hf hno hz
    exact (h.paren ts en i R (l + 1) (by omega) (by omega) hf hno).level h5 hz
theorem rdT (t : T) : allT t = true → RdT t := by
  induction t using T.ind with
  | h k n s ks ih =>
    intro hall
    have hnode : nodeB k n s ks.length = true := by rw [allT_mk, Bool.and_eq_true] at hall; exact hall.2
    rcases node_cases hnode with rfl | rfl | ⟨rfl, a, b, rfl⟩ | ⟨rfl, a, rfl⟩
    · have hz : s = [] ∧ ks = [] := by
        unfold nodeB at hnode
        rw [if_pos rfl] at hnode
        simp only [Bool.and_eq_true, beq_iff_eq] at hnode
        exact ⟨hnode.2.1, List.eq_nil_of_length_eq_zero (by omega)⟩
      obtain ⟨rfl, rfl⟩ := hz
      have h7 : lvlT (.mk 1 n [] []) = 7 := rfl
      refine ⟨fun ts en i R hf l h1 hl hno => ?_, fun ts en i R hf l hl h5 => by omega⟩
      rw [tk_1] at *
      have hs := hf.sees [33]
      obtain ⟨⟨x, hx, hk, hn, _⟩, _⟩ := hf.cons
      have := PzOk.num (en := en) hx hk
      rw [hn] at this
      exact this.down (by omega) (Nat.le_refl _) hno fun _ => by rw [hs]; rfl
    · have hz : n = 0 ∧ ks = [] ∧ C2.validB s = true := by
        unfold nodeB at hnode
        rw [if_neg (by decide), if_pos rfl] at hnode
        simp only [Bool.and_eq_true, beq_iff_eq] at hnode
        exact ⟨hnode.2.1, List.eq_nil_of_length_eq_zero (by omega), hnode.1⟩
      obtain ⟨rfl, rfl, hv⟩ := hz
      have h7 : lvlT (.mk 2 0 s []) = 7 := rfl
      refine ⟨fun ts en i R hf l h1 hl hno => ?_, fun ts en i R hf l hl h5 => by omega⟩
      rw [tk_2] at *
      have hs := hf.sees [33]
      obtain ⟨⟨x, hx, hk, _, hxs⟩, _⟩ := hf.cons
      have hxs : x.s = s := hxs
      have := PzOk.name (en := en) hx hk (by rw [hxs]; exact hv)
      rw [hxs] at this
      refine this.down (by omega) (Nat.le_refl _) hno fun _ => ?_
      rw [hs]
      have hne : s ≠ [33] := fun e => by rw [e] at hv; exact absurd hv (by decide)
      unfold isWordB
      rw [decide_eq_false hne, Bool.and_false]
    · have hz : s = [] ∧ 1 ≤ n ∧ n ≤ 8 := by
        unfold nodeB at hnode
        rw [if_neg (by decide), if_neg (by decide), if_pos rfl] at hnode
        simp only [Bool.and_eq_true, beq_iff_eq, C3.inB, decide_eq_true_eq] at hnode
        exact ⟨hnode.2.1, by omega⟩
      obtain ⟨rfl, hn⟩ := hz
      have hA := ih a (by simp) (allT_2 hall).1
      have hB := ih b (by simp) (allT_2 hall).2
      obtain ⟨l1, l5, n0, _⟩ := op_cmp hn
      have hlv : lvlT (.mk 3 n [] [a, b]) = lvl 3 n := rfl
      /- what both parts want -/
      have core : ∀ (ts : List Tok) (en i : Nat) (R : List Tok), From ts i (tkT (.mk 3 n [] [a, b]) ++ R) → lvl 3 n ≠ 3 → NoOp ts (lvl 3 n + 1) (i + (tkT (.mk 3 n [] [a, b])).length) → ∀ e' j', LzOk ts en (lvl 3 n) (.mk 3 n [] [a, b]) (i + (tkT (.mk 3 n [] [a, b])).length) e' j' → PzOk ts en (lvl 3 n) i e' j' := by
        intro ts en i R hf h3 hno e' j' hz
        rw [tk_3, if_neg h3] at *
        rw [List.append_assoc] at hf
        have hf1 := hf.skip
        rw [List.cons_append] at hf1
        obtain ⟨ho, hno1⟩ := hf1.sym hn
        obtain ⟨_, hf2⟩ := hf1.cons
        rw [List.length_append, List.length_cons, show ∀ x y : Nat, i + (x + (y + 1)) = i + x + 1 + y from fun x y => by omega] at hno hz
        have hb := hB.paren ts en _ R (lvl 3 n + 1) (by omega) (by omega) hf2 hno
        exact hA.left ts en i _ (lvl 3 n) l1 l5 h3 hf hno1 e' j' (.op ho n0 l5 h3 hb hz)
      refine ⟨fun ts en i R hf l h1 hl hno => ?_, fun ts en i R hf l hl h5 h3 hno e' j' hz => ?_⟩
      · rw [hlv] at hl
        by_cases h3 : lvl 3 n = 3
        · have key : PzOk ts en 3 i (.mk 3 n [] [a, b]) (i + (tkT (.mk 3 n [] [a, b])).length) := by
            rw [tk_3, if_pos h3] at *
            rw [List.append_assoc] at hf
            have hf1 := hf.skip
            rw [List.cons_append] at hf1
            obtain ⟨ho, hno1⟩ := hf1.sym hn
            obtain ⟨_, hf2⟩ := hf1.cons
            rw [List.length_append, List.length_cons, show ∀ x y : Nat, i + (x + (y + 1)) = i + x + 1 + y from fun x y => by omega] at hno ⊢
            rw [h3] at ho hno1 hf2 hno ⊢
            have hb := hB.paren ts en _ R 4 (by omega) (by omega) hf2 (hno.mono (by omega))
            have ha := hA.paren ts en i _ 4 (by omega) (by omega) hf hno1
            exact ha.level (by omega) (.cmp ho n0 hb)
          rw [h3] at hl
          exact key.down hl (by omega) hno fun h => by omega
        · have key := core ts en i R hf h3 (hno.mono (by omega)) _ _ (.nil (by
            have := hf.skip.1
            exact this) (hno _ hl l5))
          exact key.down hl (by omega) hno fun h => by omega
      · rw [hlv] at hl
        subst hl
        exact core ts en i R hf h3 hno e' j' hz
    · have hz : s = [] ∧ n = 0 := by
        unfold nodeB at hnode
        rw [if_neg (by decide), if_neg (by decide), if_neg (by decide), if_pos rfl] at hnode
        simp only [Bool.and_eq_true, beq_iff_eq] at hnode
        exact ⟨hnode.2.1, hnode.1⟩
      obtain ⟨rfl, rfl⟩ := hz
      have hA := ih a (by simp) (allT_1 hall)
      have h6 : lvlT (.mk 4 0 [] [a]) = 6 := rfl
      refine ⟨fun ts en i R hf l h1 hl hno => ?_, fun ts en i R hf l hl h5 => by omega⟩
      rw [tk_4] at *
      rw [List.cons_append] at hf
      have hs := hf.sees [33]
      obtain ⟨_, hf1⟩ := hf.cons
      rw [List.length_cons, show ∀ x : Nat, i + (x + 1) = i + 1 + x from fun x => by omega] at hno ⊢
      have ha := hA.paren ts en (i + 1) R 6 (by omega) (by omega) hf1 (fun m h1 h2 => by omega)
      exact (ha.not (by rw [hs]; rfl)).down (by omega) (by omega) hno fun h => by omega
theorem parse_txt {t : T} (h : okT t = true) : parseR (fmtX t) = .ok t := by
  have hlen := fmtX_len t
  have hall := (ok_parts h).2
  have hcnt := (ok_parts h).1
  have hf : fmtX t = txtT7 t := by unfold fmtX; rw [if_pos h]
  rw [hf] at hlen ⊢
  have hk := tk_len t hall
  obtain ⟨L, e, hL⟩ := lex_txt t hall [] 0 [] (Or.inl rfl) (by simp only [List.length_nil]; omega)
  rw [List.append_nil, lex_nil, List.nil_append] at e
  have hLl : L.length = (tkT t).length := by rw [← hL, List.length_map]
  have htz : tokz (txtT7 t) = (L, -1) := by rw [tokz_small (by omega), e]
  have hfr : From L 0 (tkT t ++ []) := ⟨Nat.zero_le _, by rw [List.drop_zero, List.append_nil, hL]⟩
  have hp := (rdT t hall).all L (txtT7 t).length 0 [] hfr 1 (Nat.le_refl _) (by obtain ⟨k, n, s, ks⟩ := t; exact (lvl_le k n).1) ((hfr.skip).nil 1)
  have hg := hp.go 2000 (by unfold need; omega)
  unfold parseR
  rw [htz, if_pos rfl]
  show endR L _ (pz L _ 2000 1 0) = _
  rw [hg]
  unfold endR
  show (if 0 + (tkT t).length < L.length then _ else _) = _
  rw [if_neg (by omega), if_pos h]
end Go.Proofs.YtjglllpemhkkdaaGreatDoor.Tk
