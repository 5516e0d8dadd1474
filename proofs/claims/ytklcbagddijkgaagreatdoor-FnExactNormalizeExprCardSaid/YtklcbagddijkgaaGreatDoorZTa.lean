/- A slice of tokens of the call's own that grows. -/
import Derived.Test.YtklcbagddijkgaaGreatDoorZTk
import Derived.Laws.Rows
import Derived.Laws.EntriesVeiled
set_option maxRecDepth 100000
namespace Go.Proofs.YtklcbagddijkgaaGreatDoor.Tk
open Go.RowKit Go.Lib Go.Proofs.YtklcbagddijkgaaGreatDoor.Com Go.Proofs.YtklcbagddijkgaaGreatDoor.Mem Go.Proofs.YtklcbagddijkgaaGreatDoor.Os Go.Proofs.YtklcbagddijkgaaGreatDoor.Ow

abbrev RowT (w : World) (base : Nat) (v : Value) (l : List Tok) : Prop := w.ownsRow base TK 4 v l.length (cellsT l)
theorem row_form {w : World} {base e n m : Nat} {v : Value} {xs : List Value} (h : w.ownsRow base e n v m xs) : ∃ A c, v = .slice A m c := by
  rcases h.2 with ⟨rfl, rfl⟩ | ⟨g, c, cur, rfl, _⟩
  · exact ⟨none, 0, rfl⟩
  · exact ⟨_, _, rfl⟩
theorem row_below {w w' : World} {base e sz n : Nat} {v : Value} {xs : List Value} (h : w.ownsRow base e sz v n xs) (hb : Below w.heap.size w w') : w'.ownsRow base e sz v n xs :=
  h.kept (row := none) ⟨hb.os, hb.tape, hb.output, hb.size, fun k hk _ => hb.block k hk⟩ (by cases v.ownBlock <;> simp)
theorem row_nil (w : World) (base : Nat) : RowT w base (.slice none 0 0) [] := World.ownsRow_nil _ _ _ _
theorem row_lit0 (w : World) : RowT (w.alloc (.cells #[] TK)) w.heap.size (.slice (some ⟨w.heap.size, 0, none⟩) 0 0) [] :=
  ⟨rfl, Or.inr ⟨w.heap.size, 0, #[], rfl, Nat.le_refl _, heap_alloc_new w _, Nat.le_refl _, by unfold maxLen; omega, rfl, rfl⟩⟩
/-- append of one token -/
theorem app_tok {w : World} {base : Nat} {v : Value} {l : List Tok} (h : RowT w base v l) (hbs : base ≤ w.heap.size) (t : Tok) (hl : l.length < 1000000) {o : Oper} {a : Act} {ops : Array Oper} {rest : List Oper} {Q : Exit → Act → World → Prop} (hgd : o.guard = none) (s x : Operand)
    (ho : o.op = .call { callee := .builtin .append, args := #[s, x], argTypes := #[57, 57] }) (hs : a.eval s = v) (g : Nat) (hg : g = w.heap.size) (hx : a.eval x = .slice (some ⟨g, 0, none⟩) 1 1)
    (hK : ∀ v' w', RowT w' base v' (l ++ [t]) → w.grownBy w' v.ownBlock → wpList Tryz.prog ops Q rest (a.put o.dst v') w') :
    wpList Tryz.prog ops Q (o :: rest) a (w.alloc (.cells #[.int .i64 t.k, .int .i64 t.n, .int .i64 t.p, sv t.s] TK)) := by
  subst hg
  obtain ⟨i0, hi, hz0, hz1, hz2⟩ := info_parts tokInfo
  refine wpList_append_own (P := Tryz.prog) _ hgd s x 57 ho base TK i0 (tv ⟨0, 0, 0, []⟩) 4 40 Tryz.underlying57 hi hz0 hz1 hz2 rfl (by decide) v l.length (cellsT l) hs (h.alloc _) ⟨w.heap.size, 0, none⟩ 1 1 (tcs t) hx rfl (row_lit w t)
    (fun u hu => tcs_one [t] u (by simpa [cellsT] using hu)) (by unfold maxLen; omega) (by omega) (by rw [size_alloc']; omega) ?_
  intro v' w' hown hg _
  refine hK v' w' ?_ (gb_trans (World.grownBy_alloc w _ _) hg)
  have e : cellsT (l ++ [t]) = cellsT l ++ tcs t := by rw [cellsT_append]; simp [cellsT]
  unfold RowT
  rw [e, List.length_append]
  exact hown
theorem below_row {w0 w w' : World} {base : Nat} {v : Value} {l : List Tok} (hb : Below base w0 w) (h : RowT w base v l) (hg : w.grownBy w' v.ownBlock) (hbs : base ≤ w.heap.size) : Below base w0 w' :=
  hb.grown hg hbs (fun g e => (h.lt g e).1)
/-- a token stored at place m of a block -/
def putK (w : World) (g m : Nat) (t : Tok) : World := (((w.setCell ⟨g, m * 4, none⟩ (.int .i64 t.k)).setCell ⟨g, m * 4 + 1, none⟩ (.int .i64 t.n)).setCell ⟨g, m * 4 + 2, none⟩ (.int .i64 t.p)).setCell ⟨g, m * 4 + 3, none⟩ (sv t.s)
theorem putK_blk {w : World} {g : Nat} {a b c d : Value} (h : Blk w g TK [a, b, c, d]) (t : Tok) : Blk (putK w g 0 t) g TK (tcs t) := (((h.set_ 0 _).set_ 1 _).set_ 2 _).set_ 3 _
/-- the last token of a row, and another stored in its place -/
theorem row_last {w : World} {base : Nat} {v : Value} {l : List Tok} {t : Tok} (h : RowT w base v (l ++ [t])) : ∃ g cap, v = .slice (some ⟨g, 0, none⟩) (l.length + 1) cap ∧ base ≤ g ∧ w.cell? ⟨g, l.length * 4, none⟩ = some (.int .i64 t.k) ∧ w.cell? ⟨g, l.length * 4 + 1, none⟩ = some (.int .i64 t.n) ∧
    w.cell? ⟨g, l.length * 4 + 2, none⟩ = some (.int .i64 t.p) ∧ w.cell? ⟨g, l.length * 4 + 3, none⟩ = some (sv t.s) ∧ (∀ i, w.frozen? ⟨g, i, none⟩ = false) ∧ ∀ u : Tok, RowT (putK w g l.length u) base v (l ++ [u]) := by
  have hlen : (l ++ [t]).length = l.length + 1 := by simp
  rcases h with ⟨hl, ⟨_, hn⟩ | ⟨g, cap, cur, hv, hb, hblk, hn, hc, hs, ht⟩⟩
  · simp at hn
  have hB : Blk w g TK cur.toList := by unfold Blk; simpa using hblk
  have hcell : ∀ i x, (cellsT (l ++ [t]))[i]? = some x → w.cell? ⟨g, i, none⟩ = some x := fun i x hx => by
    rw [hB.cell]
    rw [← ht, List.getElem?_take] at hx
    split at hx
    · exact hx
    · cases hx
  obtain ⟨q0, q1, q2, q3⟩ := cellsT_at (l ++ [t]) l.length (by simp)
  have e1 : (l ++ [t])[l.length]'(by simp) = t := by simp
  rw [e1] at q0 q1 q2 q3
  refine ⟨g, cap, by rw [hv, hlen], hb, hcell _ _ q0, hcell _ _ q1, hcell _ _ q2, hcell _ _ q3, fun i => hB.frozen i, fun u => ?_⟩
  have hcl : cur.toList = cellsT l ++ (tcs t ++ cur.toList.drop ((l.length + 1) * 4)) := by
    conv => lhs; rw [← List.take_append_drop ((l.length + 1) * 4) cur.toList]
    rw [hlen] at ht
    rw [ht, cellsT_append, List.append_assoc]
    simp [cellsT]
  have hll : (cellsT l).length = l.length * 4 := cellsT_len l
  have hB2 : Blk (putK w g l.length u) g TK (set4 cur.toList l.length (.int .i64 u.k) (.int .i64 u.n) (.int .i64 u.p) (sv u.s)) := (((hB.set_ _ _).set_ _ _).set_ _ _).set_ _ _
  have hset : set4 cur.toList l.length (.int .i64 u.k) (.int .i64 u.n) (.int .i64 u.p) (sv u.s) = cellsT l ++ (tcs u ++ cur.toList.drop ((l.length + 1) * 4)) := by
    generalize cur.toList.drop ((l.length + 1) * 4) = rest at *
    rw [hcl]
    unfold set4
    have s0 : ∀ (i : Nat) (r : List Value) (x : Value), (cellsT l ++ r).set (l.length * 4 + i) x = cellsT l ++ r.set i x := fun i r x => by
      rw [List.set_append_right _ _ (by omega), hll, Nat.add_sub_cancel_left]
    have s00 := s0 0
    rw [Nat.add_zero] at s00
    rw [s00, s0, s0, s0]
    rfl
  rw [hset] at hB2
  have hlu : (l ++ [u]).length = l.length + 1 := by simp
  have ecu : cellsT (l ++ [u]) = cellsT l ++ tcs u := by rw [cellsT_append]; simp [cellsT]
  have hsz : (cellsT l ++ (tcs u ++ cur.toList.drop ((l.length + 1) * 4))).length = cur.size := by
    have := congrArg List.length hcl
    simp only [List.length_append, Array.length_toList] at this ⊢
    exact this.symm
  refine ⟨by rw [cellsT_len], Or.inr ⟨g, cap, (cellsT l ++ (tcs u ++ cur.toList.drop ((l.length + 1) * 4))).toArray, by rw [hv, hlen, hlu], hb, hB2, by rw [hlu, ← hlen]; exact hn, hc, by rw [List.size_toArray, hsz, hs], ?_⟩⟩
  rw [hlu, ← List.append_assoc, ← ecu]
  exact List.take_left' (by rw [cellsT_len, hlu])
end Go.Proofs.YtklcbagddijkgaaGreatDoor.Tk

/- Tokens as the laws handle them: measured, copied; and IsWordToken, the program's and the model's. -/
set_option maxRecDepth 100000
namespace Go.Proofs.YtklcbagddijkgaaGreatDoor.Tk
open Go.RowKit Go.Lib Go.Sort Go.Proofs.YtklcbagddijkgaaGreatDoor.Com Go.Proofs.YtklcbagddijkgaaGreatDoor.Mem Go.Proofs.YtklcbagddijkgaaGreatDoor.Os Go.Proofs.YtklcbagddijkgaaGreatDoor.Ow

def isWordB (t : Tok) (s : List UInt8) : Bool := (decide (t.k = 1) || decide (t.k = 3)) && decide (t.s = s)
set_option maxHeartbeats 1000000 in
theorem iword_any (t : Tok) (s : List UInt8) (w : World) : Calls Tryz.prog 179 #[tv t, .string ⟨s.toArray⟩] w fun e w' => e = .returned (.bool (isWordB t s)) ∧ Below w.heap.size w w' := by
  obtain ⟨k, n, p, x⟩ := t
  have hq : ∀ b, decide (x = s) = b → (x == s) = b := fun b h => by rw [← h]; by_cases e : x = s <;> simp [e]
  cases hd : decide (x = s) with
  | true =>
    have he := hq _ hd
    by_cases h1 : k = 1
    · have hf := hid (show isWordB ⟨k, n, p, x⟩ s = true by unfold isWordB; rw [hd]; simp [h1])
      subst h1
      clear hd hq
      go_enter Tryz.func179, Tryz.ntmps179
      go_wp2_with fail
      go_ret
      exact ⟨by rw [hf.out]; rfl, (Below.refl _ _).alloc (Nat.le_refl _) _⟩
    · have e1 : (k == 1) = false := beq_false_of_ne h1
      by_cases h3 : k = 3
      · have hf := hid (show isWordB ⟨k, n, p, x⟩ s = true by unfold isWordB; rw [hd]; simp [h3])
        subst h3
        clear hd hq h1 e1
        go_enter Tryz.func179, Tryz.ntmps179
        go_wp2_with fail
        go_ret
        exact ⟨by rw [hf.out]; rfl, (Below.refl _ _).alloc (Nat.le_refl _) _⟩
      · have e3 : (k == 3) = false := beq_false_of_ne h3
        have hf := hid (show isWordB ⟨k, n, p, x⟩ s = false by unfold isWordB; rw [hd]; simp [h1, h3])
        clear hd hq h1 h3
        go_enter Tryz.func179, Tryz.ntmps179
        go_wp2_with fail
        go_ret
        exact ⟨by rw [hf.out]; rfl, (Below.refl _ _).alloc (Nat.le_refl _) _⟩
  | false =>
    have he := hq _ hd
    have hf := hid (show isWordB ⟨k, n, p, x⟩ s = false by unfold isWordB; rw [hd]; simp)
    by_cases h1 : k = 1
    · subst h1
      clear hd hq
      go_enter Tryz.func179, Tryz.ntmps179
      go_wp2_with fail
      go_ret
      exact ⟨by rw [hf.out]; rfl, (Below.refl _ _).alloc (Nat.le_refl _) _⟩
    · have e1 : (k == 1) = false := beq_false_of_ne h1
      by_cases h3 : k = 3
      · subst h3
        clear hd hq h1 e1
        go_enter Tryz.func179, Tryz.ntmps179
        go_wp2_with fail
        go_ret
        exact ⟨by rw [hf.out]; rfl, (Below.refl _ _).alloc (Nat.le_refl _) _⟩
      · have e3 : (k == 3) = false := beq_false_of_ne h3
        clear hd hq h1 h3
        go_enter Tryz.func179, Tryz.ntmps179
        go_wp2_with fail
        go_ret
        exact ⟨by rw [hf.out]; rfl, (Below.refl _ _).alloc (Nat.le_refl _) _⟩
set_option maxHeartbeats 1000000 in
theorem sword_any (t : Tok) (s : List UInt8) (w : World) : Calls Tryz.prog 113 #[tv t, .string ⟨s.toArray⟩] w fun e w' => e = .returned (.bool (isWordB t s)) ∧ Below w.heap.size w w' := by
  obtain ⟨k, n, p, x⟩ := t
  have hq : ∀ b, decide (x = s) = b → (x == s) = b := fun b h => by rw [← h]; by_cases e : x = s <;> simp [e]
  cases hd : decide (x = s) with
  | true =>
    have he := hq _ hd
    by_cases h1 : k = 1
    · have hf := hid (show isWordB ⟨k, n, p, x⟩ s = true by unfold isWordB; rw [hd]; simp [h1])
      subst h1
      clear hd hq
      go_enter Tryz.func113, Tryz.ntmps113
      go_wp2_with fail
      go_ret
      exact ⟨by rw [hf.out]; rfl, (Below.refl _ _).alloc (Nat.le_refl _) _⟩
    · have e1 : (k == 1) = false := beq_false_of_ne h1
      by_cases h3 : k = 3
      · have hf := hid (show isWordB ⟨k, n, p, x⟩ s = true by unfold isWordB; rw [hd]; simp [h3])
        subst h3
        clear hd hq h1 e1
        go_enter Tryz.func113, Tryz.ntmps113
        go_wp2_with fail
        go_ret
        exact ⟨by rw [hf.out]; rfl, (Below.refl _ _).alloc (Nat.le_refl _) _⟩
      · have e3 : (k == 3) = false := beq_false_of_ne h3
        have hf := hid (show isWordB ⟨k, n, p, x⟩ s = false by unfold isWordB; rw [hd]; simp [h1, h3])
        clear hd hq h1 h3
        go_enter Tryz.func113, Tryz.ntmps113
        go_wp2_with fail
        go_ret
        exact ⟨by rw [hf.out]; rfl, (Below.refl _ _).alloc (Nat.le_refl _) _⟩
  | false =>
    have he := hq _ hd
    have hf := hid (show isWordB ⟨k, n, p, x⟩ s = false by unfold isWordB; rw [hd]; simp)
    by_cases h1 : k = 1
    · subst h1
      clear hd hq
      go_enter Tryz.func113, Tryz.ntmps113
      go_wp2_with fail
      go_ret
      exact ⟨by rw [hf.out]; rfl, (Below.refl _ _).alloc (Nat.le_refl _) _⟩
    · have e1 : (k == 1) = false := beq_false_of_ne h1
      by_cases h3 : k = 3
      · subst h3
        clear hd hq h1 e1
        go_enter Tryz.func113, Tryz.ntmps113
        go_wp2_with fail
        go_ret
        exact ⟨by rw [hf.out]; rfl, (Below.refl _ _).alloc (Nat.le_refl _) _⟩
      · have e3 : (k == 3) = false := beq_false_of_ne h3
        clear hd hq h1 h3
        go_enter Tryz.func113, Tryz.ntmps113
        go_wp2_with fail
        go_ret
        exact ⟨by rw [hf.out]; rfl, (Below.refl _ _).alloc (Nat.le_refl _) _⟩
/-- how many texts' letters and tokens -/
def szK (l : List Tok) : Nat := Lh.szL (l.map Tok.s)
end Go.Proofs.YtklcbagddijkgaaGreatDoor.Tk
