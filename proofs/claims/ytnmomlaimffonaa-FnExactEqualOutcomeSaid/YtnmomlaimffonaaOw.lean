/- Slices that the call itself makes and appends to, of elements of one cell. -/
import Derived.Test.YtnmomlaimffonaaMem
import Derived.Laws.AppendOwn
import Derived.OwnWalk
import Derived.Laws.AppendOwnNone
import Derived.Deep.RegionLaw
set_option maxRecDepth 100000
namespace Go.Proofs.Ytnmomlaimffonaa.Ow
open Go.RowKit Go.Proofs.Ytnmomlaimffonaa.Mem

/-- t is the type of slices of e; e's values have one cell, zero z, so many bytes -/
structure SlT (P : Program) (t e : TypeId) (z : Value) (by_ : Nat) : Prop where
  und : P.underlying t = some (.slice e)
  inf : (P.info? e).map (fun i => (i.zero, i.size, i.bytes)) = some (some z, 1, by_)
  one : z.cells.size = 1
  few : by_ ≤ 64

/-- the slice v is the call's own and holds xs; nothing older than w0's end has turned -/
def Grow (e : TypeId) (w0 w : World) (v : Value) (xs : List Value) : Prop := w.ownsRow w0.heap.size e 1 v xs.length xs ∧ Below w0.heap.size w0 w

section
variable {P : Program} {t e by_ : Nat} {z : Value} {w0 w w' : World} {v : Value} {xs : List Value}
theorem Grow.nil_ (w0 : World) (e : TypeId) (h : Below w0.heap.size w0 w) : Grow e w0 w (.slice none 0 0) [] := ⟨World.ownsRow_nil _ _ _ _, h⟩
theorem Grow.lit0 (e : TypeId) (w0 : World) : Grow e w0 (w0.alloc (.cells #[] e)) (.slice (some ⟨w0.heap.size, 0, none⟩) 0 0) [] :=
  ⟨World.ownsRow_made w0 #[] 0 (Nat.le_refl _) (by unfold maxLen; omega) rfl, (Below.refl _ _).alloc (Nat.le_refl _) _⟩
theorem Grow.len (h : Grow e w0 w v xs) : ∃ A c, v = .slice A xs.length c ∧ xs.length ≤ c ∧ c ≤ maxLen ∧ Rd w w.heap.size A xs ∧ (∀ ad, A = some ad → ad = ⟨ad.block, 0, none⟩ ∧ w0.heap.size ≤ ad.block) := by
  have hrd := fun A c (hv : v = .slice A xs.length c) => own_rd (A := A) (cap := c) (hv ▸ h.1)
  rcases h.1.2 with ⟨hv, hn⟩ | ⟨g, c, cur, hv, hb, hblk, hnc, hcm, _⟩
  · refine ⟨none, 0, ?_, by omega, by unfold maxLen; omega, ?_, fun ad hh => by cases hh⟩
    · rw [hn]; exact hv
    · have := List.eq_nil_of_length_eq_zero hn; subst this; exact Rd.nil_
  · refine ⟨_, c, hv, hnc, hcm, hrd _ _ hv, fun ad hh => ?_⟩
    cases hh; exact ⟨rfl, hb⟩
theorem Grow.below {B : Nat} (h : Grow e w0 w v xs) (hb : Below B w w') (hB : w.heap.size ≤ B) : Grow e w0 w' v xs := by
  have hb' : Below w.heap.size w w' := ⟨hb.os, hb.tape, hb.output, hb.size, fun k hk => hb.block k (by omega)⟩
  refine ⟨h.1.kept (row := none) ⟨hb.os, hb.tape, hb.output, hb.size, fun k hk _ => hb.block k (by omega)⟩ ?_, h.2.trans (hb'.mono h.2.size)⟩
  cases hv : v.ownBlock with
  | none => exact Or.inl rfl
  | some k => exact Or.inr (by simp)
theorem Grow.gb {g : Nat} (h : Grow e w0 w v xs) (hg : w.grownBy w' (some g)) (hne : v.ownBlock ≠ some g) (hw0 : w0.heap.size ≤ g) : Grow e w0 w' v xs :=
  ⟨h.1.kept hg (Or.inr hne), h.2.grown hg h.2.size (fun k hk => by cases hk; exact hw0)⟩

/-- append of one element -/
theorem Grow.append (S : SlT P t e z by_) (h : Grow e w0 w v xs) (u : Value) (hu : u.oneCell' = true) (hl : xs.length < 1000000000000) {o : Oper} {a : Act} {ops : Array Oper} {rest : List Oper} {Q : Exit → Act → World → Prop} (hgd : o.guard = none) (s x : Operand)
    (ho : o.op = .call { callee := .builtin .append, args := #[s, x], argTypes := #[t, t] }) (hs : a.eval s = v) (hx : a.eval x = .slice (some ⟨w.heap.size, 0, none⟩) 1 1)
    (hK : ∀ v' w', Grow e w0 w' v' (xs ++ [u]) → w.grownBy w' v.ownBlock → v' ≠ .slice none 0 0 → wpList P ops Q rest (a.put o.dst v') w') :
    wpList P ops Q (o :: rest) a (w.alloc (.cells #[u] e)) := by
  obtain ⟨i0, hi, hz0, hz1, hz2⟩ := info_parts S.inf
  have hbs := h.2.size
  have hf := S.few
  have hm : (xs.length + 1) * by_ ≤ (xs.length + 1) * 64 := Nat.mul_le_mul_left _ hf
  refine wpList_append_own (P := P) _ hgd s x t ho w0.heap.size e i0 z 1 by_ S.und hi hz0 hz1 hz2 S.one (by decide) v xs.length xs hs (h.1.alloc _) ⟨w.heap.size, 0, none⟩ 1 1 [u] hx rfl (one_cell w u e) (by intro y hy; rw [List.mem_singleton] at hy; subst hy; exact hu)
    (by unfold maxLen; omega) (by omega) (by rw [size_alloc']; omega) ?_
  intro v' w' hown hg hn
  refine hK v' w' ⟨by simpa using hown, (h.2.alloc hbs _).grown hg (by rw [size_alloc']; omega) (fun g hg => (h.1.lt g hg).1)⟩ (gb_trans (World.grownBy_alloc w _ _) hg) (fun e => ?_)
  have := (hn.1 e).2
  omega

/-- append of one element to a row that is owned -/
theorem own_append {base : Nat} (S : SlT P t e z by_) (h : w.ownsRow base e 1 v xs.length xs) (hbs : base ≤ w.heap.size) (u : Value) (hu : u.oneCell' = true) (hl : xs.length < 1000000000000) {o : Oper} {a : Act} {ops : Array Oper} {rest : List Oper} {Q : Exit → Act → World → Prop} (hgd : o.guard = none) (s x : Operand)
    (ho : o.op = .call { callee := .builtin .append, args := #[s, x], argTypes := #[t, t] }) (hs : a.eval s = v) (hx : a.eval x = .slice (some ⟨w.heap.size, 0, none⟩) 1 1)
    (hK : ∀ v' w', w'.ownsRow base e 1 v' (xs ++ [u]).length (xs ++ [u]) → w.grownBy w' v.ownBlock → v' ≠ .slice none 0 0 → wpList P ops Q rest (a.put o.dst v') w') :
    wpList P ops Q (o :: rest) a (w.alloc (.cells #[u] e)) := by
  obtain ⟨i0, hi, hz0, hz1, hz2⟩ := info_parts S.inf
  have hf := S.few
  have hm : (xs.length + 1) * by_ ≤ (xs.length + 1) * 64 := Nat.mul_le_mul_left _ hf
  refine wpList_append_own (P := P) _ hgd s x t ho base e i0 z 1 by_ S.und hi hz0 hz1 hz2 S.one (by decide) v xs.length xs hs (h.alloc _) ⟨w.heap.size, 0, none⟩ 1 1 [u] hx rfl (one_cell w u e) (by intro y hy; rw [List.mem_singleton] at hy; subst hy; exact hu)
    (by unfold maxLen; omega) (by omega) (by rw [size_alloc']; omega) ?_
  intro v' w' hown hg hn
  refine hK v' w' (by simpa using hown) (gb_trans (World.grownBy_alloc w _ _) hg) (fun e => ?_)
  have := (hn.1 e).2
  omega

/-- append of a slice's elements -/
theorem Grow.appendAll (S : SlT P t e z by_) (h : Grow e w0 w v xs) (A : Option Addr) (m c B : Nat) (ys : List Value) (hys : ys.length = m) (hA : A = none → m = 0 ∧ c = 0) (hrd : Rd w B A ys) (hone : ∀ u ∈ ys, u.oneCell' = true) (hl : xs.length + m < 1000000000000) {o : Oper} {a : Act} {ops : Array Oper} {rest : List Oper} {Q : Exit → Act → World → Prop} (hgd : o.guard = none) (s x : Operand)
    (ho : o.op = .call { callee := .builtin .append, args := #[s, x], argTypes := #[t, t] }) (hs : a.eval s = v) (hx : a.eval x = .slice A m c)
    (hK : ∀ v' w', Grow e w0 w' v' (xs ++ ys) → w.grownBy w' v.ownBlock → (v' = .slice none 0 0 ↔ v = .slice none 0 0 ∧ m = 0) → wpList P ops Q rest (a.put o.dst v') w') :
    wpList P ops Q (o :: rest) a w := by
  obtain ⟨i0, hi, hz0, hz1, hz2⟩ := info_parts S.inf
  have hbs := h.2.size
  have hf := S.few
  have hm : (xs.length + m) * by_ ≤ (xs.length + m) * 64 := Nat.mul_le_mul_left _ hf
  cases A with
  | none =>
    obtain ⟨rfl, rfl⟩ := hA rfl
    have := List.eq_nil_of_length_eq_zero hys; subst this
    refine wpList_append_own_none (P := P) hgd s x t ho w0.heap.size e i0 1 S.und hi v xs.length xs hs h.1 hx ?_
    exact hK v w ⟨by simpa using h.1, h.2⟩ (gb_refl _ _) ⟨fun e => ⟨e, rfl⟩, fun e => e.1⟩
  | some ad =>
    refine wpList_append_own (P := P) _ hgd s x t ho w0.heap.size e i0 z 1 by_ S.und hi hz0 hz1 hz2 S.one (by decide) v xs.length xs hs h.1 ad m c ys hx (by omega) (fun j u hj => ?_) hone
      (by unfold maxLen; omega) (by omega) hbs ?_
    · obtain ⟨ad', e1, _, hc⟩ := hrd (by intro e; subst e; simp at hj)
      cases e1; exact hc j u hj
    intro v' w' hown hg hn
    exact hK v' w' ⟨by simpa [hys] using hown, h.2.grown hg hbs (fun g hg => (h.1.lt g hg).1)⟩ hg hn
end

theorem own_base {w : World} {base base' e n : Nat} {v : Value} {xs : List Value} (h : w.ownsRow base e 1 v n xs) (hb : base' ≤ base) : w.ownsRow base' e 1 v n xs := by
  refine ⟨h.1, ?_⟩
  rcases h.2 with h2 | ⟨g, c, cur, h1, h2, r⟩
  · exact Or.inl h2
  · exact Or.inr ⟨g, c, cur, h1, by omega, r⟩
/-- the first k of them: the same row, cut shorter -/
theorem own_take {w : World} {base e n k cap : Nat} {A : Option Addr} {xs : List Value} (h : w.ownsRow base e 1 (.slice A n cap) n xs) (hk : k ≤ n) (hA : A ≠ none) : w.ownsRow base e 1 (.slice A k cap) k (xs.take k) := by
  rcases h with ⟨hl, ⟨hv, _⟩ | ⟨g, c, cur, hv, hb, hblk, hn, hc, hs, ht⟩⟩
  · injection hv; contradiction
  · cases hv
    refine ⟨by rw [List.length_take]; omega, .inr ⟨g, cap, cur, rfl, hb, hblk, by omega, hc, hs, ?_⟩⟩
    rw [← ht, List.take_take]
    congr 1; omega
theorem Grow.some_ {e : TypeId} {w0 w : World} {v : Value} {xs : List Value} (h : Grow e w0 w v xs) (hv : v ≠ .slice none 0 0) : ∃ g c cur, v = .slice (some ⟨g, 0, none⟩) xs.length c ∧ w0.heap.size ≤ g ∧ w.heap[g]? = some (.cells cur e (0, 0)) ∧ xs.length ≤ c ∧ c ≤ maxLen ∧ cur.size = c ∧ cur.toList.take xs.length = xs := by
  rcases h.1.2 with ⟨h1, _⟩ | ⟨g, c, cur, h1, hb, hblk, hn, hc, hs, ht⟩
  · exact absurd h1 hv
  · exact ⟨g, c, cur, h1, hb, hblk, hn, hc, by omega, by simpa using ht⟩

/-- append of a slice's elements, as one step of a region that draws its order -/
theorem step_own {P : Program} {t e by_ : Nat} {z : Value} (S : SlT P t e z by_) {W : World} {o : Oper} {a : Act} {ops : Array Oper} {K : Act → World → Prop} {Q : Exit → Act → World → Prop} {E : Prop} (hg : o.guard = none) (s x : Operand)
    (ho : o.op = .call { callee := .builtin .append, args := #[s, x], argTypes := #[t, t] }) (base : Nat) (v : Value) (xs : List Value) (hs : a.eval s = v) (hown : W.ownsRow base e 1 v xs.length xs)
    (ad : Addr) (m c : Nat) (ys : List Value) (hx : a.eval x = .slice (some ad) m c) (hys : ys.length = m) (hc : ∀ j u, ys[j]? = some u → W.cell? (ad.add j) = some u) (hone : ∀ u ∈ ys, u.oneCell' = true) (hl : xs.length + m < 1000000000000) (hbase : base ≤ W.heap.size)
    (hK : ∀ v' w', w'.ownsRow base e 1 v' (xs.length + m) (xs ++ ys) → W.grownBy w' v.ownBlock → (v' = .slice none 0 0 ↔ v = .slice none 0 0 ∧ m = 0) → K (a.put o.dst v') w') :
    if Region.wanted o (yielded ops a.tmps) = true then Oper.wp P o a W K Q else E := by
  obtain ⟨i0, hi, hz0, hz1, hz2⟩ := info_parts S.inf
  have hf := S.few
  have hm : (xs.length + m) * by_ ≤ (xs.length + m) * 64 := Nat.mul_le_mul_left _ hf
  have hw : Region.wanted o (yielded ops a.tmps) = true := by simp [Region.wanted, hg]
  rw [if_pos hw]
  exact wp_append_own W s x t ho base e i0 z 1 by_ S.und hi hz0 hz1 hz2 S.one (by decide) v xs.length xs hs hown ad m c ys hx (by omega) hc hone (by unfold maxLen; omega) (by omega) hbase (fun v' w' h1 h2 h3 => hK v' w' h1 h2 h3)

theorem sv_one (l : List UInt8) : (sv l).oneCell' = true := rfl
end Go.Proofs.Ytnmomlaimffonaa.Ow
