/- Small facts that the walks of this seat share. -/
import Derived.Test.YtnmomlaimffonaaGreatRows
import Derived.WalkKit
import Derived.WalkSpells
import Derived.WalkLawsBesides
import Derived.Laws.IdiomStrings
import Derived.Lib.Hide
import Derived.Lib.AppendStr
import Derived.Deep.AppendLies
import Derived.Deep.Draws
import Derived.BigQuiet
import Derived.Deep.QuietTactic
import Derived.Laws.AppendOwn
import Derived.OwnWalk
import Derived.Laws.AppendOwnNone
import Derived.Deep.RegionLaw
set_option maxRecDepth 100000
namespace Go.Proofs.YtnmomlaimffonaaGreat.Com
open Go.RowKit
end Go.Proofs.YtnmomlaimffonaaGreat.Com
set_option maxRecDepth 100000
namespace Go.Proofs.YtnmomlaimffonaaGreat.Mem
open Go.RowKit
abbrev sv (l : List UInt8) : Value := .string ⟨l.toArray⟩
def bv (x : UInt8) : Value := .int .u8 x.toNat
def Rd (w : World) (B : Nat) (A : Option Addr) (xs : List Value) : Prop :=
  xs ≠ [] → ∃ ad, A = some ad ∧ ad.block < B ∧ ∀ j u, xs[j]? = some u → w.cell? (ad.add j) = some u
theorem add_block (a : Addr) (n : Nat) : (a.add n).block = a.block := by unfold Addr.add; split <;> rfl
section
variable {w w' : World} {B B' : Nat} {A : Option Addr} {xs : List Value}
theorem Rd.nil_ : Rd w B A [] := fun h => absurd rfl h
theorem Rd.at_ (h : Rd w B A xs) {k : Nat} (hk : k < xs.length) : ∃ ad, A = some ad ∧ ad.block < B ∧ w.cell? (ad.add k) = some xs[k] := by
  obtain ⟨ad, e, hb, hc⟩ := h (by intro e; subst e; simp at hk)
  exact ⟨ad, e, hb, hc k _ (List.getElem?_eq_getElem hk)⟩
theorem Rd.keep (h : Rd w B A xs) (hk : ∀ p : Addr, p.block < B → w'.cell? p = w.cell? p) : Rd w' B A xs := fun hn => by
  obtain ⟨ad, e, hb, hc⟩ := h hn
  exact ⟨ad, e, hb, fun j u hu => (hk _ (by rw [add_block]; exact hb)).trans (hc j u hu)⟩
theorem Rd.more (h : Rd w B A xs) (hB : B ≤ B') : Rd w B' A xs := fun hn => by
  obtain ⟨ad, e, hb, hc⟩ := h hn
  exact ⟨ad, e, by omega, hc⟩
theorem Rd.below (h : Rd w B A xs) (hb : Below B w w') : Rd w' B A xs := h.keep fun _ hp => hb.cell hp
end
theorem bdr {B : Nat} {a w : World} (h : Below B a w) (n : Nat) : Below B a (w.drewN n) := ⟨h.os, h.tape, h.output, h.size, h.block⟩
def Blk (w : World) (g : Nat) (t : TypeId) (cs : List Value) : Prop := w.heap[g]? = some (.cells cs.toArray t (0, 0))
section
variable {w w' : World} {g t : Nat} {cs : List Value}
theorem Blk.lt (h : Blk w g t cs) : g < w.heap.size := by
  rcases Nat.lt_or_ge g w.heap.size with hlt | hge
  · exact hlt
  · unfold Blk at h; rw [Array.getElem?_eq_none hge] at h; cases h
theorem Blk.cell (h : Blk w g t cs) (i : Nat) : w.cell? ⟨g, i, none⟩ = cs[i]? := by
  rw [cell_of_row w g i cs.toArray t (0, 0) h]; simp
theorem Blk.frozen (h : Blk w g t cs) (i : Nat) : w.frozen? ⟨g, i, none⟩ = false := by
  unfold Blk at h
  simp [World.frozen?, h]
theorem Blk.set_ (h : Blk w g t cs) (i : Nat) (u : Value) : Blk (w.setCell ⟨g, i, none⟩ u) g t (cs.set i u) := by
  unfold Blk at h ⊢
  simp [World.setCell, Array.getElem?_modify, h]
theorem Blk.alloc (h : Blk w g t cs) (o : Obj) : Blk (w.alloc o) g t cs := (Below.heap_alloc w o g h.lt).trans h
theorem Blk.new (w : World) (t : TypeId) (cs : List Value) : Blk (w.alloc (.cells cs.toArray t)) w.heap.size t cs := heap_alloc_new w _
theorem Blk.below {B : Nat} (h : Blk w g t cs) (hb : Below B w w') (hg : g < B) : Blk w' g t cs := (hb.block g hg).trans h
theorem Blk.far (h : Blk w g t cs) {p : Addr} (hp : g ≠ p.block) (u : Value) : Blk (w.setCell p u) g t cs := (Below.heap_setCell w p u g hp).trans h
theorem Blk.rd (h : Blk w g t cs) : Rd w (g + 1) (some ⟨g, 0, none⟩) cs := fun _ => ⟨_, rfl, by simp, fun j u hu => by
  have e : (⟨g, 0, none⟩ : Addr).add j = ⟨g, j, none⟩ := by unfold Addr.add; split <;> simp_all
  rw [e, h.cell, hu]⟩
end
theorem gb_below {a w w' : World} {row : Option Nat} (h : a.grownBy w row) (hb : Below w.heap.size w w') : a.grownBy w' row :=
  ⟨hb.os.trans h.os, hb.tape.trans h.tape, hb.output.trans h.output, Nat.le_trans h.size hb.size, fun k hk hr => (hb.block k (Nat.lt_of_lt_of_le hk h.size)).trans (h.block k hk hr)⟩
theorem gb_set {a w : World} {g : Nat} (h : a.grownBy w (some g)) (i : Nat) (u : Value) : a.grownBy (w.setCell ⟨g, i, none⟩ u) (some g) :=
  ⟨h.os, h.tape, h.output, by simpa [World.setCell] using h.size, fun k hk hr => (Below.heap_setCell w ⟨g, i, none⟩ u k (fun e => hr (by rw [e]))).trans (h.block k hk hr)⟩
theorem gb_refl (a : World) (row : Option Nat) : a.grownBy a row := ⟨rfl, rfl, rfl, Nat.le_refl _, fun _ _ _ => rfl⟩
theorem gb_trans {a b c : World} {row : Option Nat} (h : a.grownBy b row) (k : b.grownBy c row) : a.grownBy c row :=
  ⟨k.os.trans h.os, k.tape.trans h.tape, k.output.trans h.output, Nat.le_trans h.size k.size, fun i hi hr => (k.block i (Nat.lt_of_lt_of_le hi h.size) hr).trans (h.block i hi hr)⟩
theorem bgb {B g : Nat} {a w w' : World} (h : Below B a w) (hg : w.grownBy w' (some g)) (hB : B ≤ w.heap.size) (hr : B ≤ g) : Below B a w' := h.grown hg hB (fun k e => by cases e; exact hr)
theorem Blk.gb {w w' : World} {g g' t : Nat} {cs : List Value} (h : Blk w g t cs) (hg : w.grownBy w' (some g')) (hne : g ≠ g') : Blk w' g t cs := (hg.block g h.lt (fun e => hne (Option.some.inj e))).trans h
theorem one_cell (w : World) (u : Value) (t : TypeId) : ∀ (j : Nat) (x : Value), [u][j]? = some x → (w.alloc (.cells #[u] t)).cell? ((⟨w.heap.size, 0, none⟩ : Addr).add j) = some x := by
  intro j x hx
  obtain rfl : j = 0 := by
    rcases Nat.eq_zero_or_pos j with h | h
    · exact h
    · rw [List.getElem?_eq_none (by simp; omega)] at hx; cases hx
  have := (Blk.new w t [u]).cell 0
  rw [show ((⟨w.heap.size, 0, none⟩ : Addr).add 0) = ⟨w.heap.size, 0, none⟩ from rfl]
  rw [← hx]; exact this
theorem one_one (l : List UInt8) : ∀ u ∈ [sv l], u.oneCell' = true := by intro u hu; rw [List.mem_singleton] at hu; subst hu; rfl
theorem size_alloc' (w : World) (o : Obj) : (w.alloc o).heap.size = w.heap.size + 1 := by simp
theorem own_rd {w : World} {base e n cap : Nat} {A : Option Addr} {xs : List Value} (h : w.ownsRow base e 1 (.slice A n cap) n xs) : Rd w w.heap.size A xs := by
  intro hne
  rcases h.2 with ⟨hv, hn⟩ | ⟨g, c, cur, hv, hb, hblk, _⟩
  · subst hn; exact absurd (List.eq_nil_of_length_eq_zero (by simpa using h.1)) hne
  · have hA : A = some ⟨g, 0, none⟩ := by injection hv
    subst hA
    refine ⟨_, rfl, ?_, h.cells (g := g) rfl⟩
    rcases Nat.lt_or_ge g w.heap.size with hl | hge
    · exact hl
    · rw [Array.getElem?_eq_none hge] at hblk; cases hblk
end Go.Proofs.YtnmomlaimffonaaGreat.Mem
set_option maxRecDepth 100000
namespace Go.Proofs.YtnmomlaimffonaaGreat.Ow
open Go.RowKit Mem
structure SlT (P : Program) (t e : TypeId) (z : Value) (by_ : Nat) : Prop where
  und : P.underlying t = some (.slice e)
  inf : (P.info? e).map (fun i => (i.zero, i.size, i.bytes)) = some (some z, 1, by_)
  one : z.cells.size = 1
  few : by_ ≤ 64
def Grow (e : TypeId) (w0 w : World) (v : Value) (xs : List Value) : Prop := w.ownsRow w0.heap.size e 1 v xs.length xs ∧ Below w0.heap.size w0 w
section
variable {P : Program} {t e by_ : Nat} {z : Value} {w0 w w' : World} {v : Value} {xs : List Value}
theorem Grow.nil_ (w0 : World) (e : TypeId) (h : Below w0.heap.size w0 w) : Grow e w0 w (.slice none 0 0) [] := ⟨World.ownsRow_nil _ _ _ _, h⟩
theorem Grow.lit0 (e : TypeId) (w0 : World) : Grow e w0 (w0.alloc (.cells #[] e)) (.slice (some ⟨w0.heap.size, 0, none⟩) 0 0) [] :=
  ⟨World.ownsRow_made w0 #[] 0 (Nat.le_refl _) (by unfold maxLen; omega) rfl, (Below.refl _ _).alloc (Nat.le_refl _) _⟩
theorem Grow.len (h : Grow e w0 w v xs) : ∃ A c, v = .slice A xs.length c ∧ xs.length ≤ c ∧ c ≤ maxLen ∧ Rd w w.heap.size A xs ∧ (∀ ad, A = some ad → ad = ⟨ad.block, 0, none⟩ ∧ w0.heap.size ≤ ad.block) := by
  have hrd := fun A c (hv : v = .slice A xs.length c) => own_rd (A := A) (cap := c) (hv ▸ h.1)
  rcases h.1.2 with ⟨hv, hn⟩ | ⟨g, c, cur, hv, hb, hblk, hnc, hcm, _⟩
  · refine ⟨none, 0, ?_, by omega, by unfold maxLen; omega, ?_, fun ad hh => by cases hh⟩
    · rw [hn]; exact hv
    · have := List.eq_nil_of_length_eq_zero hn; subst this; exact Rd.nil_
  · refine ⟨_, c, hv, hnc, hcm, hrd _ _ hv, fun ad hh => ?_⟩
    cases hh; exact ⟨rfl, hb⟩
theorem Grow.below {B : Nat} (h : Grow e w0 w v xs) (hb : Below B w w') (hB : w.heap.size ≤ B) : Grow e w0 w' v xs := by
  have hb' : Below w.heap.size w w' := ⟨hb.os, hb.tape, hb.output, hb.size, fun k hk => hb.block k (by omega)⟩
  refine ⟨h.1.kept (row := none) ⟨hb.os, hb.tape, hb.output, hb.size, fun k hk _ => hb.block k (by omega)⟩ ?_, h.2.trans (hb'.mono h.2.size)⟩
  cases hv : v.ownBlock with
  | none => exact Or.inl rfl
  | some k => exact Or.inr (by simp)
theorem Grow.gb {g : Nat} (h : Grow e w0 w v xs) (hg : w.grownBy w' (some g)) (hne : v.ownBlock ≠ some g) (hw0 : w0.heap.size ≤ g) : Grow e w0 w' v xs :=
  ⟨h.1.kept hg (Or.inr hne), h.2.grown hg h.2.size (fun k hk => by cases hk; exact hw0)⟩
theorem Grow.append (S : SlT P t e z by_) (h : Grow e w0 w v xs) (u : Value) (hu : u.oneCell' = true) (hl : xs.length < 1000000000000) {o : Oper} {a : Act} {ops : Array Oper} {rest : List Oper} {Q : Exit → Act → World → Prop} (hgd : o.guard = none) (s x : Operand)
    (ho : o.op = .call { callee := .builtin .append, args := #[s, x], argTypes := #[t, t] }) (hs : a.eval s = v) (hx : a.eval x = .slice (some ⟨w.heap.size, 0, none⟩) 1 1)
    (hK : ∀ v' w', Grow e w0 w' v' (xs ++ [u]) → w.grownBy w' v.ownBlock → v' ≠ .slice none 0 0 → wpList P ops Q rest (a.put o.dst v') w') :
    wpList P ops Q (o :: rest) a (w.alloc (.cells #[u] e)) := by
  obtain ⟨i0, hi, hz0, hz1, hz2⟩ := info_parts S.inf
  have hbs := h.2.size
  have hf := S.few
  have hm : (xs.length + 1) * by_ ≤ (xs.length + 1) * 64 := Nat.mul_le_mul_left _ hf
  refine wpList_append_own (P := P) _ hgd s x t ho w0.heap.size e i0 z 1 by_ S.und hi hz0 hz1 hz2 S.one (by decide) v xs.length xs hs (h.1.alloc _) ⟨w.heap.size, 0, none⟩ 1 1 [u] hx rfl (one_cell w u e) (by intro y hy; rw [List.mem_singleton] at hy; subst hy; exact hu)
    (by unfold maxLen; omega) (by omega) (by rw [size_alloc']; omega) ?_
  intro v' w' hown hg hn
  refine hK v' w' ⟨by simpa using hown, (h.2.alloc hbs _).grown hg (by rw [size_alloc']; omega) (fun g hg => (h.1.lt g hg).1)⟩ (gb_trans (World.grownBy_alloc w _ _) hg) (fun e => ?_)
  have := (hn.1 e).2
  omega
theorem own_append {base : Nat} (S : SlT P t e z by_) (h : w.ownsRow base e 1 v xs.length xs) (hbs : base ≤ w.heap.size) (u : Value) (hu : u.oneCell' = true) (hl : xs.length < 1000000000000) {o : Oper} {a : Act} {ops : Array Oper} {rest : List Oper} {Q : Exit → Act → World → Prop} (hgd : o.guard = none) (s x : Operand)
    (ho : o.op = .call { callee := .builtin .append, args := #[s, x], argTypes := #[t, t] }) (hs : a.eval s = v) (hx : a.eval x = .slice (some ⟨w.heap.size, 0, none⟩) 1 1)
    (hK : ∀ v' w', w'.ownsRow base e 1 v' (xs ++ [u]).length (xs ++ [u]) → w.grownBy w' v.ownBlock → v' ≠ .slice none 0 0 → wpList P ops Q rest (a.put o.dst v') w') :
    wpList P ops Q (o :: rest) a (w.alloc (.cells #[u] e)) := by
  obtain ⟨i0, hi, hz0, hz1, hz2⟩ := info_parts S.inf
  have hf := S.few
  have hm : (xs.length + 1) * by_ ≤ (xs.length + 1) * 64 := Nat.mul_le_mul_left _ hf
  refine wpList_append_own (P := P) _ hgd s x t ho base e i0 z 1 by_ S.und hi hz0 hz1 hz2 S.one (by decide) v xs.length xs hs (h.alloc _) ⟨w.heap.size, 0, none⟩ 1 1 [u] hx rfl (one_cell w u e) (by intro y hy; rw [List.mem_singleton] at hy; subst hy; exact hu)
    (by unfold maxLen; omega) (by omega) (by rw [size_alloc']; omega) ?_
  intro v' w' hown hg hn
  refine hK v' w' (by simpa using hown) (gb_trans (World.grownBy_alloc w _ _) hg) (fun e => ?_)
  have := (hn.1 e).2
  omega
theorem Grow.appendAll (S : SlT P t e z by_) (h : Grow e w0 w v xs) (A : Option Addr) (m c B : Nat) (ys : List Value) (hys : ys.length = m) (hA : A = none → m = 0 ∧ c = 0) (hrd : Rd w B A ys) (hone : ∀ u ∈ ys, u.oneCell' = true) (hl : xs.length + m < 1000000000000) {o : Oper} {a : Act} {ops : Array Oper} {rest : List Oper} {Q : Exit → Act → World → Prop} (hgd : o.guard = none) (s x : Operand)
    (ho : o.op = .call { callee := .builtin .append, args := #[s, x], argTypes := #[t, t] }) (hs : a.eval s = v) (hx : a.eval x = .slice A m c)
    (hK : ∀ v' w', Grow e w0 w' v' (xs ++ ys) → w.grownBy w' v.ownBlock → (v' = .slice none 0 0 ↔ v = .slice none 0 0 ∧ m = 0) → wpList P ops Q rest (a.put o.dst v') w') :
    wpList P ops Q (o :: rest) a w := by
  obtain ⟨i0, hi, hz0, hz1, hz2⟩ := info_parts S.inf
  have hbs := h.2.size
  have hf := S.few
  have hm : (xs.length + m) * by_ ≤ (xs.length + m) * 64 := Nat.mul_le_mul_left _ hf
  cases A with
  | none =>
    obtain ⟨rfl, rfl⟩ := hA rfl
    have := List.eq_nil_of_length_eq_zero hys; subst this
    refine wpList_append_own_none (P := P) hgd s x t ho w0.heap.size e i0 1 S.und hi v xs.length xs hs h.1 hx ?_
    exact hK v w ⟨by simpa using h.1, h.2⟩ (gb_refl _ _) ⟨fun e => ⟨e, rfl⟩, fun e => e.1⟩
  | some ad =>
    refine wpList_append_own (P := P) _ hgd s x t ho w0.heap.size e i0 z 1 by_ S.und hi hz0 hz1 hz2 S.one (by decide) v xs.length xs hs h.1 ad m c ys hx (by omega) (fun j u hj => ?_) hone
      (by unfold maxLen; omega) (by omega) hbs ?_
    · obtain ⟨ad', e1, _, hc⟩ := hrd (by intro e; subst e; simp at hj)
      cases e1; exact hc j u hj
    intro v' w' hown hg hn
    exact hK v' w' ⟨by simpa [hys] using hown, h.2.grown hg hbs (fun g hg => (h.1.lt g hg).1)⟩ hg hn
end
theorem own_take {w : World} {base e n k cap : Nat} {A : Option Addr} {xs : List Value} (h : w.ownsRow base e 1 (.slice A n cap) n xs) (hk : k ≤ n) (hA : A ≠ none) : w.ownsRow base e 1 (.slice A k cap) k (xs.take k) := by
  rcases h with ⟨hl, ⟨hv, _⟩ | ⟨g, c, cur, hv, hb, hblk, hn, hc, hs, ht⟩⟩
  · injection hv; contradiction
  · cases hv
    refine ⟨by rw [List.length_take]; omega, .inr ⟨g, cap, cur, rfl, hb, hblk, by omega, hc, hs, ?_⟩⟩
    rw [← ht, List.take_take]
    congr 1; omega
theorem Grow.some_ {e : TypeId} {w0 w : World} {v : Value} {xs : List Value} (h : Grow e w0 w v xs) (hv : v ≠ .slice none 0 0) : ∃ g c cur, v = .slice (some ⟨g, 0, none⟩) xs.length c ∧ w0.heap.size ≤ g ∧ w.heap[g]? = some (.cells cur e (0, 0)) ∧ xs.length ≤ c ∧ c ≤ maxLen ∧ cur.size = c ∧ cur.toList.take xs.length = xs := by
  rcases h.1.2 with ⟨h1, _⟩ | ⟨g, c, cur, h1, hb, hblk, hn, hc, hs, ht⟩
  · exact absurd h1 hv
  · exact ⟨g, c, cur, h1, hb, hblk, hn, hc, by omega, by simpa using ht⟩
theorem step_own {P : Program} {t e by_ : Nat} {z : Value} (S : SlT P t e z by_) {W : World} {o : Oper} {a : Act} {ops : Array Oper} {K : Act → World → Prop} {Q : Exit → Act → World → Prop} {E : Prop} (hg : o.guard = none) (s x : Operand)
    (ho : o.op = .call { callee := .builtin .append, args := #[s, x], argTypes := #[t, t] }) (base : Nat) (v : Value) (xs : List Value) (hs : a.eval s = v) (hown : W.ownsRow base e 1 v xs.length xs)
    (ad : Addr) (m c : Nat) (ys : List Value) (hx : a.eval x = .slice (some ad) m c) (hys : ys.length = m) (hc : ∀ j u, ys[j]? = some u → W.cell? (ad.add j) = some u) (hone : ∀ u ∈ ys, u.oneCell' = true) (hl : xs.length + m < 1000000000000) (hbase : base ≤ W.heap.size)
    (hK : ∀ v' w', w'.ownsRow base e 1 v' (xs.length + m) (xs ++ ys) → W.grownBy w' v.ownBlock → (v' = .slice none 0 0 ↔ v = .slice none 0 0 ∧ m = 0) → K (a.put o.dst v') w') :
    if Region.wanted o (yielded ops a.tmps) = true then Oper.wp P o a W K Q else E := by
  obtain ⟨i0, hi, hz0, hz1, hz2⟩ := info_parts S.inf
  have hf := S.few
  have hm : (xs.length + m) * by_ ≤ (xs.length + m) * 64 := Nat.mul_le_mul_left _ hf
  have hw : Region.wanted o (yielded ops a.tmps) = true := by simp [Region.wanted, hg]
  rw [if_pos hw]
  exact wp_append_own W s x t ho base e i0 z 1 by_ S.und hi hz0 hz1 hz2 S.one (by decide) v xs.length xs hs hown ad m c ys hx (by omega) hc hone (by unfold maxLen; omega) (by omega) hbase (fun v' w' h1 h2 h3 => hK v' w' h1 h2 h3)
theorem strT : SlT Tryz.prog 24 9 (sv []) 16 := ⟨Tryz.underlying24, by kernel_rfl, rfl, by decide⟩
end Go.Proofs.YtnmomlaimffonaaGreat.Ow
set_option maxRecDepth 100000
namespace Go.Proofs.YtnmomlaimffonaaGreat.Os
open Go.RowKit Go.Lib Com Mem Ow
theorem add_zero (g j : Nat) : (⟨g, 0, none⟩ : Addr).add j = ⟨g, j, none⟩ := by unfold Addr.add; split <;> simp_all
def Same (lo hi : Nat) (w w' : World) : Prop := ∀ k, lo ≤ k → k < hi → w'.heap[k]? = w.heap[k]?
structure Chg (w w' : World) (lo hi : Nat) : Prop where
  os : w'.os = w.os
  tape : w'.tape = w.tape
  output : w'.output = w.output
  size : w.heap.size ≤ w'.heap.size
  block : ∀ k, k < w.heap.size → (k < lo ∨ hi ≤ k) → w'.heap[k]? = w.heap[k]?
theorem chg_of_gb {w w' : World} {g lo hi : Nat} (h : w.grownBy w' (some g)) (h1 : lo ≤ g) (h2 : g < hi) : Chg w w' lo hi :=
  ⟨h.os, h.tape, h.output, h.size, fun k hk hr => h.block k hk (fun e => by have := Option.some.inj e; omega)⟩
theorem chg_trans {a b c : World} {lo hi : Nat} (h : Chg a b lo hi) (k : Chg b c lo hi) : Chg a c lo hi :=
  ⟨k.os.trans h.os, k.tape.trans h.tape, k.output.trans h.output, Nat.le_trans h.size k.size, fun i hi hr => (k.block i (Nat.lt_of_lt_of_le hi h.size) hr).trans (h.block i hi hr)⟩
theorem chg_of_below {w w' : World} (h : Below w.heap.size w w') (lo hi : Nat) : Chg w w' lo hi := ⟨h.os, h.tape, h.output, h.size, fun k hk _ => h.block k hk⟩
theorem same_below {lo hi B : Nat} {w w' : World} (h : Below B w w') (h1 : hi ≤ B) : Same lo hi w w' := fun k _ hk => h.block k (by omega)
def Own (e : TypeId) (lo hi : Nat) (w : World) (v : Value) (xs : List Value) : Prop :=
  ∃ A c cs, v = .slice A xs.length c ∧ xs.length ≤ c ∧ c ≤ maxLen ∧ (A = none → xs = [] ∧ c = 0) ∧ (∀ ad, A = some ad → ad = ⟨ad.block, 0, none⟩ ∧ lo ≤ ad.block ∧ ad.block < hi ∧ Blk w ad.block e cs) ∧ cs.take xs.length = xs
section
variable {e lo hi : Nat} {w w' w0 : World} {v : Value} {xs : List Value}
theorem Own.of_grow (h : Grow e w0 w v xs) : Own e w0.heap.size w.heap.size w v xs := by
  rcases h.1.2 with ⟨hv, hn⟩ | ⟨g, c, cur, hv, hb, hblk, hnc, hcm, _, ht⟩
  · have hx := List.eq_nil_of_length_eq_zero hn
    subst hx
    exact ⟨none, 0, [], hv, Nat.le_refl _, by unfold maxLen; omega, fun _ => ⟨rfl, rfl⟩, (fun ad h => by cases h), rfl⟩
  · refine ⟨_, c, cur.toList, hv, hnc, hcm, (fun h => by cases h), (fun ad h => by cases h; exact ⟨rfl, hb, (Array.getElem?_eq_some_iff.1 hblk).1, by unfold Blk; simpa using hblk⟩), by simpa using ht⟩
theorem Own.same (h : Own e lo hi w v xs) (hs : Same lo hi w w') : Own e lo hi w' v xs := by
  obtain ⟨A, c, cs, h1, h2, hm, h3, h4, h5⟩ := h
  exact ⟨A, c, cs, h1, h2, hm, h3, fun ad ha => ⟨(h4 ad ha).1, (h4 ad ha).2.1, (h4 ad ha).2.2.1, (hs _ (h4 ad ha).2.1 (h4 ad ha).2.2.1).trans (h4 ad ha).2.2.2⟩, h5⟩
theorem Own.mono {lo' hi' : Nat} (h : Own e lo hi w v xs) (h1 : lo' ≤ lo) (h2 : hi ≤ hi') : Own e lo' hi' w v xs := by
  obtain ⟨A, c, cs, e1, e2, hm, e3, e4, e5⟩ := h
  exact ⟨A, c, cs, e1, e2, hm, e3, fun ad ha => ⟨(e4 ad ha).1, by have := (e4 ad ha).2.1; omega, by have := (e4 ad ha).2.2.1; omega, (e4 ad ha).2.2.2⟩, e5⟩
theorem Own.read (h : Own e lo hi w v xs) : ∃ A c, v = .slice A xs.length c ∧ Rd w w.heap.size A xs ∧ xs.length ≤ c ∧ c ≤ maxLen ∧ (A = none → c = 0) ∧ ∀ ad, A = some ad → ad = ⟨ad.block, 0, none⟩ := by
  obtain ⟨A, c, cs, h1, h2, hm, h3, h4, h5⟩ := h
  refine ⟨A, c, h1, fun hne => ?_, h2, hm, fun ha => (h3 ha).2, fun ad ha => (h4 ad ha).1⟩
  cases A with
  | none => exact absurd (h3 rfl).1 hne
  | some ad =>
    obtain ⟨hz, _, _, hb⟩ := h4 ad rfl
    refine ⟨ad, rfl, hb.lt, fun j u hj => ?_⟩
    have e1 : ad.add j = ⟨ad.block, j, none⟩ := (congrArg (Addr.add · j) hz).trans (add_zero _ _)
    rw [e1, hb.cell]
    rw [← h5] at hj
    rw [List.getElem?_take] at hj
    split at hj
    · exact hj
    · cases hj
end
theorem Own.block_ {e lo hi : Nat} {w : World} {v : Value} {xs : List Value} (h : Own e lo hi w v xs) {g : Nat} (hg : v.ownBlock = some g) : lo ≤ g ∧ g < hi ∧ ∃ cs, Blk w g e cs := by
  obtain ⟨A, c, cs, rfl, _, _, _, h4, _⟩ := h
  cases A with
  | none => cases hg
  | some ad =>
    have : ad.block = g := Option.some.inj hg
    subst this
    exact ⟨(h4 ad rfl).2.1, (h4 ad rfl).2.2.1, cs, (h4 ad rfl).2.2.2⟩
theorem Own.gb_ {e lo hi : Nat} {w w' : World} {v : Value} {xs : List Value} {row : Option Nat} (h : Own e lo hi w v xs) (hg : w.grownBy w' row) (hne : ∀ g, v.ownBlock = some g → row ≠ some g) : Own e lo hi w' v xs := by
  obtain ⟨A, c, cs, h1, h2, hm, h3, h4, h5⟩ := h
  refine ⟨A, c, cs, h1, h2, hm, h3, fun ad ha => ⟨(h4 ad ha).1, (h4 ad ha).2.1, (h4 ad ha).2.2.1, ?_⟩, h5⟩
  have hb := (h4 ad ha).2.2.2
  refine (hg.block _ hb.lt (fun e => ?_)).trans hb
  exact hne ad.block (by rw [h1, ha]; rfl) e.symm
theorem kinds {w : World} {g e1 e2 : Nat} {c1 c2 : List Value} (h1 : Blk w g e1 c1) (h2 : Blk w g e2 c2) : e1 = e2 := by
  unfold Blk at h1 h2; rw [h1] at h2; injection h2 with h; injection h
end Go.Proofs.YtnmomlaimffonaaGreat.Os
