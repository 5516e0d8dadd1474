/- A slice of the call's own, whatever its elements of one cell. -/
import Derived.Test.YtnmomlaimffonaaOw
set_option maxRecDepth 100000
namespace Go.Proofs.Ytnmomlaimffonaa.Os
open Go.RowKit Go.Lib Go.Proofs.Ytnmomlaimffonaa.Com Go.Proofs.Ytnmomlaimffonaa.Mem Go.Proofs.Ytnmomlaimffonaa.Ow

theorem add_zero (g j : Nat) : (⟨g, 0, none⟩ : Addr).add j = ⟨g, j, none⟩ := by unfold Addr.add; split <;> simp_all
/-- between lo and hi the blocks of w' are those of w -/
def Same (lo hi : Nat) (w w' : World) : Prop := ∀ k, lo ≤ k → k < hi → w'.heap[k]? = w.heap[k]?
/-- nothing that was there has turned, but for blocks from lo up to hi -/
structure Chg (w w' : World) (lo hi : Nat) : Prop where
  os : w'.os = w.os
  tape : w'.tape = w.tape
  output : w'.output = w.output
  size : w.heap.size ≤ w'.heap.size
  block : ∀ k, k < w.heap.size → (k < lo ∨ hi ≤ k) → w'.heap[k]? = w.heap[k]?
theorem chg_of_gb {w w' : World} {g lo hi : Nat} (h : w.grownBy w' (some g)) (h1 : lo ≤ g) (h2 : g < hi) : Chg w w' lo hi :=
  ⟨h.os, h.tape, h.output, h.size, fun k hk hr => h.block k hk (fun e => by have := Option.some.inj e; omega)⟩
theorem chg_refl (w : World) (lo hi : Nat) : Chg w w lo hi := ⟨rfl, rfl, rfl, Nat.le_refl _, fun _ _ _ => rfl⟩
theorem chg_trans {a b c : World} {lo hi : Nat} (h : Chg a b lo hi) (k : Chg b c lo hi) : Chg a c lo hi :=
  ⟨k.os.trans h.os, k.tape.trans h.tape, k.output.trans h.output, Nat.le_trans h.size k.size, fun i hi hr => (k.block i (Nat.lt_of_lt_of_le hi h.size) hr).trans (h.block i hi hr)⟩
theorem chg_mono {a b : World} {lo hi lo' hi' : Nat} (h : Chg a b lo hi) (h1 : lo' ≤ lo) (h2 : hi ≤ hi') : Chg a b lo' hi' :=
  ⟨h.os, h.tape, h.output, h.size, fun i hi hr => h.block i hi (by omega)⟩
theorem chg_of_below {w w' : World} (h : Below w.heap.size w w') (lo hi : Nat) : Chg w w' lo hi := ⟨h.os, h.tape, h.output, h.size, fun k hk _ => h.block k hk⟩
theorem same_below {lo hi B : Nat} {w w' : World} (h : Below B w w') (h1 : hi ≤ B) : Same lo hi w w' := fun k _ hk => h.block k (by omega)
theorem same_chg {lo hi lo' hi' : Nat} {w w' : World} (h : Chg w w' lo' hi') (h1 : hi ≤ w.heap.size) (h2 : hi ≤ lo' ∨ hi' ≤ lo) : Same lo hi w w' := fun k hlo hk => h.block k (by omega) (by omega)
theorem below_chg {B lo hi : Nat} {a w b : World} (h : Below B a w) (hg : Chg w b lo hi) (hB : B ≤ lo) (hBs : B ≤ w.heap.size) : Below B a b :=
  ⟨hg.os.trans h.os, hg.tape.trans h.tape, hg.output.trans h.output, Nat.le_trans h.size hg.size, fun k hk => (hg.block k (by omega) (by omega)).trans (h.block k hk)⟩

/-- the slice v holds xs; its row is a block from lo on, below hi, and no other slice's but its own writes there -/
def Own (e : TypeId) (lo hi : Nat) (w : World) (v : Value) (xs : List Value) : Prop :=
  ∃ A c cs, v = .slice A xs.length c ∧ xs.length ≤ c ∧ c ≤ maxLen ∧ (A = none → xs = [] ∧ c = 0) ∧ (∀ ad, A = some ad → ad = ⟨ad.block, 0, none⟩ ∧ lo ≤ ad.block ∧ ad.block < hi ∧ Blk w ad.block e cs) ∧ cs.take xs.length = xs

section
variable {e lo hi : Nat} {w w' w0 : World} {v : Value} {xs : List Value}
theorem Own.of_grow (h : Grow e w0 w v xs) : Own e w0.heap.size w.heap.size w v xs := by
  rcases h.1.2 with ⟨hv, hn⟩ | ⟨g, c, cur, hv, hb, hblk, hnc, hcm, _, ht⟩
  · have hx := List.eq_nil_of_length_eq_zero hn
    subst hx
    exact ⟨none, 0, [], hv, Nat.le_refl _, by unfold maxLen; omega, fun _ => ⟨rfl, rfl⟩, (fun ad h => by cases h), rfl⟩
  · refine ⟨_, c, cur.toList, hv, hnc, hcm, (fun h => by cases h), (fun ad h => by cases h; exact ⟨rfl, hb, (Array.getElem?_eq_some_iff.1 hblk).1, by unfold Blk; simpa using hblk⟩), by simpa using ht⟩
theorem Own.of_blk {g : Nat} (h : Blk w g e xs) (hg : lo ≤ g) (hm : xs.length ≤ maxLen) : Own e lo w.heap.size w (.slice (some ⟨g, 0, none⟩) xs.length xs.length) xs :=
  ⟨_, _, xs, rfl, Nat.le_refl _, hm, (fun h => by cases h), (fun ad h' => by cases h'; exact ⟨rfl, hg, h.lt, h⟩), List.take_of_length_le (Nat.le_refl _)⟩
theorem Own.same (h : Own e lo hi w v xs) (hs : Same lo hi w w') : Own e lo hi w' v xs := by
  obtain ⟨A, c, cs, h1, h2, hm, h3, h4, h5⟩ := h
  exact ⟨A, c, cs, h1, h2, hm, h3, fun ad ha => ⟨(h4 ad ha).1, (h4 ad ha).2.1, (h4 ad ha).2.2.1, (hs _ (h4 ad ha).2.1 (h4 ad ha).2.2.1).trans (h4 ad ha).2.2.2⟩, h5⟩
theorem Own.mono {lo' hi' : Nat} (h : Own e lo hi w v xs) (h1 : lo' ≤ lo) (h2 : hi ≤ hi') : Own e lo' hi' w v xs := by
  obtain ⟨A, c, cs, e1, e2, hm, e3, e4, e5⟩ := h
  exact ⟨A, c, cs, e1, e2, hm, e3, fun ad ha => ⟨(e4 ad ha).1, by have := (e4 ad ha).2.1; omega, by have := (e4 ad ha).2.2.1; omega, (e4 ad ha).2.2.2⟩, e5⟩
theorem Own.read (h : Own e lo hi w v xs) : ∃ A c, v = .slice A xs.length c ∧ Rd w w.heap.size A xs ∧ xs.length ≤ c ∧ c ≤ maxLen ∧ (A = none → c = 0) ∧ ∀ ad, A = some ad → ad = ⟨ad.block, 0, none⟩ := by
  obtain ⟨A, c, cs, h1, h2, hm, h3, h4, h5⟩ := h
  refine ⟨A, c, h1, fun hne => ?_, h2, hm, fun ha => (h3 ha).2, fun ad ha => (h4 ad ha).1⟩
  cases A with
  | none => exact absurd (h3 rfl).1 hne
  | some ad =>
    obtain ⟨hz, _, _, hb⟩ := h4 ad rfl
    refine ⟨ad, rfl, hb.lt, fun j u hj => ?_⟩
    have e1 : ad.add j = ⟨ad.block, j, none⟩ := (congrArg (Addr.add · j) hz).trans (add_zero _ _)
    rw [e1, hb.cell]
    rw [← h5] at hj
    rw [List.getElem?_take] at hj
    split at hj
    · exact hj
    · cases hj
end
theorem Own.block_ {e lo hi : Nat} {w : World} {v : Value} {xs : List Value} (h : Own e lo hi w v xs) {g : Nat} (hg : v.ownBlock = some g) : lo ≤ g ∧ g < hi ∧ ∃ cs, Blk w g e cs := by
  obtain ⟨A, c, cs, rfl, _, _, _, h4, _⟩ := h
  cases A with
  | none => cases hg
  | some ad =>
    have : ad.block = g := Option.some.inj hg
    subst this
    exact ⟨(h4 ad rfl).2.1, (h4 ad rfl).2.2.1, cs, (h4 ad rfl).2.2.2⟩
theorem Own.gb_ {e lo hi : Nat} {w w' : World} {v : Value} {xs : List Value} {row : Option Nat} (h : Own e lo hi w v xs) (hg : w.grownBy w' row) (hne : ∀ g, v.ownBlock = some g → row ≠ some g) : Own e lo hi w' v xs := by
  obtain ⟨A, c, cs, h1, h2, hm, h3, h4, h5⟩ := h
  refine ⟨A, c, cs, h1, h2, hm, h3, fun ad ha => ⟨(h4 ad ha).1, (h4 ad ha).2.1, (h4 ad ha).2.2.1, ?_⟩, h5⟩
  have hb := (h4 ad ha).2.2.2
  refine (hg.block _ hb.lt (fun e => ?_)).trans hb
  exact hne ad.block (by rw [h1, ha]; rfl) e.symm
theorem kinds {w : World} {g e1 e2 : Nat} {c1 c2 : List Value} (h1 : Blk w g e1 c1) (h2 : Blk w g e2 c2) : e1 = e2 := by
  unfold Blk at h1 h2; rw [h1] at h2; injection h2 with h; injection h

end Go.Proofs.Ytnmomlaimffonaa.Os
