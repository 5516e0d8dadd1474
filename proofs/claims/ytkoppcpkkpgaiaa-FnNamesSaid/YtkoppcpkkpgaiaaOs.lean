/- Slices of the call's own as the laws handle them: compared, marked, looked at again. -/
import Derived.Test.YtkoppcpkkpgaiaaLhM
import Derived.Test.YtkoppcpkkpgaiaaOw
namespace Go.Proofs.Ytkoppcpkkpgaiaa.Os
open Go.RowKit Go.Lib Go.Proofs.Ytkoppcpkkpgaiaa.Com Go.Proofs.Ytkoppcpkkpgaiaa.Mem Go.Proofs.Ytkoppcpkkpgaiaa.Lh Go.Proofs.Ytkoppcpkkpgaiaa.Ow

theorem add_zero (g j : Nat) : (⟨g, 0, none⟩ : Addr).add j = ⟨g, j, none⟩ := by unfold Addr.add; split <;> simp_all
/-- between lo and hi the blocks of w' are those of w -/
def Same (lo hi : Nat) (w w' : World) : Prop := ∀ k, lo ≤ k → k < hi → w'.heap[k]? = w.heap[k]?
/-- nothing that was there has turned, but for blocks from lo up to hi -/
structure Chg (w w' : World) (lo hi : Nat) : Prop where
  os : w'.os = w.os
  tape : w'.tape = w.tape
  output : w'.output = w.output
  size : w.heap.size ≤ w'.heap.size
  block : ∀ k, k < w.heap.size → (k < lo ∨ hi ≤ k) → w'.heap[k]? = w.heap[k]?
theorem chg_of_gb {w w' : World} {g lo hi : Nat} (h : w.grownBy w' (some g)) (h1 : lo ≤ g) (h2 : g < hi) : Chg w w' lo hi :=
  ⟨h.os, h.tape, h.output, h.size, fun k hk hr => h.block k hk (fun e => by have := Option.some.inj e; omega)⟩
theorem chg_refl (w : World) (lo hi : Nat) : Chg w w lo hi := ⟨rfl, rfl, rfl, Nat.le_refl _, fun _ _ _ => rfl⟩
theorem chg_trans {a b c : World} {lo hi : Nat} (h : Chg a b lo hi) (k : Chg b c lo hi) : Chg a c lo hi :=
  ⟨k.os.trans h.os, k.tape.trans h.tape, k.output.trans h.output, Nat.le_trans h.size k.size, fun i hi hr => (k.block i (Nat.lt_of_lt_of_le hi h.size) hr).trans (h.block i hi hr)⟩
theorem chg_mono {a b : World} {lo hi lo' hi' : Nat} (h : Chg a b lo hi) (h1 : lo' ≤ lo) (h2 : hi ≤ hi') : Chg a b lo' hi' :=
  ⟨h.os, h.tape, h.output, h.size, fun i hi hr => h.block i hi (by omega)⟩
theorem chg_of_below {w w' : World} (h : Below w.heap.size w w') (lo hi : Nat) : Chg w w' lo hi := ⟨h.os, h.tape, h.output, h.size, fun k hk _ => h.block k hk⟩
theorem same_below {lo hi B : Nat} {w w' : World} (h : Below B w w') (h1 : hi ≤ B) : Same lo hi w w' := fun k _ hk => h.block k (by omega)
theorem same_chg {lo hi lo' hi' : Nat} {w w' : World} (h : Chg w w' lo' hi') (h1 : hi ≤ w.heap.size) (h2 : hi ≤ lo' ∨ hi' ≤ lo) : Same lo hi w w' := fun k hlo hk => h.block k (by omega) (by omega)
theorem below_chg {B lo hi : Nat} {a w b : World} (h : Below B a w) (hg : Chg w b lo hi) (hB : B ≤ lo) (hBs : B ≤ w.heap.size) : Below B a b :=
  ⟨hg.os.trans h.os, hg.tape.trans h.tape, hg.output.trans h.output, Nat.le_trans h.size hg.size, fun k hk => (hg.block k (by omega) (by omega)).trans (h.block k hk)⟩

/-- the slice v holds xs; its row is a block from lo on, below hi, and no other slice's but its own writes there -/
def Own (e : TypeId) (lo hi : Nat) (w : World) (v : Value) (xs : List Value) : Prop :=
  ∃ A c cs, v = .slice A xs.length c ∧ xs.length ≤ c ∧ c ≤ maxLen ∧ (A = none → xs = [] ∧ c = 0) ∧ (∀ ad, A = some ad → ad = ⟨ad.block, 0, none⟩ ∧ lo ≤ ad.block ∧ ad.block < hi ∧ Blk w ad.block e cs) ∧ cs.take xs.length = xs

section
variable {e lo hi : Nat} {w w' w0 : World} {v : Value} {xs : List Value}
theorem Own.of_grow (h : Grow e w0 w v xs) : Own e w0.heap.size w.heap.size w v xs := by
  rcases h.1.2 with ⟨hv, hn⟩ | ⟨g, c, cur, hv, hb, hblk, hnc, hcm, _, ht⟩
  · have hx := List.eq_nil_of_length_eq_zero hn
    subst hx
    exact ⟨none, 0, [], hv, Nat.le_refl _, by unfold maxLen; omega, fun _ => ⟨rfl, rfl⟩, (fun ad h => by cases h), rfl⟩
  · refine ⟨_, c, cur.toList, hv, hnc, hcm, (fun h => by cases h), (fun ad h => by cases h; exact ⟨rfl, hb, (Array.getElem?_eq_some_iff.1 hblk).1, by unfold Blk; simpa using hblk⟩), by simpa using ht⟩
theorem Own.of_blk {g : Nat} (h : Blk w g e xs) (hg : lo ≤ g) (hm : xs.length ≤ maxLen) : Own e lo w.heap.size w (.slice (some ⟨g, 0, none⟩) xs.length xs.length) xs :=
  ⟨_, _, xs, rfl, Nat.le_refl _, hm, (fun h => by cases h), (fun ad h' => by cases h'; exact ⟨rfl, hg, h.lt, h⟩), List.take_of_length_le (Nat.le_refl _)⟩
theorem Own.same (h : Own e lo hi w v xs) (hs : Same lo hi w w') : Own e lo hi w' v xs := by
  obtain ⟨A, c, cs, h1, h2, hm, h3, h4, h5⟩ := h
  exact ⟨A, c, cs, h1, h2, hm, h3, fun ad ha => ⟨(h4 ad ha).1, (h4 ad ha).2.1, (h4 ad ha).2.2.1, (hs _ (h4 ad ha).2.1 (h4 ad ha).2.2.1).trans (h4 ad ha).2.2.2⟩, h5⟩
theorem Own.mono {lo' hi' : Nat} (h : Own e lo hi w v xs) (h1 : lo' ≤ lo) (h2 : hi ≤ hi') : Own e lo' hi' w v xs := by
  obtain ⟨A, c, cs, e1, e2, hm, e3, e4, e5⟩ := h
  exact ⟨A, c, cs, e1, e2, hm, e3, fun ad ha => ⟨(e4 ad ha).1, by have := (e4 ad ha).2.1; omega, by have := (e4 ad ha).2.2.1; omega, (e4 ad ha).2.2.2⟩, e5⟩
theorem Own.read (h : Own e lo hi w v xs) : ∃ A c, v = .slice A xs.length c ∧ Rd w w.heap.size A xs ∧ xs.length ≤ c ∧ c ≤ maxLen ∧ (A = none → c = 0) ∧ ∀ ad, A = some ad → ad = ⟨ad.block, 0, none⟩ := by
  obtain ⟨A, c, cs, h1, h2, hm, h3, h4, h5⟩ := h
  refine ⟨A, c, h1, fun hne => ?_, h2, hm, fun ha => (h3 ha).2, fun ad ha => (h4 ad ha).1⟩
  cases A with
  | none => exact absurd (h3 rfl).1 hne
  | some ad =>
    obtain ⟨hz, _, _, hb⟩ := h4 ad rfl
    refine ⟨ad, rfl, hb.lt, fun j u hj => ?_⟩
    have e1 : ad.add j = ⟨ad.block, j, none⟩ := (congrArg (Addr.add · j) hz).trans (add_zero _ _)
    rw [e1, hb.cell]
    rw [← h5] at hj
    rw [List.getElem?_take] at hj
    split at hj
    · exact hj
    · cases hj
end

abbrev OwnS (lo hi : Nat) (w : World) (v : Value) (l : List (List UInt8)) : Prop := Own 9 lo hi w v (l.map sv)

theorem OwnS.read_ {lo hi : Nat} {w : World} {v : Value} {l : List (List UInt8)} (h : OwnS lo hi w v l) : ∃ A c, v = .slice A l.length c ∧ Rd w w.heap.size A (l.map sv) ∧ l.length ≤ c ∧ c ≤ maxLen ∧ (A = none → c = 0) ∧ ∀ ad, A = some ad → ad = ⟨ad.block, 0, none⟩ := by
  have := h.read
  rwa [List.length_map] at this

theorem eqS_own {lo1 lo2 hi1 hi2 : Nat} {v1 v2 : Value} {l : List (List UInt8)} (w : World) (h1 : OwnS lo1 hi1 w v1 l) (h2 : OwnS lo2 hi2 w v2 l) :
    Calls Try.prog 32 #[v1, v2] w fun e w' => e = .returned (.bool true) ∧ Below w.heap.size w w' := by
  obtain ⟨A1, c1, rfl, hr1, hc1, hm1, _⟩ := h1.read_
  obtain ⟨A2, c2, rfl, hr2, _⟩ := h2.read_
  exact eqS_any A1 A2 c1 c2 l w hr1 hr2 (by unfold maxLen at hm1; omega)

/-- the slice v is marked from k on, n places -/
def Marked (lo hi : Nat) (w : World) (v : Value) (k n : Nat) : Prop := Own 9 lo hi w v (marks k n)

theorem calls_empty_mark (A : Option Addr) (c k : Nat) (w : World) :
    Calls Try.prog 35 #[.slice A 0 c, .int .i64 k] w fun e w' => e = .returned (.int .i64 k) ∧ w = w' := by
  go_enter Try.func35, Try.ntmps35
  go_wp2_with fail
  refine wp_loop_rounds 1 ?_; rw [rounds_succ]
  go_wp2_with fail
  go_ret
  exact ⟨rfl, rfl⟩
theorem markS_own {lo hi : Nat} {v : Value} {l : List (List UInt8)} (kI : Int) (w : World) (h : OwnS lo hi w v l) (h0 : 0 < kI) (h1 : kI + l.length ≤ 9223372036854775807) :
    Calls Try.prog 35 #[v, .int .i64 kI] w fun e w' => e = .returned (.int .i64 (kI + (l.length : Int))) ∧ Marked lo hi w' v kI.toNat l.length ∧ Chg w w' lo hi := by
  obtain ⟨k, rfl⟩ : ∃ k : Nat, kI = k := ⟨kI.toNat, by omega⟩
  rw [Int.toNat_natCast]
  obtain ⟨A, c, cs, rfl, hc, hm, hn, hs, ht⟩ := h
  rw [List.length_map] at hc ht
  rw [List.length_map]
  cases A with
  | none =>
    obtain ⟨h2, rfl⟩ := hn rfl
    obtain rfl : l = [] := by simpa using h2
    refine (calls_empty_mark none 0 k w).mono ?_
    rintro e w' ⟨rfl, rfl⟩
    exact ⟨by simp, ⟨none, 0, [], rfl, Nat.le_refl _, hm, fun _ => ⟨rfl, rfl⟩, (fun ad h => by cases h), rfl⟩, chg_refl _ _ _⟩
  | some ad =>
    obtain ⟨hz, hlo, hhi, hb⟩ := hs ad rfl
    generalize ad.block = g at *
    subst hz
    have hcl : l.length ≤ cs.length := by
      have := congrArg List.length ht
      rw [List.length_take, List.length_map] at this; omega
    refine (markS_row g c k l.length cs w hb hcl (by omega) (by omega)).mono ?_
    rintro e w' ⟨rfl, hb', hg⟩
    refine ⟨rfl, ⟨_, c, _, by rw [marks_length], by rw [marks_length]; exact hc, hm, (fun h => by cases h), (fun ad h => by cases h; exact ⟨rfl, hlo, hhi, hb'⟩), ?_⟩, chg_of_gb hg hlo hhi⟩
    rw [marks_length]; unfold half
    rw [List.take_append_of_le_length (by rw [marks_length]; exact Nat.le_refl _), List.take_of_length_le (by rw [marks_length]; exact Nat.le_refl _)]
theorem calls_empty_held (A : Option Addr) (c k : Nat) (w : World) :
    Calls Try.prog 36 #[.slice A 0 c, .int .i64 k] w fun e w' => e = .returned (.int .i64 k) ∧ w = w' := by
  go_enter Try.func36, Try.ntmps36
  go_wp2_with fail
  refine wp_loop_rounds 1 ?_; rw [rounds_succ]
  go_wp2_with fail
  go_ret
  exact ⟨rfl, rfl⟩
theorem heldS_own {lo hi n : Nat} {v : Value} (kI : Int) (w : World) (h : Marked lo hi w v kI.toNat n) (h0 : 0 < kI) (h1 : kI + n ≤ 9223372036854775807) :
    Calls Try.prog 36 #[v, .int .i64 kI] w fun e w' => e = .returned (.int .i64 (kI + (n : Int))) ∧ Below w.heap.size w w' := by
  obtain ⟨k, rfl⟩ : ∃ k : Nat, kI = k := ⟨kI.toNat, by omega⟩
  rw [Int.toNat_natCast] at h
  obtain ⟨A, c, cs, rfl, hc, hm, hn, hs, ht⟩ := h
  rw [marks_length] at hc ht
  rw [marks_length]
  cases A with
  | none =>
    obtain ⟨h2, rfl⟩ := hn rfl
    have : n = 0 := by have := congrArg List.length h2; rwa [marks_length] at this
    subst this
    refine (calls_empty_held none 0 k w).mono ?_
    rintro e w' ⟨rfl, rfl⟩
    exact ⟨by simp, Below.refl _ _⟩
  | some ad =>
    obtain ⟨hz, hlo, _, hb⟩ := hs ad rfl
    generalize ad.block = g at *
    subst hz
    have e : cs = half k n cs := by
      unfold half
      conv => lhs; rw [← List.take_append_drop n cs, ht]
    rw [e] at hb
    exact heldS_row g c k n cs w hb (by omega) (by omega)
theorem szL_len (l : List (List UInt8)) : l.length ≤ szL l := by unfold szL; omega
theorem szS_over (A : Option Addr) (c : Nat) (l : List (List UInt8)) (left : Int) (w : World) (h : Rd w w.heap.size A (l.map sv)) (hm : ∀ x ∈ l, x.length ≤ 9223372036854775807) (hl : l.length ≤ 9223372036854775807) (h0 : 0 ≤ left) (h1 : left ≤ 1048576) (h2 : left < szL l) :
    Calls Try.prog 29 #[.slice A l.length c, .int .i64 left] w fun e w' => e = .returned (.int .i64 (-1)) ∧ w = w' := by
  obtain ⟨k, rfl⟩ : ∃ k : Nat, left = k := ⟨left.toNat, by omega⟩
  refine (szS_any A c l k w h hm hl (by omega)).mono fun e w' h => ⟨h.1.trans ?_, h.2⟩
  unfold szAns; rw [if_neg (by omega)]
theorem szS_fit (A : Option Addr) (c : Nat) (l : List (List UInt8)) (left : Int) (w : World) (h : Rd w w.heap.size A (l.map sv)) (hm : ∀ x ∈ l, x.length ≤ 9223372036854775807) (hl : l.length ≤ 9223372036854775807) (h0 : 0 ≤ left) (h1 : left ≤ 1048576) (h2 : szL l ≤ left) :
    Calls Try.prog 29 #[.slice A l.length c, .int .i64 left] w fun e w' => e = .returned (.int .i64 (left - (szL l : Int))) ∧ w = w' := by
  obtain ⟨k, rfl⟩ : ∃ k : Nat, left = k := ⟨left.toNat, by omega⟩
  refine (szS_any A c l k w h hm hl (by omega)).mono fun e w' h => ⟨h.1.trans ?_, h.2⟩
  unfold szAns; rw [if_pos (by omega)]
theorem toS_own (A : Option Addr) (c : Nat) (l : List (List UInt8)) (w w1 : World) (h : Rd w w.heap.size A (l.map sv)) (hl : l.length ≤ 1048576) (hb : Below w.heap.size w w1) :
    Calls Try.prog 31 #[.slice A l.length c] w1 fun e w' => e = .returned (.slice (some ⟨w1.heap.size, 0, none⟩) l.length l.length) ∧ OwnS w1.heap.size w'.heap.size w' (.slice (some ⟨w1.heap.size, 0, none⟩) l.length l.length) l ∧ Below w1.heap.size w1 w' :=
  (toS_any A c l w1 ((h.below hb).more hb.size) hl).mono fun _ _ ⟨he, hb1, hb2⟩ => ⟨he, by have := Own.of_blk hb1 (Nat.le_refl _) (by rw [List.length_map]; unfold maxLen; omega); rwa [List.length_map] at this, hb2⟩
end Go.Proofs.Ytkoppcpkkpgaiaa.Os
