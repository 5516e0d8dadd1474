/- Slices of strings of the call's own as the laws handle them: compared, marked, looked at again. -/
import Derived.Test.YtlkfejcnkckgkaaLhM
import Derived.Test.YtlkfejcnkckgkaaOz
set_option maxRecDepth 100000
namespace Go.Proofs.Ytlkfejcnkckgkaa.Os
open Go.RowKit Go.Lib Go.Proofs.Ytlkfejcnkckgkaa.Com Go.Proofs.Ytlkfejcnkckgkaa.Mem Go.Proofs.Ytlkfejcnkckgkaa.Lh Go.Proofs.Ytlkfejcnkckgkaa.Ow

abbrev OwnS (lo hi : Nat) (w : World) (v : Value) (l : List (List UInt8)) : Prop := Own 9 lo hi w v (l.map sv)

theorem OwnS.read_ {lo hi : Nat} {w : World} {v : Value} {l : List (List UInt8)} (h : OwnS lo hi w v l) : ∃ A c, v = .slice A l.length c ∧ Rd w w.heap.size A (l.map sv) ∧ l.length ≤ c ∧ c ≤ maxLen ∧ (A = none → c = 0) ∧ ∀ ad, A = some ad → ad = ⟨ad.block, 0, none⟩ := by
  have := h.read
  rwa [List.length_map] at this

theorem eqS_own {lo1 lo2 hi1 hi2 : Nat} {v1 v2 : Value} {l : List (List UInt8)} (w : World) (h1 : OwnS lo1 hi1 w v1 l) (h2 : OwnS lo2 hi2 w v2 l) :
    Calls Try.prog 33 #[v1, v2] w fun e w' => e = .returned (.bool true) ∧ Below w.heap.size w w' := by
  obtain ⟨A1, c1, rfl, hr1, hc1, hm1, _⟩ := h1.read_
  obtain ⟨A2, c2, rfl, hr2, _⟩ := h2.read_
  exact eqS_any A1 A2 c1 c2 l w hr1 hr2 (by unfold maxLen at hm1; omega)

/-- the slice v is marked from k on, n places -/
def Marked (lo hi : Nat) (w : World) (v : Value) (k n : Nat) : Prop := Own 9 lo hi w v (marks k n)

theorem calls_empty_mark (A : Option Addr) (c k : Nat) (w : World) :
    Calls Try.prog 35 #[.slice A 0 c, .int .i64 k] w fun e w' => e = .returned (.int .i64 k) ∧ w = w' := by
  go_enter Try.func35, Try.ntmps35
  go_wp2_with fail
  refine wp_loop_rounds 1 ?_; rw [rounds_succ]
  go_wp2_with fail
  go_ret
  exact ⟨rfl, rfl⟩
theorem markS_own {lo hi : Nat} {v : Value} {l : List (List UInt8)} (kI : Int) (w : World) (h : OwnS lo hi w v l) (h0 : 0 < kI) (h1 : kI + l.length ≤ 9223372036854775807) :
    Calls Try.prog 35 #[v, .int .i64 kI] w fun e w' => e = .returned (.int .i64 (kI + (l.length : Int))) ∧ Marked lo hi w' v kI.toNat l.length ∧ Chg w w' lo hi := by
  obtain ⟨k, rfl⟩ : ∃ k : Nat, kI = k := ⟨kI.toNat, by omega⟩
  rw [Int.toNat_natCast]
  obtain ⟨A, c, cs, rfl, hc, hm, hn, hs, ht⟩ := h
  rw [List.length_map] at hc ht
  rw [List.length_map]
  cases A with
  | none =>
    obtain ⟨h2, rfl⟩ := hn rfl
    obtain rfl : l = [] := by simpa using h2
    refine (calls_empty_mark none 0 k w).mono ?_
    rintro e w' ⟨rfl, rfl⟩
    exact ⟨by simp, ⟨none, 0, [], rfl, Nat.le_refl _, hm, fun _ => ⟨rfl, rfl⟩, (fun ad h => by cases h), rfl⟩, chg_refl _ _ _⟩
  | some ad =>
    obtain ⟨hz, hlo, hhi, hb⟩ := hs ad rfl
    generalize ad.block = g at *
    subst hz
    have hcl : l.length ≤ cs.length := by
      have := congrArg List.length ht
      rw [List.length_take, List.length_map] at this; omega
    refine (markS_row g c k l.length cs w hb hcl (by omega) (by omega)).mono ?_
    rintro e w' ⟨rfl, hb', hg⟩
    refine ⟨rfl, ⟨_, c, _, by rw [marks_length], by rw [marks_length]; exact hc, hm, (fun h => by cases h), (fun ad h => by cases h; exact ⟨rfl, hlo, hhi, hb'⟩), ?_⟩, chg_of_gb hg hlo hhi⟩
    rw [marks_length]; unfold half
    rw [List.take_append_of_le_length (by rw [marks_length]; exact Nat.le_refl _), List.take_of_length_le (by rw [marks_length]; exact Nat.le_refl _)]
theorem calls_empty_held (A : Option Addr) (c k : Nat) (w : World) :
    Calls Try.prog 36 #[.slice A 0 c, .int .i64 k] w fun e w' => e = .returned (.int .i64 k) ∧ w = w' := by
  go_enter Try.func36, Try.ntmps36
  go_wp2_with fail
  refine wp_loop_rounds 1 ?_; rw [rounds_succ]
  go_wp2_with fail
  go_ret
  exact ⟨rfl, rfl⟩
theorem heldS_own {lo hi n : Nat} {v : Value} (kI : Int) (w : World) (h : Marked lo hi w v kI.toNat n) (h0 : 0 < kI) (h1 : kI + n ≤ 9223372036854775807) :
    Calls Try.prog 36 #[v, .int .i64 kI] w fun e w' => e = .returned (.int .i64 (kI + (n : Int))) ∧ Below w.heap.size w w' := by
  obtain ⟨k, rfl⟩ : ∃ k : Nat, kI = k := ⟨kI.toNat, by omega⟩
  rw [Int.toNat_natCast] at h
  obtain ⟨A, c, cs, rfl, hc, hm, hn, hs, ht⟩ := h
  rw [marks_length] at hc ht
  rw [marks_length]
  cases A with
  | none =>
    obtain ⟨h2, rfl⟩ := hn rfl
    have : n = 0 := by have := congrArg List.length h2; rwa [marks_length] at this
    subst this
    refine (calls_empty_held none 0 k w).mono ?_
    rintro e w' ⟨rfl, rfl⟩
    exact ⟨by simp, Below.refl _ _⟩
  | some ad =>
    obtain ⟨hz, hlo, _, hb⟩ := hs ad rfl
    generalize ad.block = g at *
    subst hz
    have e : cs = half k n cs := by
      unfold half
      conv => lhs; rw [← List.take_append_drop n cs, ht]
    rw [e] at hb
    exact heldS_row g c k n cs w hb (by omega) (by omega)
theorem szL_len (l : List (List UInt8)) : l.length ≤ szL l := by unfold szL; omega
theorem szS_over (A : Option Addr) (c : Nat) (l : List (List UInt8)) (left : Int) (w : World) (h : Rd w w.heap.size A (l.map sv)) (hm : ∀ x ∈ l, x.length ≤ 9223372036854775807) (hl : l.length ≤ 9223372036854775807) (h0 : 0 ≤ left) (h1 : left ≤ 1048576) (h2 : left < szL l) :
    Calls Try.prog 37 #[.slice A l.length c, .int .i64 left] w fun e w' => e = .returned (.int .i64 (-1)) ∧ w = w' := by
  obtain ⟨k, rfl⟩ : ∃ k : Nat, left = k := ⟨left.toNat, by omega⟩
  refine (szS_any A c l k w h hm hl (by omega)).mono fun e w' h => ⟨h.1.trans ?_, h.2⟩
  unfold szAns; rw [if_neg (by omega)]
theorem szS_fit (A : Option Addr) (c : Nat) (l : List (List UInt8)) (left : Int) (w : World) (h : Rd w w.heap.size A (l.map sv)) (hm : ∀ x ∈ l, x.length ≤ 9223372036854775807) (hl : l.length ≤ 9223372036854775807) (h0 : 0 ≤ left) (h1 : left ≤ 1048576) (h2 : szL l ≤ left) :
    Calls Try.prog 37 #[.slice A l.length c, .int .i64 left] w fun e w' => e = .returned (.int .i64 (left - (szL l : Int))) ∧ w = w' := by
  obtain ⟨k, rfl⟩ : ∃ k : Nat, left = k := ⟨left.toNat, by omega⟩
  refine (szS_any A c l k w h hm hl (by omega)).mono fun e w' h => ⟨h.1.trans ?_, h.2⟩
  unfold szAns; rw [if_pos (by omega)]
theorem toS_own (A : Option Addr) (c : Nat) (l : List (List UInt8)) (w w1 : World) (h : Rd w w.heap.size A (l.map sv)) (hl : l.length ≤ 1048576) (hb : Below w.heap.size w w1) :
    Calls Try.prog 38 #[.slice A l.length c] w1 fun e w' => e = .returned (.slice (some ⟨w1.heap.size, 0, none⟩) l.length l.length) ∧ OwnS w1.heap.size w'.heap.size w' (.slice (some ⟨w1.heap.size, 0, none⟩) l.length l.length) l ∧ Below w1.heap.size w1 w' :=
  (toS_any A c l w1 ((h.below hb).more hb.size) hl).mono fun _ _ ⟨he, hb1, hb2⟩ => ⟨he, by have := Own.of_blk hb1 (Nat.le_refl _) (by rw [List.length_map]; unfold maxLen; omega); rwa [List.length_map] at this, hb2⟩
end Go.Proofs.Ytlkfejcnkckgkaa.Os
