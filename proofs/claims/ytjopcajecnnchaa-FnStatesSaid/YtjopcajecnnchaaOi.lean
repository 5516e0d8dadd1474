/- Slices of integers of the call's own as the laws handle them: compared, marked, looked at again. -/
import Derived.Test.YtjopcajecnnchaaOz
import Derived.Lib.QuietBelow
namespace Go.Proofs.Ytjopcajecnnchaa.Os
open Go.RowKit Go.Lib Go.Proofs.Ytjopcajecnnchaa.Com Go.Proofs.Ytjopcajecnnchaa.Mem Go.Proofs.Ytjopcajecnnchaa.Ow

/-- an integer as a value -/
abbrev iv (x : Int) : Value := .int .i64 x
theorem rd_int {w : World} {B : Nat} {A : Option Addr} {l : List Int} (h : Rd w B A (l.map iv)) {k : Nat} (hk : k < l.length) : ∃ ad, A = some ad ∧ ad.block < B ∧ w.cell? (ad.add k) = some (.int .i64 l[k]) := by
  obtain ⟨ad, e, hb, hc⟩ := h.at_ (k := k) (by simpa using hk)
  exact ⟨ad, e, hb, by rw [hc]; simp⟩

abbrev OwnI (lo hi : Nat) (w : World) (v : Value) (l : List Int) : Prop := Own 3 lo hi w v (l.map iv)
theorem OwnI.read_ {lo hi : Nat} {w : World} {v : Value} {l : List Int} (h : OwnI lo hi w v l) : ∃ A c, v = .slice A l.length c ∧ Rd w w.heap.size A (l.map iv) ∧ l.length ≤ c ∧ c ≤ maxLen ∧ (A = none → c = 0) ∧ ∀ ad, A = some ad → ad = ⟨ad.block, 0, none⟩ := by
  have := h.read
  rwa [List.length_map] at this

set_option maxHeartbeats 400000 in
theorem eqI_any (A1 A2 : Option Addr) (c1 c2 : Nat) (l : List Int) (w : World) (h1 : Rd w w.heap.size A1 (l.map iv)) (h2 : Rd w w.heap.size A2 (l.map iv)) (hl : l.length ≤ 9223372036854775807) :
    Calls Try.prog 34 #[.slice A1 l.length c1, .slice A2 l.length c2] w fun e w' => e = .returned (.bool true) ∧ Below w.heap.size w w' := by
  have hcmp : ((l.length : Int) != (l.length : Int)) = false := bne_self_eq_false _
  go_enter Try.func34, Try.ntmps34
  go_wp2_with fail
  go_loopw [5] (fun i wr => ∃ k : Nat, k ≤ l.length ∧ i = .int .i64 k ∧ Below w.heap.size w wr) (fun i _ => l.length - (Go.RowKit.intOf i).toNat)
  case atStart => exact ⟨0, Nat.zero_le _, rfl, Below.refl _ _⟩
  case round =>
    obtain ⟨k, hk, rfl, hb⟩ := hrel
    by_cases hlt : k < l.length
    · obtain ⟨ad1, rfl, _, hc1⟩ := rd_int (h1.below hb) hlt
      obtain ⟨ad2, rfl, _, hc2⟩ := rd_int (h2.below hb) hlt
      have hself : (l[k] != l[k]) = false := bne_self_eq_false _
      go_wp2_with fail
      go_quiet (fail)
      go_wp2_with fail
      exact ⟨⟨k + 1, hlt, by go_num, bdr hb nq⟩, by simp [Go.RowKit.intOf]; omega⟩
    · obtain rfl : k = l.length := by omega
      go_wp2_with fail
      go_ret
      exact ⟨rfl, hb⟩
theorem eqI_own {lo1 lo2 hi1 hi2 : Nat} {v1 v2 : Value} {l : List Int} (w : World) (h1 : OwnI lo1 hi1 w v1 l) (h2 : OwnI lo2 hi2 w v2 l) :
    Calls Try.prog 34 #[v1, v2] w fun e w' => e = .returned (.bool true) ∧ Below w.heap.size w w' := by
  obtain ⟨A1, c1, rfl, hr1, hc1, hm1, _⟩ := h1.read_
  obtain ⟨A2, c2, rfl, hr2, _⟩ := h2.read_
  exact eqI_any A1 A2 c1 c2 l w hr1 hr2 (by unfold maxLen at hm1; omega)

/-- n marks from k on -/
def marksI (k n : Nat) : List Int := (List.range n).map fun i : Nat => (k : Int) + (i : Int)
theorem marksI_length (k n : Nat) : (marksI k n).length = n := by simp [marksI]
theorem marksI_at (k n i : Nat) (h : i < n) : (marksI k n)[i]'(by rw [marksI_length]; exact h) = (k : Int) + (i : Int) := by simp [marksI]
theorem marksI_wf (k n : Nat) : ∀ x ∈ marksI k n, (k : Int) ≤ x ∧ x < (k : Int) + n := by
  intro x hx
  simp only [marksI, List.mem_map, List.mem_range] at hx
  obtain ⟨i, hi, rfl⟩ := hx
  omega
/-- the first i places hold marks, the others what they held -/
def halfI (k i : Nat) (xs : List Value) : List Value := (marksI k i).map iv ++ xs.drop i
theorem halfI_set (k i : Nat) (xs : List Value) (h : i < xs.length) : (halfI k i xs).set i (.int .i64 ((k : Int) + (i : Int))) = halfI k (i + 1) xs := by
  unfold halfI
  rw [List.set_append_right _ _ (by rw [List.length_map, marksI_length]; exact Nat.le_refl _), List.length_map, marksI_length, Nat.sub_self]
  have e : xs.drop i = xs[i] :: xs.drop (i + 1) := (List.getElem_cons_drop ..).symm
  rw [e, List.set_cons_zero]
  have e2 : marksI k (i + 1) = marksI k i ++ [(k : Int) + (i : Int)] := by simp [marksI, List.range_succ]
  rw [e2, List.map_append, List.append_assoc]; rfl
theorem halfI_at (k i : Nat) (xs : List Value) (h : i < xs.length) : (halfI k i xs)[i]? = some xs[i] := by
  unfold halfI
  rw [List.getElem?_append_right (by rw [List.length_map, marksI_length]; exact Nat.le_refl _), List.length_map, marksI_length, Nat.sub_self, List.getElem?_drop, Nat.add_zero, List.getElem?_eq_getElem h]

set_option maxHeartbeats 1000000 in
theorem markI_row (g c k n : Nat) (cs : List Value) (w : World) (h : Blk w g 3 cs) (hn : n ≤ cs.length) (h1 : k + n ≤ 9223372036854775807) :
    Calls Try.prog 35 #[.slice (some ⟨g, 0, none⟩) n c, .int .i64 k] w fun e w' => e = .returned (.int .i64 ((k : Int) + (n : Int))) ∧ Blk w' g 3 (halfI k n cs) ∧ w.grownBy w' (some g) := by
  go_enter Try.func35, Try.ntmps35
  go_wp2_with fail
  go_loopw [1, 5] (fun a i wr => ∃ m : Nat, m ≤ n ∧ i = .int .i64 m ∧ a = .int .i64 ((k : Int) + (m : Int)) ∧ Blk wr g 3 (halfI k m cs) ∧ w.grownBy wr (some g)) (fun _ i _ => n - (Go.RowKit.intOf i).toNat)
  case atStart => exact ⟨0, Nat.zero_le _, rfl, by simp, by simpa [halfI, marksI] using h, gb_refl _ _⟩
  case round =>
    obtain ⟨m, hm, rfl, rfl, hblk, hgb⟩ := hrel
    by_cases hlt : m < n
    · have hset := hid (halfI_set k m cs (by omega))
      have hat := halfI_at k m cs (by omega)
      generalize hu : cs[m]'(by omega) = u at hat
      have c1 : wr.cell? ⟨g, m, none⟩ = some u := by rw [hblk.cell, hat]
      have c2 := hblk.frozen m
      have c3 := hid (show Blk (wr.setCell ⟨g, m, none⟩ (.int .i64 ((k : Int) + (m : Int)))) g 3 (halfI k (m + 1) cs) by rw [← hset.out]; exact hblk.set_ _ _)
      have hgb2 := hid (gb_set hgb m (.int .i64 ((k : Int) + (m : Int))))
      clear hblk hat hset h hu hgb
      go_wp2_with fail
      exact ⟨⟨m + 1, hlt, by go_num, by go_num, c3.out, hgb2.out⟩, by simp [Go.RowKit.intOf]; omega⟩
    · obtain rfl : m = n := by omega
      go_wp2_with fail
      go_ret
      exact ⟨rfl, hblk, hgb⟩
theorem markI_empty (A : Option Addr) (c k : Nat) (w : World) :
    Calls Try.prog 35 #[.slice A 0 c, .int .i64 k] w fun e w' => e = .returned (.int .i64 k) ∧ w = w' := by
  go_enter Try.func35, Try.ntmps35
  go_wp2_with fail
  refine wp_loop_rounds 1 ?_; rw [rounds_succ]
  go_wp2_with fail
  go_ret
  exact ⟨rfl, rfl⟩
theorem gb_none {w w' : World} (row : Option Nat) (h : w = w') : w.grownBy w' row := by subst h; exact gb_refl _ _
theorem markI_own {lo hi : Nat} {v : Value} {l : List Int} (kI : Int) (w : World) (h : OwnI lo hi w v l) (h0 : 0 < kI) (h1 : kI + l.length ≤ 9223372036854775807) :
    Calls Try.prog 35 #[v, .int .i64 kI] w fun e w' => e = .returned (.int .i64 (kI + (l.length : Int))) ∧ OwnI lo hi w' v (marksI kI.toNat l.length) ∧ w.grownBy w' v.ownBlock := by
  obtain ⟨k, rfl⟩ : ∃ k : Nat, kI = k := ⟨kI.toNat, by omega⟩
  rw [Int.toNat_natCast]
  obtain ⟨A, c, cs, rfl, hc, hm, hn, hs, ht⟩ := h
  rw [List.length_map] at hc ht
  rw [List.length_map]
  cases A with
  | none =>
    obtain ⟨h2, rfl⟩ := hn rfl
    obtain rfl : l = [] := by simpa using h2
    refine (markI_empty none 0 k w).mono ?_
    rintro e w' ⟨rfl, rfl⟩
    exact ⟨by simp, ⟨none, 0, [], rfl, Nat.le_refl _, hm, fun _ => ⟨rfl, rfl⟩, (fun ad h => by cases h), rfl⟩, gb_refl _ _⟩
  | some ad =>
    obtain ⟨hz, hlo, hhi, hb⟩ := hs ad rfl
    generalize ad.block = g at *
    subst hz
    have hcl : l.length ≤ cs.length := by
      have := congrArg List.length ht
      rw [List.length_take, List.length_map] at this; omega
    refine (markI_row g c k l.length cs w hb hcl (by omega)).mono ?_
    rintro e w' ⟨rfl, hb', hg⟩
    refine ⟨rfl, ⟨_, c, _, by rw [List.length_map, marksI_length], by rw [List.length_map, marksI_length]; exact hc, hm, (fun h => by cases h), (fun ad h => by cases h; exact ⟨rfl, hlo, hhi, hb'⟩), ?_⟩, hg⟩
    rw [List.length_map, marksI_length]; unfold halfI
    rw [List.take_append_of_le_length (by rw [List.length_map, marksI_length]; exact Nat.le_refl _), List.take_of_length_le (by rw [List.length_map, marksI_length]; exact Nat.le_refl _)]
set_option maxHeartbeats 1000000 in
theorem heldI_any (A : Option Addr) (c k n : Nat) (w : World) (h : Rd w w.heap.size A ((marksI k n).map iv)) (h1 : k + n ≤ 9223372036854775807) :
    Calls Try.prog 36 #[.slice A n c, .int .i64 k] w fun e w' => e = .returned (.int .i64 ((k : Int) + (n : Int))) ∧ w = w' := by
  go_enter Try.func36, Try.ntmps36
  go_wp2_with fail
  go_loop [1, 5] (fun a i => ∃ m : Nat, m ≤ n ∧ i = .int .i64 m ∧ a = .int .i64 ((k : Int) + (m : Int))) (fun _ i => n - (Go.RowKit.intOf i).toNat)
  case atStart => exact ⟨0, Nat.zero_le _, rfl, by simp⟩
  case round =>
    obtain ⟨m, hm, rfl, rfl⟩ := hrel
    by_cases hlt : m < n
    · obtain ⟨ad, rfl, _, hc⟩ := rd_int h (k := m) (by rw [marksI_length]; exact hlt)
      rw [marksI_at _ _ _ hlt] at hc
      have hself : (((k : Int) + (m : Int)) != ((k : Int) + (m : Int))) = false := bne_self_eq_false _
      go_wp2_with fail
      go_round
      case rel => exact ⟨m + 1, hlt, by go_num, by go_num⟩
      case measure => simp [Go.RowKit.intOf]; omega
    · obtain rfl : m = n := by omega
      go_wp2_with fail
      go_ret
      exact ⟨rfl, rfl⟩
theorem heldI_own {lo hi n : Nat} {v : Value} (kI : Int) (w : World) (h : OwnI lo hi w v (marksI kI.toNat n)) (h0 : 0 < kI) (h1 : kI + n ≤ 9223372036854775807) :
    Calls Try.prog 36 #[v, .int .i64 kI] w fun e w' => e = .returned (.int .i64 (kI + (n : Int))) ∧ w = w' := by
  obtain ⟨k, rfl⟩ : ∃ k : Nat, kI = k := ⟨kI.toNat, by omega⟩
  rw [Int.toNat_natCast] at h
  obtain ⟨A, c, hv, hr, _⟩ := h.read_
  rw [marksI_length] at hv
  subst hv
  exact heldI_any A c k n w hr (by omega)
end Go.Proofs.Ytjopcajecnnchaa.Os
