/- Slices of integers of the call's own as the laws handle them: compared, marked, looked at again. -/
import Derived.Test.YtnmomlaimffonaaOz
import Derived.Lib.QuietBelow
set_option maxRecDepth 100000
namespace Go.Proofs.Ytnmomlaimffonaa.Os
open Go.RowKit Go.Lib Go.Proofs.Ytnmomlaimffonaa.Com Go.Proofs.Ytnmomlaimffonaa.Mem Go.Proofs.Ytnmomlaimffonaa.Ow

/-- an integer as a value -/
abbrev iv (x : Int) : Value := .int .i64 x
theorem rd_int {w : World} {B : Nat} {A : Option Addr} {l : List Int} (h : Rd w B A (l.map iv)) {k : Nat} (hk : k < l.length) : ∃ ad, A = some ad ∧ ad.block < B ∧ w.cell? (ad.add k) = some (.int .i64 l[k]) := by
  obtain ⟨ad, e, hb, hc⟩ := h.at_ (k := k) (by simpa using hk)
  exact ⟨ad, e, hb, by rw [hc]; simp⟩

abbrev OwnI (lo hi : Nat) (w : World) (v : Value) (l : List Int) : Prop := Own 3 lo hi w v (l.map iv)
theorem OwnI.read_ {lo hi : Nat} {w : World} {v : Value} {l : List Int} (h : OwnI lo hi w v l) : ∃ A c, v = .slice A l.length c ∧ Rd w w.heap.size A (l.map iv) ∧ l.length ≤ c ∧ c ≤ maxLen ∧ (A = none → c = 0) ∧ ∀ ad, A = some ad → ad = ⟨ad.block, 0, none⟩ := by
  have := h.read
  rwa [List.length_map] at this

set_option maxHeartbeats 400000 in
theorem eqI_any (A1 A2 : Option Addr) (c1 c2 : Nat) (l : List Int) (w : World) (h1 : Rd w w.heap.size A1 (l.map iv)) (h2 : Rd w w.heap.size A2 (l.map iv)) (hl : l.length ≤ 9223372036854775807) :
    Calls Try.prog 13 #[.slice A1 l.length c1, .slice A2 l.length c2] w fun e w' => e = .returned (.bool true) ∧ Below w.heap.size w w' := by
  have hcmp : ((l.length : Int) != (l.length : Int)) = false := bne_self_eq_false _
  go_enter Try.func13, Try.ntmps13
  go_wp2_with fail
  go_loopw [5] (fun i wr => ∃ k : Nat, k ≤ l.length ∧ i = .int .i64 k ∧ Below w.heap.size w wr) (fun i _ => l.length - (Go.RowKit.intOf i).toNat)
  case atStart => exact ⟨0, Nat.zero_le _, rfl, Below.refl _ _⟩
  case round =>
    obtain ⟨k, hk, rfl, hb⟩ := hrel
    by_cases hlt : k < l.length
    · obtain ⟨ad1, rfl, _, hc1⟩ := rd_int (h1.below hb) hlt
      obtain ⟨ad2, rfl, _, hc2⟩ := rd_int (h2.below hb) hlt
      have hself : (l[k] != l[k]) = false := bne_self_eq_false _
      go_wp2_with fail
      go_quiet (fail)
      go_wp2_with fail
      exact ⟨⟨k + 1, hlt, by go_num, bdr hb nq⟩, by simp [Go.RowKit.intOf]; omega⟩
    · obtain rfl : k = l.length := by omega
      go_wp2_with fail
      go_ret
      exact ⟨rfl, hb⟩
theorem eqI_own {lo1 lo2 hi1 hi2 : Nat} {v1 v2 : Value} {l : List Int} (w : World) (h1 : OwnI lo1 hi1 w v1 l) (h2 : OwnI lo2 hi2 w v2 l) :
    Calls Try.prog 13 #[v1, v2] w fun e w' => e = .returned (.bool true) ∧ Below w.heap.size w w' := by
  obtain ⟨A1, c1, rfl, hr1, hc1, hm1, _⟩ := h1.read_
  obtain ⟨A2, c2, rfl, hr2, _⟩ := h2.read_
  exact eqI_any A1 A2 c1 c2 l w hr1 hr2 (by unfold maxLen at hm1; omega)

/-- n marks from k on -/
def marksI (k n : Nat) : List Int := (List.range n).map fun i : Nat => (k : Int) + (i : Int)
theorem marksI_length (k n : Nat) : (marksI k n).length = n := by simp [marksI]
theorem marksI_at (k n i : Nat) (h : i < n) : (marksI k n)[i]'(by rw [marksI_length]; exact h) = (k : Int) + (i : Int) := by simp [marksI]
theorem marksI_wf (k n : Nat) : ∀ x ∈ marksI k n, (k : Int) ≤ x ∧ x < (k : Int) + n := by
  intro x hx
  simp only [marksI, List.mem_map, List.mem_range] at hx
  obtain ⟨i, hi, rfl⟩ := hx
  omega
/-- the first i places hold marks, the others what they held -/
def halfI (k i : Nat) (xs : List Value) : List Value := (marksI k i).map iv ++ xs.drop i
theorem halfI_set (k i : Nat) (xs : List Value) (h : i < xs.length) : (halfI k i xs).set i (.int .i64 ((k : Int) + (i : Int))) = halfI k (i + 1) xs := by
  unfold halfI
  rw [List.set_append_right _ _ (by rw [List.length_map, marksI_length]; exact Nat.le_refl _), List.length_map, marksI_length, Nat.sub_self]
  have e : xs.drop i = xs[i] :: xs.drop (i + 1) := (List.getElem_cons_drop ..).symm
  rw [e, List.set_cons_zero]
  have e2 : marksI k (i + 1) = marksI k i ++ [(k : Int) + (i : Int)] := by simp [marksI, List.range_succ]
  rw [e2, List.map_append, List.append_assoc]; rfl
theorem halfI_at (k i : Nat) (xs : List Value) (h : i < xs.length) : (halfI k i xs)[i]? = some xs[i] := by
  unfold halfI
  rw [List.getElem?_append_right (by rw [List.length_map, marksI_length]; exact Nat.le_refl _), List.length_map, marksI_length, Nat.sub_self, List.getElem?_drop, Nat.add_zero, List.getElem?_eq_getElem h]

theorem intInfo : (Try.prog.info? 3).map (fun i => (i.zero, i.size, i.bytes)) = some (some (iv 0), 1, 8) := by kernel_rfl
set_option maxHeartbeats 400000 in
theorem toI_any (A : Option Addr) (c : Nat) (l : List Int) (w : World) (h : Rd w w.heap.size A (l.map iv)) (hl : l.length ≤ 1048576) :
    Calls Try.prog 11 #[.slice A l.length c] w fun e w' => e = .returned (.slice (some ⟨w.heap.size, 0, none⟩) l.length l.length) ∧ Blk w' w.heap.size 3 (l.map iv) ∧ Below w.heap.size w w' := by
  have hmk := run_make1 w 22 3 (iv 0) 8 Try.underlying22 intInfo rfl l.length (by omega) (by omega)
  have hlen : (l.map iv).length = l.length := List.length_map _
  have hlen := hid hlen
  go_enter Try.func11, Try.ntmps11
  go_wp2_with fail
  go_loopw [4] (fun i wr => ∃ k : Nat, k ≤ l.length ∧ i = .int .i64 k ∧ Blk wr w.heap.size 3 (mix (l.map iv) (iv 0) k) ∧ Below w.heap.size w wr) (fun i _ => l.length - (Go.RowKit.intOf i).toNat)
  case atStart =>
    refine ⟨0, Nat.zero_le _, rfl, ?_, (Below.refl _ _).alloc (Nat.le_refl _) _⟩
    rw [mix_zero, hlen.out]
    exact Blk.new _ _ _
  case round =>
    obtain ⟨k, hk, rfl, hblk, hb⟩ := hrel
    by_cases hlt : k < l.length
    · obtain ⟨ad, rfl, _, hc⟩ := rd_int (h.below hb) hlt
      have hc2 : wr.cell? ⟨w.heap.size, k, none⟩ = some (iv 0) := by rw [hblk.cell, mix_at _ _ _ (by rw [hlen.out]; exact hlt)]
      have hz2 := hblk.frozen k
      have hnx := hid (hblk.set_ k (iv l[k]))
      have hms := hid (mix_set (l.map iv) (iv 0) k (by rw [hlen.out]; exact hlt))
      go_wp2_with fail
      refine ⟨⟨k + 1, hlt, by go_num, ?_, hb.setCell (Nat.le_refl _) _⟩, by simp [Go.RowKit.intOf]; omega⟩
      rw [← hms.out, List.getElem_map]
      exact hnx.out
    · obtain rfl : k = l.length := by omega
      have hfin := hid (mix_all (l.map iv) (iv 0))
      rw [hlen.out] at hfin
      go_wp2_with fail
      go_ret
      exact ⟨rfl, by rw [← hfin.out]; exact hblk, hb⟩
theorem toI_own (A : Option Addr) (c : Nat) (l : List Int) (w w1 : World) (h : Rd w w.heap.size A (l.map iv)) (hl : l.length ≤ 1048576) (hb : Below w.heap.size w w1) :
    Calls Try.prog 11 #[.slice A l.length c] w1 fun e w' => e = .returned (.slice (some ⟨w1.heap.size, 0, none⟩) l.length l.length) ∧ OwnI w1.heap.size w'.heap.size w' (.slice (some ⟨w1.heap.size, 0, none⟩) l.length l.length) l ∧ Below w1.heap.size w1 w' :=
  (toI_any A c l w1 ((h.below hb).more hb.size) hl).mono fun _ _ ⟨he, hb1, hb2⟩ => ⟨he, by have := Own.of_blk hb1 (Nat.le_refl _) (by rw [List.length_map]; unfold maxLen; omega); rwa [List.length_map] at this, hb2⟩
end Go.Proofs.Ytnmomlaimffonaa.Os
