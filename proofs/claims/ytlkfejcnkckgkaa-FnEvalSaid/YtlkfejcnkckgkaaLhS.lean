/- The laws' own helpers on lists of strings. -/
import Derived.Test.YtlkfejcnkckgkaaMem
set_option maxRecDepth 100000
namespace Go.Proofs.Ytlkfejcnkckgkaa.Lh
open Go.RowKit Go.Lib Go.Proofs.Ytlkfejcnkckgkaa.Com Go.Proofs.Ytlkfejcnkckgkaa.Mem

/-- how many strings and letters -/
def szL (l : List (List UInt8)) : Nat := l.length + (l.map List.length).sum
def szAns (tot : Nat) (left : Int) : Int := if (tot : Int) ≤ left then left - tot else -1

theorem sum_take {l : List (List UInt8)} {k : Nat} (hk : k < l.length) : ((l.take (k + 1)).map List.length).sum = ((l.take k).map List.length).sum + l[k].length := by
  rw [List.take_succ_eq_append_getElem hk, List.map_append, List.sum_append]; rfl
theorem sum_le (l : List (List UInt8)) (k : Nat) : ((l.take k).map List.length).sum ≤ (l.map List.length).sum := by
  conv => rhs; rw [← List.take_append_drop k l]
  rw [List.map_append, List.sum_append]; omega

/-- the cell of a list of strings -/
theorem rd_str {w : World} {B : Nat} {A : Option Addr} {l : List (List UInt8)} (h : Rd w B A (l.map sv)) {k : Nat} (hk : k < l.length) : ∃ ad, A = some ad ∧ ad.block < B ∧ w.cell? (ad.add k) = some (.string ⟨(l[k]).toArray⟩) := by
  obtain ⟨ad, e, hb, hc⟩ := h.at_ (k := k) (by simpa using hk)
  exact ⟨ad, e, hb, by rw [hc]; simp⟩

theorem rd_at {w : World} {B : Nat} {ad : Addr} {l : List (List UInt8)} (h : Rd w B (some ad) (l.map sv)) {k : Nat} (hk : k < l.length) : w.cell? (ad.add k) = some (.string ⟨(l[k]).toArray⟩) := by
  obtain ⟨ad', e, _, hc⟩ := rd_str h hk
  cases e; exact hc

set_option maxHeartbeats 400000 in
theorem szS_any (A : Option Addr) (c : Nat) (l : List (List UInt8)) (left : Nat) (w : World) (h : Rd w w.heap.size A (l.map sv)) (hm : ∀ x ∈ l, x.length ≤ 9223372036854775807) (hl : l.length ≤ 9223372036854775807) (hleft : left ≤ 9223372036854775807) :
    Calls Try.prog 37 #[.slice A l.length c, .int .i64 left] w fun e w' => e = .returned (.int .i64 (szAns (szL l) left)) ∧ w = w' := by
  by_cases h0 : left < l.length
  · have t0 : decide ((left : Int) - (l.length : Int) < 0) = true := decide_eq_true (by omega)
    have hf := hid (show szAns (szL l) left = -1 by unfold szAns szL; rw [if_neg (by omega)])
    go_enter Try.func37, Try.ntmps37
    go_wp2_with fail
    go_ret
    exact ⟨by rw [hf.out]; rfl, rfl⟩
  · have t0 : decide ((left : Int) - (l.length : Int) < 0) = false := decide_eq_false (by omega)
    go_enter Try.func37, Try.ntmps37
    go_wp2_with fail
    go_loop [1, 5] (fun a i => ∃ k : Nat, k ≤ l.length ∧ i = .int .i64 k ∧ a = .int .i64 ((left : Int) - (l.length : Int) - (((l.take k).map List.length).sum : Nat)) ∧ ((l.take k).map List.length).sum ≤ left - l.length) (fun _ i => l.length - (Go.RowKit.intOf i).toNat)
    case atStart => exact ⟨0, Nat.zero_le _, rfl, by simp, by simp⟩
    case round =>
      obtain ⟨k, hk, rfl, rfl, hs⟩ := hrel
      by_cases hlt : k < l.length
      · obtain ⟨ad, rfl, _, hc⟩ := rd_str h hlt
        have hst := sum_take hlt
        have hml := hm _ (List.getElem_mem hlt)
        have hle := sum_le l (k + 1)
        generalize hS : ((l.take k).map List.length).sum = S at *
        by_cases h1 : (left : Int) - (l.length : Int) - (S : Int) - (l[k].length : Int) < 0
        · have t1 : decide ((left : Int) - (l.length : Int) - (S : Int) - (l[k].length : Int) < 0) = true := decide_eq_true h1
          have hf := hid (show szAns (szL l) left = -1 by unfold szAns szL; rw [if_neg (by omega)])
          clear hst hS hle h h1
          go_wp2_with fail
          go_ret
          exact ⟨by rw [hf.out]; rfl, rfl⟩
        · have t1 : decide ((left : Int) - (l.length : Int) - (S : Int) - (l[k].length : Int) < 0) = false := decide_eq_false h1
          have hst := hid hst
          have hml' : S + l[k].length ≤ left - l.length := by omega
          clear hS hle h
          go_wp2_with fail
          go_round
          case rel => exact ⟨k + 1, hlt, by go_num, by rw [hst.out]; go_num, by rw [hst.out]; exact hml'⟩
          case measure => simp [Go.RowKit.intOf]; omega
      · obtain rfl : k = l.length := by omega
        have hf := hid (show szAns (szL l) left = (left : Int) - (l.length : Int) - (((l.take l.length).map List.length).sum : Nat) by
          rw [List.take_of_length_le (Nat.le_refl _)] at hs ⊢
          unfold szAns szL; rw [if_pos (by omega)]; omega)
        generalize ((l.take l.length).map List.length).sum = S at *
        go_wp2_with fail
        go_ret
        exact ⟨by rw [hf.out]; rfl, rfl⟩

theorem strInfo : (Try.prog.info? 9).map (fun i => (i.zero, i.size, i.bytes)) = some (some (sv []), 1, 16) := by kernel_rfl

set_option maxHeartbeats 400000 in
theorem toS_any (A : Option Addr) (c : Nat) (l : List (List UInt8)) (w : World) (h : Rd w w.heap.size A (l.map sv)) (hl : l.length ≤ 1048576) :
    Calls Try.prog 38 #[.slice A l.length c] w fun e w' => e = .returned (.slice (some ⟨w.heap.size, 0, none⟩) l.length l.length) ∧ Blk w' w.heap.size 9 (l.map sv) ∧ Below w.heap.size w w' := by
  have hmk := run_make1 w 32 9 (sv []) 16 Try.underlying32 strInfo rfl l.length (by omega) (by omega)
  have hlen : (l.map sv).length = l.length := List.length_map _
  have hlen := hid hlen
  go_enter Try.func38, Try.ntmps38
  go_wp2_with fail
  go_loopw [4] (fun i wr => ∃ k : Nat, k ≤ l.length ∧ i = .int .i64 k ∧ Blk wr w.heap.size 9 (mix (l.map sv) (sv []) k) ∧ Below w.heap.size w wr) (fun i _ => l.length - (Go.RowKit.intOf i).toNat)
  case atStart =>
    refine ⟨0, Nat.zero_le _, rfl, ?_, (Below.refl _ _).alloc (Nat.le_refl _) _⟩
    rw [mix_zero, hlen.out]
    exact Blk.new _ _ _
  case round =>
    obtain ⟨k, hk, rfl, hblk, hb⟩ := hrel
    by_cases hlt : k < l.length
    · obtain ⟨ad, rfl, _, hc⟩ := rd_str (h.below hb) hlt
      have hc2 : wr.cell? ⟨w.heap.size, k, none⟩ = some (sv []) := by rw [hblk.cell, mix_at _ _ _ (by rw [hlen.out]; exact hlt)]
      have hz2 := hblk.frozen k
      have hnx := hid (hblk.set_ k (sv l[k]))
      have hms := hid (mix_set (l.map sv) (sv []) k (by rw [hlen.out]; exact hlt))
      go_wp2_with fail
      refine ⟨⟨k + 1, hlt, by go_num, ?_, hb.setCell (Nat.le_refl _) _⟩, by simp [Go.RowKit.intOf]; omega⟩
      rw [← hms.out, List.getElem_map]
      exact hnx.out
    · obtain rfl : k = l.length := by omega
      have hfin := hid (mix_all (l.map sv) (sv []))
      rw [hlen.out] at hfin
      go_wp2_with fail
      go_ret
      exact ⟨rfl, by rw [← hfin.out]; exact hblk, hb⟩

set_option maxHeartbeats 400000 in
theorem eqS_any (A1 A2 : Option Addr) (c1 c2 : Nat) (l : List (List UInt8)) (w : World) (h1 : Rd w w.heap.size A1 (l.map sv)) (h2 : Rd w w.heap.size A2 (l.map sv)) (hl : l.length ≤ 9223372036854775807) :
    Calls Try.prog 33 #[.slice A1 l.length c1, .slice A2 l.length c2] w fun e w' => e = .returned (.bool true) ∧ Below w.heap.size w w' := by
  go_enter Try.func33, Try.ntmps33
  go_wp2_with fail
  go_loopw [5] (fun i wr => ∃ k : Nat, k ≤ l.length ∧ i = .int .i64 k ∧ Below w.heap.size w wr) (fun i _ => l.length - (Go.RowKit.intOf i).toNat)
  case atStart => exact ⟨0, Nat.zero_le _, rfl, Below.refl _ _⟩
  case round =>
    obtain ⟨k, hk, rfl, hb⟩ := hrel
    by_cases hlt : k < l.length
    · obtain ⟨ad1, rfl, _, hc1⟩ := rd_str (h1.below hb) hlt
      obtain ⟨ad2, rfl, _, hc2⟩ := rd_str (h2.below hb) hlt
      go_wp2_with fail
      go_quiet (fail)
      go_wp2_with fail
      exact ⟨⟨k + 1, hlt, by go_num, bdr hb nq⟩, by simp [Go.RowKit.intOf]; omega⟩
    · obtain rfl : k = l.length := by omega
      go_wp2_with fail
      go_ret
      exact ⟨rfl, hb⟩
end Go.Proofs.Ytlkfejcnkckgkaa.Lh
