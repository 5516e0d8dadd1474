/- The laws' looks at lists of names: ascending; the same. -/
import Derived.Test.YtklcbagddijkgaaGreatZLhS
import Derived.Test.YtklcbagddijkgaaGreatZNm
import Derived.IntWalk
import Derived.BigQuiet
import Derived.Deep.QuietTactic
set_option maxRecDepth 100000
namespace Go.Proofs.YtklcbagddijkgaaGreat.Ri
open Go.RowKit Go.Lib Go.Proofs.YtklcbagddijkgaaGreat.Com Go.Proofs.YtklcbagddijkgaaGreat.Mem Go.Proofs.YtklcbagddijkgaaGreat.Nm Go.Proofs.YtklcbagddijkgaaGreat.Ow Go.Proofs.YtklcbagddijkgaaGreat.Os Go.Proofs.YtklcbagddijkgaaGreat.Lh

set_option maxHeartbeats 1000000 in
theorem rising_any (A : Option Addr) (c : Nat) (L : List (List UInt8)) (w : World) (h : Rd w w.heap.size A (L.map sv)) (ha : Asc L) (hn : L.length ≤ 9223372036854775807) :
    Calls Tryz.prog 14 #[.slice A L.length c] w fun e w' => e = .returned (.bool true) ∧ Below w.heap.size w w' := by
  go_enter Tryz.func14, Tryz.ntmps14
  go_wp2_with fail
  go_loopw [3] (fun i wr => ∃ k : Nat, 1 ≤ k ∧ i = .int .i64 k ∧ k ≤ L.length + 1 ∧ Below w.heap.size w wr) (fun i _ => L.length + 1 - (Go.RowKit.intOf i).toNat)
  case atStart => exact ⟨1, Nat.le_refl _, rfl, by omega, Below.refl _ _⟩
  case round =>
    obtain ⟨k, hk, rfl, hkl, hb⟩ := hrel
    by_cases hlt : k < L.length
    · obtain ⟨j, hjk⟩ : ∃ j, j + 1 = k := ⟨k - 1, by omega⟩
      have hj : j < L.length := by omega
      obtain ⟨ad, rfl, _, hc⟩ := Lh.rd_str (h.below hb) hlt
      have hc0 := Lh.rd_at (h.below hb) hj
      have hx : Op.bytesLess L[j] L[k] = true := by rw [Go.Proofs.bytesLess_eq]; exact decide_eq_true (List.pairwise_iff_getElem.1 ha j k hj hlt (by omega))
      have e1 : IntKind.i64.wrap ((k : Int) - 1) = (j : Int) := by rw [IntWalk.i64_in _ (by omega)]; omega
      have e3 : (k : Int) < (L.length : Int) := by omega
      have e4 : (j : Int) < (L.length : Int) := by omega
      generalize L[k] = y at *
      generalize L[j] = x at *
      have hb := hid hb
      have hjk := hid hjk
      clear h ha
      go_wp2_with fail
      go_quiet (fail)
      clear e1
      go_wp2_with fail
      exact ⟨⟨k + 1, by omega, by go_num, by omega, bdr hb.out _⟩, by simp [Go.RowKit.intOf]; omega⟩
    · go_wp2_with fail
      go_ret
      exact ⟨rfl, hb⟩
theorem rising_own {lo hi : Nat} {v : Value} {L : List (List UInt8)} (w : World) (h : OwnS lo hi w v L) (ha : Asc L) : Calls Tryz.prog 14 #[v] w fun e w' => e = .returned (.bool true) ∧ Below w.heap.size w w' := by
  obtain ⟨A, c, rfl, hr, hc, hm, _⟩ := h.read_
  exact rising_any A c L w hr ha (by unfold maxLen at hm; omega)
set_option maxHeartbeats 1000000 in
theorem same_any (A1 A2 : Option Addr) (c1 c2 : Nat) (l : List (List UInt8)) (w : World) (h1 : Rd w w.heap.size A1 (l.map sv)) (h2 : Rd w w.heap.size A2 (l.map sv)) (hl : l.length ≤ 9223372036854775807) :
    Calls Tryz.prog 15 #[.slice A1 l.length c1, .slice A2 l.length c2] w fun e w' => e = .returned (.bool true) ∧ Below w.heap.size w w' := by
  have hcmp : ((l.length : Int) != (l.length : Int)) = false := bne_self_eq_false _
  go_enter Tryz.func15, Tryz.ntmps15
  go_wp2_with fail
  go_loopw [5] (fun i wr => ∃ k : Nat, k ≤ l.length ∧ i = .int .i64 k ∧ Below w.heap.size w wr) (fun i _ => l.length - (Go.RowKit.intOf i).toNat)
  case atStart => exact ⟨0, Nat.zero_le _, rfl, Below.refl _ _⟩
  case round =>
    obtain ⟨k, hk, rfl, hb⟩ := hrel
    by_cases hlt : k < l.length
    · obtain ⟨ad1, rfl, _, hc1⟩ := Lh.rd_str (h1.below hb) hlt
      obtain ⟨ad2, rfl, _, hc2⟩ := Lh.rd_str (h2.below hb) hlt
      have hself : (l[k] != l[k]) = false := bne_self_eq_false _
      go_wp2_with fail
      go_quiet (fail)
      go_wp2_with fail
      exact ⟨⟨k + 1, hlt, by go_num, bdr hb nq⟩, by simp [Go.RowKit.intOf]; omega⟩
    · obtain rfl : k = l.length := by omega
      go_wp2_with fail
      go_ret
      exact ⟨rfl, hb⟩
theorem same_own {lo hi lo' hi' : Nat} {v v' : Value} {L : List (List UInt8)} (w : World) (h : OwnS lo hi w v L) (h' : OwnS lo' hi' w v' L) : Calls Tryz.prog 15 #[v, v'] w fun e w' => e = .returned (.bool true) ∧ Below w.heap.size w w' := by
  obtain ⟨A, c, rfl, hr, hc, hm, _⟩ := h.read_
  obtain ⟨A', c', rfl, hr', _⟩ := h'.read_
  exact same_any A A' c c' L w hr hr' (by unfold maxLen at hm; omega)
end Go.Proofs.YtklcbagddijkgaaGreat.Ri
