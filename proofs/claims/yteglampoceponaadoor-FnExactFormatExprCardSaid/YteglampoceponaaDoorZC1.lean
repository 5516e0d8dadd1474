/- Chapter 1, the specification's own FormatInt: the walk. -/
import Derived.Test.YteglampoceponaaDoorRows
import Derived.Test.YteglampoceponaaDoorZNum
import Derived.Test.YteglampoceponaaDoorZCom
set_option maxRecDepth 100000
namespace Go.Proofs.YteglampoceponaaDoor.C1
open Go.RowKit Go.Lib Go.Proofs.YteglampoceponaaDoor.Num Go.Proofs.YteglampoceponaaDoor.Com

theorem rfl0 : itoa 0 = [48] := by unfold itoa; rw [if_neg (by omega)]; exact decDigits_one (by omega)

set_option maxHeartbeats 400000 in
theorem fmt_zero (w : World) : Calls Tryd.prog 32 #[.int .i64 0] w fun e w' => e = .returned (.string ⟨(itoa 0).toArray⟩) ∧ Below w.heap.size w w' := by
  rw [show itoa 0 = [48] from rfl0]
  go_enter Tryd.func32, Tryd.ntmps32
  go_wp2
  go_ret
  exact ⟨rfl, Below.refl _ _⟩

set_option maxHeartbeats 400000 in
theorem fmt_pos (n : Nat) (h0 : 0 < n) (h1 : n ≤ 9223372036854775807) (w : World) : Calls Tryd.prog 32 #[.int .i64 n] w fun e w' => e = .returned (.string ⟨(decDigits n).toArray⟩) ∧ Below w.heap.size w w' := by
  have hn0 : ((n : Int) == 0) = false := beq_eq_false_iff_ne.2 (by omega)
  have hlt : decide ((n : Int) < 0) = false := by simp
  go_enter Tryd.func32, Tryd.ntmps32
  go_wp2
  go_loopw [0, 4] (fun a o wr => ∃ (k : Nat) (l : List UInt8), k ≤ n ∧ a = .int .i64 k ∧ o = .string ⟨l.toArray⟩ ∧ digs k ++ l = digs n ∧ Below w.heap.size w wr) (fun a _ _ => (Go.RowKit.intOf a).toNat)
  case atStart => exact ⟨n, [], Nat.le_refl _, rfl, rfl, List.append_nil _, Below.refl _ _⟩
  case round =>
    obtain ⟨k, l, hk, rfl, rfl, hl, hb⟩ := hrel
    by_cases hk0 : k = 0
    · subst hk0
      go_wp2
      go_ret
      exact ⟨by simp [digs] at hl; rw [if_neg (by omega)] at hl; simp [hl], hb⟩
    · have hkne : ((k : Int) != 0) = true := by rw [bne_iff_ne]; omega
      have hm : decide ((k : Int) % 10 < 0) = false := by simp; omega
      have hcv := run_str1 wr (48 + (k : Int) % 10) (by omega) (by omega)
      have hsz : l.length ≤ 20 := by
        have := congrArg List.length hl
        rw [List.length_append, digs_len n (by omega)] at this
        have := nDigits_le20 n (by omega)
        omega
      go_wp2
      refine ⟨⟨k / 10, UInt8.ofNat (48 + k % 10) :: l, by omega, by go_num, str_cons _ _, ?_, hb.alloc hb.size _⟩, by simp [Go.RowKit.intOf]; omega⟩
      rw [← hl, digs_step hk0]; simp

set_option maxHeartbeats 400000 in
theorem fmt_neg (n : Nat) (h0 : 0 < n) (h1 : n ≤ 9223372036854775808) (w : World) : Calls Tryd.prog 32 #[.int .i64 (-(n : Int))] w fun e w' => e = .returned (.string ⟨(45 :: decDigits n).toArray⟩) ∧ Below w.heap.size w w' := by
  have hn0 : ((-(n : Int)) == 0) = false := beq_eq_false_iff_ne.2 (by omega)
  have hlt : decide (-(n : Int) < 0) = true := by simp; omega
  go_enter Tryd.func32, Tryd.ntmps32
  go_wp2
  go_loopw [0, 4] (fun a o wr => ∃ (k : Nat) (l : List UInt8), k ≤ n ∧ a = .int .i64 (-(k : Int)) ∧ o = .string ⟨l.toArray⟩ ∧ digs k ++ l = digs n ∧ Below w.heap.size w wr) (fun a _ _ => (- Go.RowKit.intOf a).toNat)
  case atStart => exact ⟨n, [], Nat.le_refl _, rfl, rfl, List.append_nil _, Below.refl _ _⟩
  case round =>
    obtain ⟨k, l, hk, rfl, rfl, hl, hb⟩ := hrel
    have hsz : l.length ≤ 20 := by
      have := congrArg List.length hl
      rw [List.length_append, digs_len n (by omega)] at this
      have := nDigits_le20 n (by omega)
      omega
    by_cases hk0 : k = 0
    · subst hk0
      go_wp2
      go_ret
      refine ⟨congrArg Ending.returned (congrArg Value.string ((ByteArray.mk_append_mk [45] l).trans ?_)), hb⟩
      simp [digs] at hl; rw [if_neg (by omega)] at hl; rw [hl]; rfl
    · have hkne : ((-(k : Int)) != 0) = true := by rw [bne_iff_ne]; omega
      have hm : (-(k : Int)).tmod 10 = -((k % 10 : Nat) : Int) := by rw [Int.neg_tmod, Int.tmod_eq_emod_of_nonneg (by omega)]; omega
      have hq : (-(k : Int)).tdiv 10 = -((k / 10 : Nat) : Int) := by rw [Int.neg_tdiv, Int.tdiv_eq_ediv_of_nonneg (by omega)]; omega
      have hst : digs (k / 10) ++ UInt8.ofNat (48 + k % 10) :: l = digs n := by rw [← hl, digs_step hk0]; simp
      by_cases hz : k % 10 = 0
      · have hcv := run_str1 wr 48 (by omega) (by omega)
        have hst := hid hst
        go_wp2
        refine ⟨⟨k / 10, UInt8.ofNat (48 + k % 10) :: l, by omega, by go_num, ?_, hst.out, hb.alloc hb.size _⟩, by simp [Go.RowKit.intOf]; omega⟩
        rw [hz]; exact str_cons 0 l
      · have hcv := run_str1 wr (48 + (k : Int) % 10) (by omega) (by omega)
        have hpos : 0 < (k : Int) % 10 := by omega
        have hst := hid hst
        go_wp2
        refine ⟨⟨k / 10, UInt8.ofNat (48 + k % 10) :: l, by omega, by go_num, str_cons _ _, hst.out, hb.alloc hb.size _⟩, by simp [Go.RowKit.intOf]; omega⟩

/-- spec.FormatInt, for every int -/
theorem fmt_any (n : Int) (h0 : -9223372036854775808 ≤ n) (h1 : n ≤ 9223372036854775807) (w : World) : Calls Tryd.prog 32 #[.int .i64 n] w fun e w' => e = .returned (.string ⟨(itoa n).toArray⟩) ∧ Below w.heap.size w w' := by
  rcases Int.lt_trichotomy n 0 with h | h | h
  · obtain ⟨k, rfl⟩ : ∃ k : Nat, n = -(k : Int) := ⟨n.natAbs, by omega⟩
    have e : itoa (-(k : Int)) = 45 :: decDigits k := by unfold itoa; rw [if_pos h, Int.natAbs_neg, Int.natAbs_natCast]
    rw [e]; exact fmt_neg k (by omega) (by omega) w
  · subst h; exact fmt_zero w
  · obtain ⟨k, rfl⟩ : ∃ k : Nat, n = (k : Int) := ⟨n.toNat, by omega⟩
    have e : itoa (k : Int) = decDigits k := by unfold itoa; rw [if_neg (by omega), Int.toNat_natCast]
    rw [e]; exact fmt_pos k (by omega) (by omega) w
end Go.Proofs.YteglampoceponaaDoor.C1
