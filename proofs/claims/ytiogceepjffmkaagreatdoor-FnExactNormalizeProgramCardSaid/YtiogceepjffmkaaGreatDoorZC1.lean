/- Chapter 1, the specification's own FormatInt: the walk. -/
import Derived.Test.YtiogceepjffmkaaGreatDoorZKs
import Derived.Test.YtiogceepjffmkaaGreatDoorZNix
set_option maxHeartbeats 400000
set_option maxRecDepth 100000
namespace Go.Proofs.YtiogceepjffmkaaGreatDoor.C1
open Go.RowKit Go.Lib Num Com
theorem rfl0 : itoa 0 = [48] := by unfold itoa; rw [if_neg (by omega)]; exact decDigits_one (by omega)
theorem fmt_zero (w : World) : Calls Tryz.prog 173 #[.int .i64 0] w fun e w' => e = .returned (.string ⟨(itoa 0).toArray⟩) ∧ Below w.heap.size w w' := by
  rw [show itoa 0 = [48] from rfl0]
  go_enter Tryz.func173, Tryz.ntmps173
  go_wp2
  go_ret
  exact ⟨rfl, Below.refl _ _⟩
theorem fmt_pos (n : Nat) (h0 : 0 < n) (h1 : n ≤ 9223372036854775807) (w : World) : Calls Tryz.prog 173 #[.int .i64 n] w fun e w' => e = .returned (.string ⟨(decDigits n).toArray⟩) ∧ Below w.heap.size w w' := by
  have hn0 : ((n : Int) == 0) = false := beq_eq_false_iff_ne.2 (by omega)
  have hlt : decide ((n : Int) < 0) = false := by simp
  go_enter Tryz.func173, Tryz.ntmps173
  go_wp2
  go_loopw [0, 4] (fun a o wr => ∃ (k : Nat) (l : List UInt8), k ≤ n ∧ a = .int .i64 k ∧ o = .string ⟨l.toArray⟩ ∧ digs k ++ l = digs n ∧ Below w.heap.size w wr) (fun a _ _ => (Go.RowKit.intOf a).toNat)
  case atStart => exact ⟨n, [], Nat.le_refl _, rfl, rfl, List.append_nil _, Below.refl _ _⟩
  case round =>
    obtain ⟨k, l, hk, rfl, rfl, hl, hb⟩ := hrel
    by_cases hk0 : k = 0
    · subst hk0
      go_wp2
      go_ret
      exact ⟨by simp [digs] at hl; rw [if_neg (by omega)] at hl; simp [hl], hb⟩
    · have hkne : ((k : Int) != 0) = true := by rw [bne_iff_ne]; omega
      have hm : decide ((k : Int) % 10 < 0) = false := by simp; omega
      have hcv := run_str1 wr (48 + (k : Int) % 10) (by omega) (by omega)
      have hsz : l.length ≤ 20 := by
        have := congrArg List.length hl
        rw [List.length_append, digs_len n (by omega)] at this
        have := nDigits_le20 n (by omega)
        omega
      go_wp2
      refine ⟨⟨k / 10, UInt8.ofNat (48 + k % 10) :: l, by omega, by go_num, str_cons _ _, ?_, hb.alloc hb.size _⟩, by simp [Go.RowKit.intOf]; omega⟩
      rw [← hl, digs_step hk0]; simp
theorem fmt_neg (n : Nat) (h0 : 0 < n) (h1 : n ≤ 9223372036854775808) (w : World) : Calls Tryz.prog 173 #[.int .i64 (-(n : Int))] w fun e w' => e = .returned (.string ⟨(45 :: decDigits n).toArray⟩) ∧ Below w.heap.size w w' := by
  have hn0 : ((-(n : Int)) == 0) = false := beq_eq_false_iff_ne.2 (by omega)
  have hlt : decide (-(n : Int) < 0) = true := by simp; omega
  go_enter Tryz.func173, Tryz.ntmps173
  go_wp2
  go_loopw [0, 4] (fun a o wr => ∃ (k : Nat) (l : List UInt8), k ≤ n ∧ a = .int .i64 (-(k : Int)) ∧ o = .string ⟨l.toArray⟩ ∧ digs k ++ l = digs n ∧ Below w.heap.size w wr) (fun a _ _ => (- Go.RowKit.intOf a).toNat)
  case atStart => exact ⟨n, [], Nat.le_refl _, rfl, rfl, List.append_nil _, Below.refl _ _⟩
  case round =>
    obtain ⟨k, l, hk, rfl, rfl, hl, hb⟩ := hrel
    have hsz : l.length ≤ 20 := by
      have := congrArg List.length hl
      rw [List.length_append, digs_len n (by omega)] at this
      have := nDigits_le20 n (by omega)
      omega
    by_cases hk0 : k = 0
    · subst hk0
      go_wp2
      go_ret
      refine ⟨congrArg Ending.returned (congrArg Value.string ((ByteArray.mk_append_mk [45] l).trans ?_)), hb⟩
      simp [digs] at hl; rw [if_neg (by omega)] at hl; rw [hl]; rfl
    · have hkne : ((-(k : Int)) != 0) = true := by rw [bne_iff_ne]; omega
      have hm : (-(k : Int)).tmod 10 = -((k % 10 : Nat) : Int) := by rw [Int.neg_tmod, Int.tmod_eq_emod_of_nonneg (by omega)]; omega
      have hq : (-(k : Int)).tdiv 10 = -((k / 10 : Nat) : Int) := by rw [Int.neg_tdiv, Int.tdiv_eq_ediv_of_nonneg (by omega)]; omega
      have hst : digs (k / 10) ++ UInt8.ofNat (48 + k % 10) :: l = digs n := by rw [← hl, digs_step hk0]; simp
      by_cases hz : k % 10 = 0
      · have hcv := run_str1 wr 48 (by omega) (by omega)
        have hst := hid hst
        go_wp2
        refine ⟨⟨k / 10, UInt8.ofNat (48 + k % 10) :: l, by omega, by go_num, ?_, hst.out, hb.alloc hb.size _⟩, by simp [Go.RowKit.intOf]; omega⟩
        rw [hz]; exact str_cons 0 l
      · have hcv := run_str1 wr (48 + (k : Int) % 10) (by omega) (by omega)
        have hpos : 0 < (k : Int) % 10 := by omega
        have hst := hid hst
        go_wp2
        refine ⟨⟨k / 10, UInt8.ofNat (48 + k % 10) :: l, by omega, by go_num, str_cons _ _, hst.out, hb.alloc hb.size _⟩, by simp [Go.RowKit.intOf]; omega⟩
theorem fmt_any (n : Int) (h0 : -9223372036854775808 ≤ n) (h1 : n ≤ 9223372036854775807) (w : World) : Calls Tryz.prog 173 #[.int .i64 n] w fun e w' => e = .returned (.string ⟨(itoa n).toArray⟩) ∧ Below w.heap.size w w' := by
  rcases Int.lt_trichotomy n 0 with h | h | h
  · obtain ⟨k, rfl⟩ : ∃ k : Nat, n = -(k : Int) := ⟨n.natAbs, by omega⟩
    have e : itoa (-(k : Int)) = 45 :: decDigits k := by unfold itoa; rw [if_pos h, Int.natAbs_neg, Int.natAbs_natCast]
    rw [e]; exact fmt_neg k (by omega) (by omega) w
  · subst h; exact fmt_zero w
  · obtain ⟨k, rfl⟩ : ∃ k : Nat, n = (k : Int) := ⟨n.toNat, by omega⟩
    have e : itoa (k : Int) = decDigits k := by unfold itoa; rw [if_neg (by omega), Int.toNat_natCast]
    rw [e]; exact fmt_pos k (by omega) (by omega) w
end Go.Proofs.YtiogceepjffmkaaGreatDoor.C1
set_option maxRecDepth 100000
namespace Go.Proofs.YtiogceepjffmkaaGreatDoor.L2a
open Go.RowKit Go.Lib Com Mem Lh C2
theorem idx_from (L : List (List UInt8)) (l : List UInt8) : ∀ i : Nat, Lib.idxFromS (L.map fun x => (⟨x.toArray⟩ : ByteArray)) ⟨l.toArray⟩ i = if ixOf L l < 0 then -1 else ixOf L l + i := by
  induction L with
  | nil => intro i; simp [Lib.idxFromS, ixOf]
  | cons x r ih =>
    intro i
    by_cases h : x = l
    · subst h
      have e : ixOf (x :: r) x = 0 := by simp [ixOf]
      rw [e]; simp [Lib.idxFromS]
    · have h' : ¬ ((⟨x.toArray⟩ : ByteArray) = ⟨l.toArray⟩) := fun e => h (by simpa using e)
      have e : ixOf (x :: r) l = if ixOf r l < 0 then -1 else ixOf r l + 1 := by simp [ixOf, h]
      rw [List.map_cons, Lib.idxFromS, if_neg h', ih, e]
      by_cases h2 : ixOf r l < 0
      · simp [h2]
      · rw [if_neg h2, if_neg h2, if_neg (by omega)]; omega
theorem idx_bridge (L : List (List UInt8)) (l : List UInt8) : Lib.idxOfS (L.map fun x => (⟨x.toArray⟩ : ByteArray)) ⟨l.toArray⟩ = ixOf L l := by
  have h := idx_from L l 0
  have hb := ixOf_bd L l
  unfold Lib.idxOfS
  rw [h]
  split <;> omega
theorem index_any (A : Option Addr) (c B : Nat) (L : List (List UInt8)) (l : List UInt8) (w : World) (h : Rd w B A (L.map sv)) (hA : ∀ ad, A = some ad → ad = ⟨ad.block, 0, none⟩) (hn : L.length ≤ 9223372036854775807) :
    Calls Tryz.prog 132 #[.slice A L.length c, .string ⟨l.toArray⟩] w fun e w' => e = .returned (.int .i64 (ixOf L l)) ∧ w = w' := by
  have hc : Calls Tryz.prog 169 #[.slice A L.length c, .string ⟨l.toArray⟩] w fun e w' => e = .returned (.int .i64 (ixOf L l)) ∧ w' = w := by
    by_cases h0 : L = []
    · subst h0
      have := Tryz.slices_Index_string_empty A c ⟨l.toArray⟩ w
      have e := idx_bridge [] l
      rw [List.map_nil] at e
      rw [e] at this
      exact this
    · obtain ⟨ad, rfl, _, hcs⟩ := h (by simpa using h0)
      have had := hA ad rfl
      generalize ad.block = g at *
      subst had
      have hc := Tryz.slices_Index_string g 0 L.length c (L.map fun x => (⟨x.toArray⟩ : ByteArray)) ⟨l.toArray⟩ w (by simp) hn (fun j hj => by
        rw [List.length_map] at hj
        have := hcs j (sv L[j]) (by simp [hj])
        have e : (⟨g, 0, none⟩ : Addr).add j = ⟨g, 0 + j, none⟩ := by unfold Addr.add; split <;> simp_all
        rw [← e, this]
        simp [hj])
      rw [List.take_of_length_le (by simp), idx_bridge] at hc
      exact hc
  have hc := hid hc
  go_enter Tryz.func132, Tryz.ntmps132
  go_wp2_with fail
  refine hc.out.mono ?_
  rintro e w' ⟨rfl, rfl⟩
  go_wp2_with fail
  go_ret
  exact ⟨rfl, rfl⟩
end Go.Proofs.YtiogceepjffmkaaGreatDoor.L2a
set_option maxRecDepth 100000
namespace Go.Proofs.YtiogceepjffmkaaGreatDoor.Gs
open Go.RowKit Go.Lib Go.Sort Com Mem Tr Im Ag Pl Kd
end Go.Proofs.YtiogceepjffmkaaGreatDoor.Gs
set_option maxRecDepth 100000
namespace Go.Proofs.YtiogceepjffmkaaGreatDoor.Cur
open Go.RowKit Go.Lib Com Mem
end Go.Proofs.YtiogceepjffmkaaGreatDoor.Cur
set_option maxRecDepth 100000
namespace Go.Proofs.YtiogceepjffmkaaGreatDoor.Dr
open Go.RowKit Go.Lib Com Mem Cur
end Go.Proofs.YtiogceepjffmkaaGreatDoor.Dr
set_option maxRecDepth 100000
namespace Go.Proofs.YtiogceepjffmkaaGreatDoor.Gd
open Go.RowKit Go.Lib Go.Sort Com Mem YtiogceepjffmkaaGreatDoor.Os Tr
end Go.Proofs.YtiogceepjffmkaaGreatDoor.Gd
