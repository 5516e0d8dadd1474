/- The laws' own helpers on lists of strings. -/
import Derived.Test.YtiogceepjffmkaaGreatDoorYCom
import Derived.Lib.ItoaNum
import Derived.Lib.ItoaLen
import Derived.Lib.QuietBelow
set_option maxHeartbeats 400000
set_option maxRecDepth 100000
namespace Go.Proofs.YtiogceepjffmkaaGreatDoor.Lh
open Go.RowKit Go.Lib Com Mem
def szL (l : List (List UInt8)) : Nat := l.length + (l.map List.length).sum
def szAns (tot : Nat) (left : Int) : Int := if (tot : Int) ≤ left then left - tot else -1
theorem sum_take {l : List (List UInt8)} {k : Nat} (hk : k < l.length) : ((l.take (k + 1)).map List.length).sum = ((l.take k).map List.length).sum + l[k].length := by
  rw [List.take_succ_eq_append_getElem hk, List.map_append, List.sum_append]; rfl
theorem sum_le (l : List (List UInt8)) (k : Nat) : ((l.take k).map List.length).sum ≤ (l.map List.length).sum := by
  conv => rhs; rw [← List.take_append_drop k l]
  rw [List.map_append, List.sum_append]; omega
theorem rd_str {w : World} {B : Nat} {A : Option Addr} {l : List (List UInt8)} (h : Rd w B A (l.map sv)) {k : Nat} (hk : k < l.length) : ∃ ad, A = some ad ∧ ad.block < B ∧ w.cell? (ad.add k) = some (.string ⟨(l[k]).toArray⟩) := by
  obtain ⟨ad, e, hb, hc⟩ := h.at_ (k := k) (by simpa using hk)
  exact ⟨ad, e, hb, by rw [hc]; simp⟩
theorem szS_any (A : Option Addr) (c : Nat) (l : List (List UInt8)) (left : Nat) (w : World) (h : Rd w w.heap.size A (l.map sv)) (hm : ∀ x ∈ l, x.length ≤ 9223372036854775807) (hl : l.length ≤ 9223372036854775807) (hleft : left ≤ 9223372036854775807) :
    Calls Tryz.prog 37 #[.slice A l.length c, .int .i64 left] w fun e w' => e = .returned (.int .i64 (szAns (szL l) left)) ∧ w = w' := by
  by_cases h0 : left < l.length
  · have t0 : decide ((left : Int) - (l.length : Int) < 0) = true := decide_eq_true (by omega)
    have hf := hid (show szAns (szL l) left = -1 by unfold szAns szL; rw [if_neg (by omega)])
    go_enter Tryz.func37, Tryz.ntmps37
    go_wp2_with fail
    go_ret
    exact ⟨by rw [hf.out]; rfl, rfl⟩
  · have t0 : decide ((left : Int) - (l.length : Int) < 0) = false := decide_eq_false (by omega)
    go_enter Tryz.func37, Tryz.ntmps37
    go_wp2_with fail
    go_loop [1, 5] (fun a i => ∃ k : Nat, k ≤ l.length ∧ i = .int .i64 k ∧ a = .int .i64 ((left : Int) - (l.length : Int) - (((l.take k).map List.length).sum : Nat)) ∧ ((l.take k).map List.length).sum ≤ left - l.length) (fun _ i => l.length - (Go.RowKit.intOf i).toNat)
    case atStart => exact ⟨0, Nat.zero_le _, rfl, by simp, by simp⟩
    case round =>
      obtain ⟨k, hk, rfl, rfl, hs⟩ := hrel
      by_cases hlt : k < l.length
      · obtain ⟨ad, rfl, _, hc⟩ := rd_str h hlt
        have hst := sum_take hlt
        have hml := hm _ (List.getElem_mem hlt)
        have hle := sum_le l (k + 1)
        generalize hS : ((l.take k).map List.length).sum = S at *
        by_cases h1 : (left : Int) - (l.length : Int) - (S : Int) - (l[k].length : Int) < 0
        · have t1 : decide ((left : Int) - (l.length : Int) - (S : Int) - (l[k].length : Int) < 0) = true := decide_eq_true h1
          have hf := hid (show szAns (szL l) left = -1 by unfold szAns szL; rw [if_neg (by omega)])
          clear hst hS hle h h1
          go_wp2_with fail
          go_ret
          exact ⟨by rw [hf.out]; rfl, rfl⟩
        · have t1 : decide ((left : Int) - (l.length : Int) - (S : Int) - (l[k].length : Int) < 0) = false := decide_eq_false h1
          have hst := hid hst
          have hml' : S + l[k].length ≤ left - l.length := by omega
          clear hS hle h
          go_wp2_with fail
          go_round
          case rel => exact ⟨k + 1, hlt, by go_num, by rw [hst.out]; go_num, by rw [hst.out]; exact hml'⟩
          case measure => simp [Go.RowKit.intOf]; omega
      · obtain rfl : k = l.length := by omega
        have hf := hid (show szAns (szL l) left = (left : Int) - (l.length : Int) - (((l.take l.length).map List.length).sum : Nat) by
          rw [List.take_of_length_le (Nat.le_refl _)] at hs ⊢
          unfold szAns szL; rw [if_pos (by omega)]; omega)
        generalize ((l.take l.length).map List.length).sum = S at *
        go_wp2_with fail
        go_ret
        exact ⟨by rw [hf.out]; rfl, rfl⟩
theorem strInfo : (Tryz.prog.info? 9).map (fun i => (i.zero, i.size, i.bytes)) = some (some (sv []), 1, 16) := by kernel_rfl
theorem toS_any (A : Option Addr) (c : Nat) (l : List (List UInt8)) (w : World) (h : Rd w w.heap.size A (l.map sv)) (hl : l.length ≤ 1048576) :
    Calls Tryz.prog 39 #[.slice A l.length c] w fun e w' => e = .returned (.slice (some ⟨w.heap.size, 0, none⟩) l.length l.length) ∧ Blk w' w.heap.size 9 (l.map sv) ∧ Below w.heap.size w w' := by
  have hmk := run_make1 w 24 9 (sv []) 16 Tryz.underlying24 strInfo rfl l.length (by omega) (by omega)
  have hlen : (l.map sv).length = l.length := List.length_map _
  have hlen := hid hlen
  go_enter Tryz.func39, Tryz.ntmps39
  go_wp2_with fail
  go_loopw [4] (fun i wr => ∃ k : Nat, k ≤ l.length ∧ i = .int .i64 k ∧ Blk wr w.heap.size 9 (mix (l.map sv) (sv []) k) ∧ Below w.heap.size w wr) (fun i _ => l.length - (Go.RowKit.intOf i).toNat)
  case atStart =>
    refine ⟨0, Nat.zero_le _, rfl, ?_, (Below.refl _ _).alloc (Nat.le_refl _) _⟩
    rw [mix_zero, hlen.out]
    exact Blk.new _ _ _
  case round =>
    obtain ⟨k, hk, rfl, hblk, hb⟩ := hrel
    by_cases hlt : k < l.length
    · obtain ⟨ad, rfl, _, hc⟩ := rd_str (h.below hb) hlt
      have hc2 : wr.cell? ⟨w.heap.size, k, none⟩ = some (sv []) := by rw [hblk.cell, mix_at _ _ _ (by rw [hlen.out]; exact hlt)]
      have hz2 := hblk.frozen k
      have hnx := hid (hblk.set_ k (sv l[k]))
      have hms := hid (mix_set (l.map sv) (sv []) k (by rw [hlen.out]; exact hlt))
      go_wp2_with fail
      refine ⟨⟨k + 1, hlt, by go_num, ?_, hb.setCell (Nat.le_refl _) _⟩, by simp [Go.RowKit.intOf]; omega⟩
      rw [← hms.out, List.getElem_map]
      exact hnx.out
    · obtain rfl : k = l.length := by omega
      have hfin := hid (mix_all (l.map sv) (sv []))
      rw [hlen.out] at hfin
      go_wp2_with fail
      go_ret
      exact ⟨rfl, by rw [← hfin.out]; exact hblk, hb⟩
theorem eqS_any (A1 A2 : Option Addr) (c1 c2 : Nat) (l : List (List UInt8)) (w : World) (h1 : Rd w w.heap.size A1 (l.map sv)) (h2 : Rd w w.heap.size A2 (l.map sv)) (hl : l.length ≤ 9223372036854775807) :
    Calls Tryz.prog 41 #[.slice A1 l.length c1, .slice A2 l.length c2] w fun e w' => e = .returned (.bool true) ∧ Below w.heap.size w w' := by
  go_enter Tryz.func41, Tryz.ntmps41
  go_wp2_with fail
  go_loopw [5] (fun i wr => ∃ k : Nat, k ≤ l.length ∧ i = .int .i64 k ∧ Below w.heap.size w wr) (fun i _ => l.length - (Go.RowKit.intOf i).toNat)
  case atStart => exact ⟨0, Nat.zero_le _, rfl, Below.refl _ _⟩
  case round =>
    obtain ⟨k, hk, rfl, hb⟩ := hrel
    by_cases hlt : k < l.length
    · obtain ⟨ad1, rfl, _, hc1⟩ := rd_str (h1.below hb) hlt
      obtain ⟨ad2, rfl, _, hc2⟩ := rd_str (h2.below hb) hlt
      go_wp2_with fail
      go_quiet (fail)
      go_wp2_with fail
      exact ⟨⟨k + 1, hlt, by go_num, bdr hb nq⟩, by simp [Go.RowKit.intOf]; omega⟩
    · obtain rfl : k = l.length := by omega
      go_wp2_with fail
      go_ret
      exact ⟨rfl, hb⟩
end Go.Proofs.YtiogceepjffmkaaGreatDoor.Lh
set_option maxRecDepth 100000
namespace Go.Proofs.YtiogceepjffmkaaGreatDoor.Num
open Go.Lib
def isDig (c : UInt8) : Bool := decide (48 ≤ c.toNat) && decide (c.toNat ≤ 57)
theorem decDigits_step {u : Nat} (h : ¬ u < 10) : decDigits u = decDigits (u / 10) ++ [UInt8.ofNat (48 + u % 10)] := by rw [decDigits, dif_neg h]
def digs (k : Nat) : List UInt8 := if k = 0 then [] else decDigits k
theorem digs_step {k : Nat} (h : k ≠ 0) : digs k = digs (k / 10) ++ [UInt8.ofNat (48 + k % 10)] := by
  unfold digs
  rw [if_neg h]
  by_cases h10 : k < 10
  · rw [if_pos (by omega), decDigits_one h10, Nat.mod_eq_of_lt h10]; rfl
  · rw [if_neg (by omega), decDigits_step h10]
theorem digs_len (k : Nat) (h : k ≠ 0) : (digs k).length = nDigits k := by unfold digs; rw [if_neg h, decDigits_length]
theorem itoa_size (n : Int) (h0 : -9223372036854775808 ≤ n) (h1 : n ≤ 9223372036854775807) : (itoa n).length ≤ 21 := itoa_length_le n h0 h1
end Go.Proofs.YtiogceepjffmkaaGreatDoor.Num
set_option maxRecDepth 100000
namespace Go.Proofs.YtiogceepjffmkaaGreatDoor.Lh
open Go.RowKit Go.Lib Go.Sort Com Mem Num
end Go.Proofs.YtiogceepjffmkaaGreatDoor.Lh
set_option maxRecDepth 100000
namespace Go.Proofs.YtiogceepjffmkaaGreatDoor.Os
open Go.RowKit Go.Lib Com Mem Lh Ow
abbrev OwnS (lo hi : Nat) (w : World) (v : Value) (l : List (List UInt8)) : Prop := Own 9 lo hi w v (l.map sv)
theorem OwnS.read_ {lo hi : Nat} {w : World} {v : Value} {l : List (List UInt8)} (h : OwnS lo hi w v l) : ∃ A c, v = .slice A l.length c ∧ Rd w w.heap.size A (l.map sv) ∧ l.length ≤ c ∧ c ≤ maxLen ∧ (A = none → c = 0) ∧ ∀ ad, A = some ad → ad = ⟨ad.block, 0, none⟩ := by
  have := h.read
  rwa [List.length_map] at this
theorem szL_len (l : List (List UInt8)) : l.length ≤ szL l := by unfold szL; omega
theorem szS_over (A : Option Addr) (c : Nat) (l : List (List UInt8)) (left : Int) (w : World) (h : Rd w w.heap.size A (l.map sv)) (hm : ∀ x ∈ l, x.length ≤ 9223372036854775807) (hl : l.length ≤ 9223372036854775807) (h0 : 0 ≤ left) (h1 : left ≤ 1048576) (h2 : left < szL l) :
    Calls Tryz.prog 37 #[.slice A l.length c, .int .i64 left] w fun e w' => e = .returned (.int .i64 (-1)) ∧ w = w' := by
  obtain ⟨k, rfl⟩ : ∃ k : Nat, left = k := ⟨left.toNat, by omega⟩
  refine (szS_any A c l k w h hm hl (by omega)).mono fun e w' h => ⟨h.1.trans ?_, h.2⟩
  unfold szAns; rw [if_neg (by omega)]
theorem szS_fit (A : Option Addr) (c : Nat) (l : List (List UInt8)) (left : Int) (w : World) (h : Rd w w.heap.size A (l.map sv)) (hm : ∀ x ∈ l, x.length ≤ 9223372036854775807) (hl : l.length ≤ 9223372036854775807) (h0 : 0 ≤ left) (h1 : left ≤ 1048576) (h2 : szL l ≤ left) :
    Calls Tryz.prog 37 #[.slice A l.length c, .int .i64 left] w fun e w' => e = .returned (.int .i64 (left - (szL l : Int))) ∧ w = w' := by
  obtain ⟨k, rfl⟩ : ∃ k : Nat, left = k := ⟨left.toNat, by omega⟩
  refine (szS_any A c l k w h hm hl (by omega)).mono fun e w' h => ⟨h.1.trans ?_, h.2⟩
  unfold szAns; rw [if_pos (by omega)]
theorem toS_own (A : Option Addr) (c : Nat) (l : List (List UInt8)) (w w1 : World) (h : Rd w w.heap.size A (l.map sv)) (hl : l.length ≤ 1048576) (hb : Below w.heap.size w w1) :
    Calls Tryz.prog 39 #[.slice A l.length c] w1 fun e w' => e = .returned (.slice (some ⟨w1.heap.size, 0, none⟩) l.length l.length) ∧ OwnS w1.heap.size w'.heap.size w' (.slice (some ⟨w1.heap.size, 0, none⟩) l.length l.length) l ∧ Below w1.heap.size w1 w' :=
  (toS_any A c l w1 ((h.below hb).more hb.size) hl).mono fun _ _ ⟨he, hb1, hb2⟩ => ⟨he, by have := Own.of_blk hb1 (Nat.le_refl _) (by rw [List.length_map]; unfold maxLen; omega); rwa [List.length_map] at this, hb2⟩
end Go.Proofs.YtiogceepjffmkaaGreatDoor.Os
set_option maxRecDepth 100000
namespace Go.Proofs.YtiogceepjffmkaaGreatDoor.Ch
open Go.RowKit Go.Lib Num Com
def isLow (c : UInt8) : Bool := decide (97 ≤ c.toNat) && decide (c.toNat ≤ 122)
theorem digit_any (c : UInt8) (w : World) : Calls Tryz.prog 167 #[.int .u8 c.toNat] w fun e w' => e = .returned (.bool (isDig c)) ∧ w = w' := by
  by_cases h1 : 48 ≤ c.toNat
  · by_cases h2 : c.toNat ≤ 57
    · have t1 : decide ((48 : Int) ≤ (c.toNat : Int)) = true := decide_eq_true (by omega)
      have t2 : decide ((c.toNat : Int) ≤ 57) = true := decide_eq_true (by omega)
      have hf := hid (show isDig c = true by simp [isDig]; omega)
      go_enter Tryz.func167, Tryz.ntmps167
      go_wp2_with fail
      go_ret
      exact ⟨by rw [hf.out]; rfl, rfl⟩
    · have t1 : decide ((48 : Int) ≤ (c.toNat : Int)) = true := decide_eq_true (by omega)
      have t2 : decide ((c.toNat : Int) ≤ 57) = false := decide_eq_false (by omega)
      have hf := hid (show isDig c = false by simp [isDig]; omega)
      go_enter Tryz.func167, Tryz.ntmps167
      go_wp2_with fail
      go_ret
      exact ⟨by rw [hf.out]; rfl, rfl⟩
  · have t1 : decide ((48 : Int) ≤ (c.toNat : Int)) = false := decide_eq_false (by omega)
    have hf := hid (show isDig c = false by simp [isDig]; omega)
    go_enter Tryz.func167, Tryz.ntmps167
    go_wp2_with fail
    go_ret
    exact ⟨by rw [hf.out]; rfl, rfl⟩
theorem lower_any (c : UInt8) (w : World) : Calls Tryz.prog 166 #[.int .u8 c.toNat] w fun e w' => e = .returned (.bool (isLow c)) ∧ w = w' := by
  by_cases h1 : 97 ≤ c.toNat
  · by_cases h2 : c.toNat ≤ 122
    · have t1 : decide ((97 : Int) ≤ (c.toNat : Int)) = true := decide_eq_true (by omega)
      have t2 : decide ((c.toNat : Int) ≤ 122) = true := decide_eq_true (by omega)
      have hf := hid (show isLow c = true by simp [isLow]; omega)
      go_enter Tryz.func166, Tryz.ntmps166
      go_wp2_with fail
      go_ret
      exact ⟨by rw [hf.out]; rfl, rfl⟩
    · have t1 : decide ((97 : Int) ≤ (c.toNat : Int)) = true := decide_eq_true (by omega)
      have t2 : decide ((c.toNat : Int) ≤ 122) = false := decide_eq_false (by omega)
      have hf := hid (show isLow c = false by simp [isLow]; omega)
      go_enter Tryz.func166, Tryz.ntmps166
      go_wp2_with fail
      go_ret
      exact ⟨by rw [hf.out]; rfl, rfl⟩
  · have t1 : decide ((97 : Int) ≤ (c.toNat : Int)) = false := decide_eq_false (by omega)
    have hf := hid (show isLow c = false by simp [isLow]; omega)
    go_enter Tryz.func166, Tryz.ntmps166
    go_wp2_with fail
    go_ret
    exact ⟨by rw [hf.out]; rfl, rfl⟩
end Go.Proofs.YtiogceepjffmkaaGreatDoor.Ch
