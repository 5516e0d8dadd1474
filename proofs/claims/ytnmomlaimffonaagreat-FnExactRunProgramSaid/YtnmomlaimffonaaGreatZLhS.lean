/- The laws' own helpers on lists of strings. -/
import Derived.Test.YtnmomlaimffonaaGreatZCom
import Derived.Lib.ItoaNum
import Derived.Lib.ItoaLen
import Derived.Lib.QuietBelow
set_option maxHeartbeats 1000000
set_option maxRecDepth 100000
namespace Go.Proofs.YtnmomlaimffonaaGreat.Lh
open Go.RowKit Go.Lib Com Mem
def szL (l : List (List UInt8)) : Nat := l.length + (l.map List.length).sum
def szAns (tot : Nat) (left : Int) : Int := if (tot : Int) ≤ left then left - tot else -1
theorem sum_take {l : List (List UInt8)} {k : Nat} (hk : k < l.length) : ((l.take (k + 1)).map List.length).sum = ((l.take k).map List.length).sum + l[k].length := by
  rw [List.take_succ_eq_append_getElem hk, List.map_append, List.sum_append]; rfl
theorem sum_le (l : List (List UInt8)) (k : Nat) : ((l.take k).map List.length).sum ≤ (l.map List.length).sum := by
  conv => rhs; rw [← List.take_append_drop k l]
  rw [List.map_append, List.sum_append]; omega
theorem rd_str {w : World} {B : Nat} {A : Option Addr} {l : List (List UInt8)} (h : Rd w B A (l.map sv)) {k : Nat} (hk : k < l.length) : ∃ ad, A = some ad ∧ ad.block < B ∧ w.cell? (ad.add k) = some (.string ⟨(l[k]).toArray⟩) := by
  obtain ⟨ad, e, hb, hc⟩ := h.at_ (k := k) (by simpa using hk)
  exact ⟨ad, e, hb, by rw [hc]; simp⟩
theorem szS_any (A : Option Addr) (c : Nat) (l : List (List UInt8)) (left : Nat) (w : World) (h : Rd w w.heap.size A (l.map sv)) (hm : ∀ x ∈ l, x.length ≤ 9223372036854775807) (hl : l.length ≤ 9223372036854775807) (hleft : left ≤ 9223372036854775807) :
    Calls Tryz.prog 40 #[.slice A l.length c, .int .i64 left] w fun e w' => e = .returned (.int .i64 (szAns (szL l) left)) ∧ w = w' := by
  by_cases h0 : left < l.length
  · have t0 : decide ((left : Int) - (l.length : Int) < 0) = true := decide_eq_true (by omega)
    have hf := hid (show szAns (szL l) left = -1 by unfold szAns szL; rw [if_neg (by omega)])
    go_enter Tryz.func40, Tryz.ntmps40
    go_wp2_with fail
    go_ret
    exact ⟨by rw [hf.out]; rfl, rfl⟩
  · have t0 : decide ((left : Int) - (l.length : Int) < 0) = false := decide_eq_false (by omega)
    go_enter Tryz.func40, Tryz.ntmps40
    go_wp2_with fail
    go_loop [1, 5] (fun a i => ∃ k : Nat, k ≤ l.length ∧ i = .int .i64 k ∧ a = .int .i64 ((left : Int) - (l.length : Int) - (((l.take k).map List.length).sum : Nat)) ∧ ((l.take k).map List.length).sum ≤ left - l.length) (fun _ i => l.length - (Go.RowKit.intOf i).toNat)
    case atStart => exact ⟨0, Nat.zero_le _, rfl, by simp, by simp⟩
    case round =>
      obtain ⟨k, hk, rfl, rfl, hs⟩ := hrel
      by_cases hlt : k < l.length
      · obtain ⟨ad, rfl, _, hc⟩ := rd_str h hlt
        have hst := sum_take hlt
        have hml := hm _ (List.getElem_mem hlt)
        have hle := sum_le l (k + 1)
        generalize hS : ((l.take k).map List.length).sum = S at *
        by_cases h1 : (left : Int) - (l.length : Int) - (S : Int) - (l[k].length : Int) < 0
        · have t1 : decide ((left : Int) - (l.length : Int) - (S : Int) - (l[k].length : Int) < 0) = true := decide_eq_true h1
          have hf := hid (show szAns (szL l) left = -1 by unfold szAns szL; rw [if_neg (by omega)])
          clear hst hS hle h h1
          go_wp2_with fail
          go_ret
          exact ⟨by rw [hf.out]; rfl, rfl⟩
        · have t1 : decide ((left : Int) - (l.length : Int) - (S : Int) - (l[k].length : Int) < 0) = false := decide_eq_false h1
          have hst := hid hst
          have hml' : S + l[k].length ≤ left - l.length := by omega
          clear hS hle h
          go_wp2_with fail
          go_round
          case rel => exact ⟨k + 1, hlt, by go_num, by rw [hst.out]; go_num, by rw [hst.out]; exact hml'⟩
          case measure => simp [Go.RowKit.intOf]; omega
      · obtain rfl : k = l.length := by omega
        have hf := hid (show szAns (szL l) left = (left : Int) - (l.length : Int) - (((l.take l.length).map List.length).sum : Nat) by
          rw [List.take_of_length_le (Nat.le_refl _)] at hs ⊢
          unfold szAns szL; rw [if_pos (by omega)]; omega)
        generalize ((l.take l.length).map List.length).sum = S at *
        go_wp2_with fail
        go_ret
        exact ⟨by rw [hf.out]; rfl, rfl⟩
theorem strInfo : (Tryz.prog.info? 9).map (fun i => (i.zero, i.size, i.bytes)) = some (some (sv []), 1, 16) := by kernel_rfl
theorem toS_any (A : Option Addr) (c : Nat) (l : List (List UInt8)) (w : World) (h : Rd w w.heap.size A (l.map sv)) (hl : l.length ≤ 1048576) :
    Calls Tryz.prog 42 #[.slice A l.length c] w fun e w' => e = .returned (.slice (some ⟨w.heap.size, 0, none⟩) l.length l.length) ∧ Blk w' w.heap.size 9 (l.map sv) ∧ Below w.heap.size w w' := by
  have hmk := run_make1 w 24 9 (sv []) 16 Tryz.underlying24 strInfo rfl l.length (by omega) (by omega)
  have hlen : (l.map sv).length = l.length := List.length_map _
  have hlen := hid hlen
  go_enter Tryz.func42, Tryz.ntmps42
  go_wp2_with fail
  go_loopw [4] (fun i wr => ∃ k : Nat, k ≤ l.length ∧ i = .int .i64 k ∧ Blk wr w.heap.size 9 (mix (l.map sv) (sv []) k) ∧ Below w.heap.size w wr) (fun i _ => l.length - (Go.RowKit.intOf i).toNat)
  case atStart =>
    refine ⟨0, Nat.zero_le _, rfl, ?_, (Below.refl _ _).alloc (Nat.le_refl _) _⟩
    rw [mix_zero, hlen.out]
    exact Blk.new _ _ _
  case round =>
    obtain ⟨k, hk, rfl, hblk, hb⟩ := hrel
    by_cases hlt : k < l.length
    · obtain ⟨ad, rfl, _, hc⟩ := rd_str (h.below hb) hlt
      have hc2 : wr.cell? ⟨w.heap.size, k, none⟩ = some (sv []) := by rw [hblk.cell, mix_at _ _ _ (by rw [hlen.out]; exact hlt)]
      have hz2 := hblk.frozen k
      have hnx := hid (hblk.set_ k (sv l[k]))
      have hms := hid (mix_set (l.map sv) (sv []) k (by rw [hlen.out]; exact hlt))
      go_wp2_with fail
      refine ⟨⟨k + 1, hlt, by go_num, ?_, hb.setCell (Nat.le_refl _) _⟩, by simp [Go.RowKit.intOf]; omega⟩
      rw [← hms.out, List.getElem_map]
      exact hnx.out
    · obtain rfl : k = l.length := by omega
      have hfin := hid (mix_all (l.map sv) (sv []))
      rw [hlen.out] at hfin
      go_wp2_with fail
      go_ret
      exact ⟨rfl, by rw [← hfin.out]; exact hblk, hb⟩
theorem eqS_any (A1 A2 : Option Addr) (c1 c2 : Nat) (l : List (List UInt8)) (w : World) (h1 : Rd w w.heap.size A1 (l.map sv)) (h2 : Rd w w.heap.size A2 (l.map sv)) (hl : l.length ≤ 9223372036854775807) :
    Calls Tryz.prog 44 #[.slice A1 l.length c1, .slice A2 l.length c2] w fun e w' => e = .returned (.bool true) ∧ Below w.heap.size w w' := by
  go_enter Tryz.func44, Tryz.ntmps44
  go_wp2_with fail
  go_loopw [5] (fun i wr => ∃ k : Nat, k ≤ l.length ∧ i = .int .i64 k ∧ Below w.heap.size w wr) (fun i _ => l.length - (Go.RowKit.intOf i).toNat)
  case atStart => exact ⟨0, Nat.zero_le _, rfl, Below.refl _ _⟩
  case round =>
    obtain ⟨k, hk, rfl, hb⟩ := hrel
    by_cases hlt : k < l.length
    · obtain ⟨ad1, rfl, _, hc1⟩ := rd_str (h1.below hb) hlt
      obtain ⟨ad2, rfl, _, hc2⟩ := rd_str (h2.below hb) hlt
      go_wp2_with fail
      go_quiet (fail)
      go_wp2_with fail
      exact ⟨⟨k + 1, hlt, by go_num, bdr hb nq⟩, by simp [Go.RowKit.intOf]; omega⟩
    · obtain rfl : k = l.length := by omega
      go_wp2_with fail
      go_ret
      exact ⟨rfl, hb⟩
end Go.Proofs.YtnmomlaimffonaaGreat.Lh
set_option maxRecDepth 100000
namespace Go.Proofs.YtnmomlaimffonaaGreat.Num
open Go.Lib
def isDig (c : UInt8) : Bool := decide (48 ≤ c.toNat) && decide (c.toNat ≤ 57)
theorem decDigits_step {u : Nat} (h : ¬ u < 10) : decDigits u = decDigits (u / 10) ++ [UInt8.ofNat (48 + u % 10)] := by rw [decDigits, dif_neg h]
def digs (k : Nat) : List UInt8 := if k = 0 then [] else decDigits k
theorem digs_step {k : Nat} (h : k ≠ 0) : digs k = digs (k / 10) ++ [UInt8.ofNat (48 + k % 10)] := by
  unfold digs
  rw [if_neg h]
  by_cases h10 : k < 10
  · rw [if_pos (by omega), decDigits_one h10, Nat.mod_eq_of_lt h10]; rfl
  · rw [if_neg (by omega), decDigits_step h10]
theorem digs_len (k : Nat) (h : k ≠ 0) : (digs k).length = nDigits k := by unfold digs; rw [if_neg h, decDigits_length]
end Go.Proofs.YtnmomlaimffonaaGreat.Num
set_option maxRecDepth 100000
namespace Go.Proofs.YtnmomlaimffonaaGreat.Lh
open Go.RowKit Go.Lib Go.Sort Com Mem Num
def mk (k : Nat) : List UInt8 := 109 :: decDigits k
theorem markText_any (k : Nat) (h0 : 0 < k) (h1 : k ≤ 9223372036854775807) (w : World) : Calls Tryz.prog 72 #[.int .i64 k] w fun e w' => e = .returned (sv (mk k)) ∧ Below w.heap.size w w' := by
  have hle : decide ((k : Int) ≤ 0) = false := decide_eq_false (by omega)
  go_enter Tryz.func72, Tryz.ntmps72
  go_wp2
  go_loopw [0, 3] (fun a o wr => ∃ (m : Nat) (l : List UInt8), m ≤ k ∧ a = .int .i64 m ∧ o = .string ⟨l.toArray⟩ ∧ digs m ++ l = digs k ∧ Below w.heap.size w wr) (fun a _ _ => (Go.RowKit.intOf a).toNat)
  case atStart => exact ⟨k, [], Nat.le_refl _, rfl, rfl, List.append_nil _, Below.refl _ _⟩
  case round =>
    obtain ⟨m, l, hm, rfl, rfl, hl, hb⟩ := hrel
    have hsz : l.length ≤ 20 := by
      have := congrArg List.length hl
      rw [List.length_append, digs_len k (by omega)] at this
      have := nDigits_le20 k (by omega)
      omega
    by_cases hk0 : m = 0
    · subst hk0
      have hlk : l = decDigits k := by simp only [digs, if_true, List.nil_append] at hl; rw [hl, if_neg (by omega)]
      subst hlk
      go_wp2
      go_ret
      exact ⟨congrArg Ending.returned (congrArg Value.string (ByteArray.mk_append_mk [109] _)), hb⟩
    · have hgt : decide (0 < (m : Int)) = true := decide_eq_true (by omega)
      have hcv := run_str1 wr (48 + (m : Int) % 10) (by omega) (by omega)
      have hst := hid (show digs (m / 10) ++ UInt8.ofNat (48 + m % 10) :: l = digs k by rw [← hl, digs_step hk0]; simp)
      clear hl
      go_wp2
      exact ⟨⟨m / 10, UInt8.ofNat (48 + m % 10) :: l, by omega, by go_num, str_cons _ _, hst.out, hb.alloc hb.size _⟩, by simp [Go.RowKit.intOf]; omega⟩
def marks (k n : Nat) : List Value := (List.range n).map fun i => sv (mk (k + i))
theorem marks_length (k n : Nat) : (marks k n).length = n := by simp [marks]
def half (k i : Nat) (xs : List Value) : List Value := marks k i ++ xs.drop i
theorem half_set (k i : Nat) (xs : List Value) (h : i < xs.length) : (half k i xs).set i (sv (mk (k + i))) = half k (i + 1) xs := by
  unfold half
  rw [List.set_append_right _ _ (by rw [marks_length]; exact Nat.le_refl _), marks_length, Nat.sub_self]
  have e : xs.drop i = xs[i] :: xs.drop (i + 1) := (List.getElem_cons_drop ..).symm
  rw [e, List.set_cons_zero]
  have e2 : marks k (i + 1) = marks k i ++ [sv (mk (k + i))] := by simp [marks, List.range_succ]
  rw [e2, List.append_assoc]; rfl
theorem half_at (k i : Nat) (xs : List Value) (h : i < xs.length) : (half k i xs)[i]? = some xs[i] := by
  unfold half
  rw [List.getElem?_append_right (by rw [marks_length]; exact Nat.le_refl _), marks_length, Nat.sub_self, List.getElem?_drop, Nat.add_zero, List.getElem?_eq_getElem h]
theorem markS_row (g c k n : Nat) (cs : List Value) (w : World) (h : Blk w g 9 cs) (hn : n ≤ cs.length) (h0 : 0 < k) (h1 : k + n ≤ 9223372036854775807) :
    Calls Tryz.prog 46 #[.slice (some ⟨g, 0, none⟩) n c, .int .i64 k] w fun e w' => e = .returned (.int .i64 ((k : Int) + (n : Int))) ∧ Blk w' g 9 (half k n cs) ∧ w.grownBy w' (some g) := by
  go_enter Tryz.func46, Tryz.ntmps46
  go_wp2_with fail
  go_loopw [1, 5] (fun a i wr => ∃ m : Nat, m ≤ n ∧ i = .int .i64 m ∧ a = .int .i64 ((k : Int) + (m : Int)) ∧ Blk wr g 9 (half k m cs) ∧ w.grownBy wr (some g)) (fun _ i _ => n - (Go.RowKit.intOf i).toNat)
  case atStart => exact ⟨0, Nat.zero_le _, rfl, by simp, by simpa [half, marks] using h, gb_refl _ _⟩
  case round =>
    obtain ⟨m, hm, rfl, rfl, hblk, hgb⟩ := hrel
    by_cases hlt : m < n
    · have hmt := hid (markText_any (k + m) (by omega) (by omega) wr)
      rw [Int.natCast_add] at hmt
      have hset := hid (half_set k m cs (by omega))
      have hat := half_at k m cs (by omega)
      generalize hu : cs[m]'(by omega) = u at hat
      have hc := hid (show ∀ w1, Below wr.heap.size wr w1 → w1.cell? ⟨g, m, none⟩ = some u ∧ w1.frozen? ⟨g, m, none⟩ = false ∧ Blk (w1.setCell ⟨g, m, none⟩ (sv (mk (k + m)))) g 9 (half k (m + 1) cs) from fun w1 hb => by
        have hb2 := hblk.below hb hblk.lt
        refine ⟨by rw [hb2.cell, hat], hb2.frozen m, by rw [← hset.out]; exact hb2.set_ _ _⟩)
      have hgb := hid hgb
      clear hblk hat hset h hu
      go_wp2_with fail
      refine hmt.out.mono ?_
      rintro e w1 ⟨rfl, hb⟩
      obtain ⟨c1, c2, c3⟩ := hc.out w1 hb
      have c3 := hid c3
      have hgb2 := hid (gb_set (gb_below hgb.out hb) m (sv (mk (k + m))))
      go_wp2_with fail
      exact ⟨⟨m + 1, hlt, by go_num, by go_num, c3.out, hgb2.out⟩, by simp [Go.RowKit.intOf]; omega⟩
    · obtain rfl : m = n := by omega
      go_wp2_with fail
      go_ret
      exact ⟨rfl, hblk, hgb⟩
end Go.Proofs.YtnmomlaimffonaaGreat.Lh
set_option maxRecDepth 100000
namespace Go.Proofs.YtnmomlaimffonaaGreat.Os
open Go.RowKit Go.Lib Com Mem Lh Ow
abbrev OwnS (lo hi : Nat) (w : World) (v : Value) (l : List (List UInt8)) : Prop := Own 9 lo hi w v (l.map sv)
theorem OwnS.read_ {lo hi : Nat} {w : World} {v : Value} {l : List (List UInt8)} (h : OwnS lo hi w v l) : ∃ A c, v = .slice A l.length c ∧ Rd w w.heap.size A (l.map sv) ∧ l.length ≤ c ∧ c ≤ maxLen ∧ (A = none → c = 0) ∧ ∀ ad, A = some ad → ad = ⟨ad.block, 0, none⟩ := by
  have := h.read
  rwa [List.length_map] at this
def Marked (lo hi : Nat) (w : World) (v : Value) (k n : Nat) : Prop := Own 9 lo hi w v (marks k n)
theorem calls_empty_mark (A : Option Addr) (c k : Nat) (w : World) :
    Calls Tryz.prog 46 #[.slice A 0 c, .int .i64 k] w fun e w' => e = .returned (.int .i64 k) ∧ w = w' := by
  go_enter Tryz.func46, Tryz.ntmps46
  go_wp2_with fail
  refine wp_loop_rounds 1 ?_; rw [rounds_succ]
  go_wp2_with fail
  go_ret
  exact ⟨rfl, rfl⟩
theorem markS_own {lo hi : Nat} {v : Value} {l : List (List UInt8)} (kI : Int) (w : World) (h : OwnS lo hi w v l) (h0 : 0 < kI) (h1 : kI + l.length ≤ 9223372036854775807) :
    Calls Tryz.prog 46 #[v, .int .i64 kI] w fun e w' => e = .returned (.int .i64 (kI + (l.length : Int))) ∧ Marked lo hi w' v kI.toNat l.length ∧ Chg w w' lo hi := by
  obtain ⟨k, rfl⟩ : ∃ k : Nat, kI = k := ⟨kI.toNat, by omega⟩
  rw [Int.toNat_natCast]
  obtain ⟨A, c, cs, rfl, hc, hm, hn, hs, ht⟩ := h
  rw [List.length_map] at hc ht
  rw [List.length_map]
  cases A with
  | none =>
    obtain ⟨h2, rfl⟩ := hn rfl
    obtain rfl : l = [] := by simpa using h2
    refine (calls_empty_mark none 0 k w).mono ?_
    rintro e w' ⟨rfl, rfl⟩
    exact ⟨by simp, ⟨none, 0, [], rfl, Nat.le_refl _, hm, fun _ => ⟨rfl, rfl⟩, (fun ad h => by cases h), rfl⟩, chg_refl _ _ _⟩
  | some ad =>
    obtain ⟨hz, hlo, hhi, hb⟩ := hs ad rfl
    generalize ad.block = g at *
    subst hz
    have hcl : l.length ≤ cs.length := by
      have := congrArg List.length ht
      rw [List.length_take, List.length_map] at this; omega
    refine (markS_row g c k l.length cs w hb hcl (by omega) (by omega)).mono ?_
    rintro e w' ⟨rfl, hb', hg⟩
    refine ⟨rfl, ⟨_, c, _, by rw [marks_length], by rw [marks_length]; exact hc, hm, (fun h => by cases h), (fun ad h => by cases h; exact ⟨rfl, hlo, hhi, hb'⟩), ?_⟩, chg_of_gb hg hlo hhi⟩
    rw [marks_length]; unfold half
    rw [List.take_append_of_le_length (by rw [marks_length]; exact Nat.le_refl _), List.take_of_length_le (by rw [marks_length]; exact Nat.le_refl _)]
theorem szL_len (l : List (List UInt8)) : l.length ≤ szL l := by unfold szL; omega
theorem szS_over (A : Option Addr) (c : Nat) (l : List (List UInt8)) (left : Int) (w : World) (h : Rd w w.heap.size A (l.map sv)) (hm : ∀ x ∈ l, x.length ≤ 9223372036854775807) (hl : l.length ≤ 9223372036854775807) (h0 : 0 ≤ left) (h1 : left ≤ 1048576) (h2 : left < szL l) :
    Calls Tryz.prog 40 #[.slice A l.length c, .int .i64 left] w fun e w' => e = .returned (.int .i64 (-1)) ∧ w = w' := by
  obtain ⟨k, rfl⟩ : ∃ k : Nat, left = k := ⟨left.toNat, by omega⟩
  refine (szS_any A c l k w h hm hl (by omega)).mono fun e w' h => ⟨h.1.trans ?_, h.2⟩
  unfold szAns; rw [if_neg (by omega)]
theorem szS_fit (A : Option Addr) (c : Nat) (l : List (List UInt8)) (left : Int) (w : World) (h : Rd w w.heap.size A (l.map sv)) (hm : ∀ x ∈ l, x.length ≤ 9223372036854775807) (hl : l.length ≤ 9223372036854775807) (h0 : 0 ≤ left) (h1 : left ≤ 1048576) (h2 : szL l ≤ left) :
    Calls Tryz.prog 40 #[.slice A l.length c, .int .i64 left] w fun e w' => e = .returned (.int .i64 (left - (szL l : Int))) ∧ w = w' := by
  obtain ⟨k, rfl⟩ : ∃ k : Nat, left = k := ⟨left.toNat, by omega⟩
  refine (szS_any A c l k w h hm hl (by omega)).mono fun e w' h => ⟨h.1.trans ?_, h.2⟩
  unfold szAns; rw [if_pos (by omega)]
theorem toS_own (A : Option Addr) (c : Nat) (l : List (List UInt8)) (w w1 : World) (h : Rd w w.heap.size A (l.map sv)) (hl : l.length ≤ 1048576) (hb : Below w.heap.size w w1) :
    Calls Tryz.prog 42 #[.slice A l.length c] w1 fun e w' => e = .returned (.slice (some ⟨w1.heap.size, 0, none⟩) l.length l.length) ∧ OwnS w1.heap.size w'.heap.size w' (.slice (some ⟨w1.heap.size, 0, none⟩) l.length l.length) l ∧ Below w1.heap.size w1 w' :=
  (toS_any A c l w1 ((h.below hb).more hb.size) hl).mono fun _ _ ⟨he, hb1, hb2⟩ => ⟨he, by have := Own.of_blk hb1 (Nat.le_refl _) (by rw [List.length_map]; unfold maxLen; omega); rwa [List.length_map] at this, hb2⟩
end Go.Proofs.YtnmomlaimffonaaGreat.Os
set_option maxRecDepth 100000
namespace Go.Proofs.YtnmomlaimffonaaGreat.Ch
open Go.RowKit Go.Lib Num Com
def isLow (c : UInt8) : Bool := decide (97 ≤ c.toNat) && decide (c.toNat ≤ 122)
theorem digit_any (c : UInt8) (w : World) : Calls Tryz.prog 119 #[.int .u8 c.toNat] w fun e w' => e = .returned (.bool (isDig c)) ∧ w = w' := by
  by_cases h1 : 48 ≤ c.toNat
  · by_cases h2 : c.toNat ≤ 57
    · have t1 : decide ((48 : Int) ≤ (c.toNat : Int)) = true := decide_eq_true (by omega)
      have t2 : decide ((c.toNat : Int) ≤ 57) = true := decide_eq_true (by omega)
      have hf := hid (show isDig c = true by simp [isDig]; omega)
      go_enter Tryz.func119, Tryz.ntmps119
      go_wp2_with fail
      go_ret
      exact ⟨by rw [hf.out]; rfl, rfl⟩
    · have t1 : decide ((48 : Int) ≤ (c.toNat : Int)) = true := decide_eq_true (by omega)
      have t2 : decide ((c.toNat : Int) ≤ 57) = false := decide_eq_false (by omega)
      have hf := hid (show isDig c = false by simp [isDig]; omega)
      go_enter Tryz.func119, Tryz.ntmps119
      go_wp2_with fail
      go_ret
      exact ⟨by rw [hf.out]; rfl, rfl⟩
  · have t1 : decide ((48 : Int) ≤ (c.toNat : Int)) = false := decide_eq_false (by omega)
    have hf := hid (show isDig c = false by simp [isDig]; omega)
    go_enter Tryz.func119, Tryz.ntmps119
    go_wp2_with fail
    go_ret
    exact ⟨by rw [hf.out]; rfl, rfl⟩
theorem lower_any (c : UInt8) (w : World) : Calls Tryz.prog 118 #[.int .u8 c.toNat] w fun e w' => e = .returned (.bool (isLow c)) ∧ w = w' := by
  by_cases h1 : 97 ≤ c.toNat
  · by_cases h2 : c.toNat ≤ 122
    · have t1 : decide ((97 : Int) ≤ (c.toNat : Int)) = true := decide_eq_true (by omega)
      have t2 : decide ((c.toNat : Int) ≤ 122) = true := decide_eq_true (by omega)
      have hf := hid (show isLow c = true by simp [isLow]; omega)
      go_enter Tryz.func118, Tryz.ntmps118
      go_wp2_with fail
      go_ret
      exact ⟨by rw [hf.out]; rfl, rfl⟩
    · have t1 : decide ((97 : Int) ≤ (c.toNat : Int)) = true := decide_eq_true (by omega)
      have t2 : decide ((c.toNat : Int) ≤ 122) = false := decide_eq_false (by omega)
      have hf := hid (show isLow c = false by simp [isLow]; omega)
      go_enter Tryz.func118, Tryz.ntmps118
      go_wp2_with fail
      go_ret
      exact ⟨by rw [hf.out]; rfl, rfl⟩
  · have t1 : decide ((97 : Int) ≤ (c.toNat : Int)) = false := decide_eq_false (by omega)
    have hf := hid (show isLow c = false by simp [isLow]; omega)
    go_enter Tryz.func118, Tryz.ntmps118
    go_wp2_with fail
    go_ret
    exact ⟨by rw [hf.out]; rfl, rfl⟩
end Go.Proofs.YtnmomlaimffonaaGreat.Ch
