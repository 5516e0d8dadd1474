/- The laws' own helpers on lists of strings. -/
import Derived.Test.YtjglllpemhkkdaaGreatDoorZCom
import Derived.Lib.ItoaNum
import Derived.Lib.ItoaLen
import Derived.Lib.QuietBelow
set_option maxRecDepth 100000
namespace Go.Proofs.YtjglllpemhkkdaaGreatDoor.Lh
open Go.RowKit Go.Lib Com Mem

def szL (l : List (List UInt8)) : Nat := l.length + (l.map List.length).sum
def szAns (tot : Nat) (left : Int) : Int := if (tot : Int) ≤ left then left - tot else -1

theorem rd_str {w : World} {B : Nat} {A : Option Addr} {l : List (List UInt8)} (h : Rd w B A (l.map sv)) {k : Nat} (hk : k < l.length) : ∃ ad, A = some ad ∧ ad.block < B ∧ w.cell? (ad.add k) = some (.string ⟨(l[k]).toArray⟩) := by
  obtain ⟨ad, e, hb, hc⟩ := h.at_ (k := k) (by simpa using hk)
  exact ⟨ad, e, hb, by rw [hc]; simp⟩

theorem rd_at {w : World} {B : Nat} {ad : Addr} {l : List (List UInt8)} (h : Rd w B (some ad) (l.map sv)) {k : Nat} (hk : k < l.length) : w.cell? (ad.add k) = some (.string ⟨(l[k]).toArray⟩) := by
  obtain ⟨ad', e, _, hc⟩ := rd_str h hk
  cases e; exact hc

set_option maxHeartbeats 400000 in
theorem eqS_any (A1 A2 : Option Addr) (c1 c2 : Nat) (l : List (List UInt8)) (w : World) (h1 : Rd w w.heap.size A1 (l.map sv)) (h2 : Rd w w.heap.size A2 (l.map sv)) (hl : l.length ≤ 9223372036854775807) :
    Calls Tryz.prog 31 #[.slice A1 l.length c1, .slice A2 l.length c2] w fun e w' => e = .returned (.bool true) ∧ Below w.heap.size w w' := by
  go_enter Tryz.func31, Tryz.ntmps31
  go_wp2_with fail
  go_loopw [5] (fun i wr => ∃ k : Nat, k ≤ l.length ∧ i = .int .i64 k ∧ Below w.heap.size w wr) (fun i _ => l.length - (Go.RowKit.intOf i).toNat)
  case atStart => exact ⟨0, Nat.zero_le _, rfl, Below.refl _ _⟩
  case round =>
    obtain ⟨k, hk, rfl, hb⟩ := hrel
    by_cases hlt : k < l.length
    · obtain ⟨ad1, rfl, _, hc1⟩ := rd_str (h1.below hb) hlt
      obtain ⟨ad2, rfl, _, hc2⟩ := rd_str (h2.below hb) hlt
      go_wp2_with fail
      go_quiet (fail)
      go_wp2_with fail
      exact ⟨⟨k + 1, hlt, by go_num, bdr hb nq⟩, by simp [Go.RowKit.intOf]; omega⟩
    · obtain rfl : k = l.length := by omega
      go_wp2_with fail
      go_ret
      exact ⟨rfl, hb⟩
end Go.Proofs.YtjglllpemhkkdaaGreatDoor.Lh

/- Numbers and their decimal texts: plain mathematics, no program. -/
set_option maxRecDepth 100000
namespace Go.Proofs.YtjglllpemhkkdaaGreatDoor.Num
open Go.Lib

def isDig (c : UInt8) : Bool := decide (48 ≤ c.toNat) && decide (c.toNat ≤ 57)
def rdFrom (n : Nat) (l : List UInt8) : Nat := l.foldl (fun n c => 10 * n + (c.toNat - 48)) n
def rd (l : List UInt8) : Nat := rdFrom 0 l

theorem isDig_bounds {c : UInt8} (h : isDig c = true) : 48 ≤ c.toNat ∧ c.toNat ≤ 57 := by simpa [isDig] using h
theorem isDig_mk {c : UInt8} (h1 : 48 ≤ c.toNat) (h2 : c.toNat ≤ 57) : isDig c = true := by simp [isDig, h1, h2]

theorem decDigits_step {u : Nat} (h : ¬ u < 10) : decDigits u = decDigits (u / 10) ++ [UInt8.ofNat (48 + u % 10)] := by rw [decDigits, dif_neg h]

def plain (l : List UInt8) : Bool := l.all isDig && !l.isEmpty && (decide (l.length ≤ 1) || !(l.head? == some 48))

def digs (k : Nat) : List UInt8 := if k = 0 then [] else decDigits k
theorem digs_step {k : Nat} (h : k ≠ 0) : digs k = digs (k / 10) ++ [UInt8.ofNat (48 + k % 10)] := by
  unfold digs
  rw [if_neg h]
  by_cases h10 : k < 10
  · rw [if_pos (by omega), decDigits_one h10, Nat.mod_eq_of_lt h10]; rfl
  · rw [if_neg (by omega), decDigits_step h10]

theorem digs_len (k : Nat) (h : k ≠ 0) : (digs k).length = nDigits k := by unfold digs; rw [if_neg h, decDigits_length]
def numOf (l : List UInt8) (most : Nat) : Option Nat := if plain l = true ∧ l.length ≤ most then some (rd l) else none
def intOf (l : List UInt8) (most : Nat) : Option Int :=
  match l with
  | 45 :: t => if plain t = true ∧ t.length ≤ most ∧ t ≠ [48] then some (-(rd t : Int)) else none
  | t => (numOf t most).map Int.ofNat

theorem itoa_size (n : Int) (h0 : -9223372036854775808 ≤ n) (h1 : n ≤ 9223372036854775807) : (itoa n).length ≤ 21 := itoa_length_le n h0 h1
end Go.Proofs.YtjglllpemhkkdaaGreatDoor.Num

/- The laws' own marks on a list of strings: markText, markStringS, heldStringS. -/
set_option maxRecDepth 100000
namespace Go.Proofs.YtjglllpemhkkdaaGreatDoor.Lh
open Go.RowKit Go.Lib Go.Sort Com Mem Num

def mk (k : Nat) : List UInt8 := 109 :: decDigits k

set_option maxHeartbeats 400000 in
theorem markText_any (k : Nat) (h0 : 0 < k) (h1 : k ≤ 9223372036854775807) (w : World) : Calls Tryz.prog 84 #[.int .i64 k] w fun e w' => e = .returned (sv (mk k)) ∧ Below w.heap.size w w' := by
  have hle : decide ((k : Int) ≤ 0) = false := decide_eq_false (by omega)
  go_enter Tryz.func84, Tryz.ntmps84
  go_wp2
  go_loopw [0, 3] (fun a o wr => ∃ (m : Nat) (l : List UInt8), m ≤ k ∧ a = .int .i64 m ∧ o = .string ⟨l.toArray⟩ ∧ digs m ++ l = digs k ∧ Below w.heap.size w wr) (fun a _ _ => (Go.RowKit.intOf a).toNat)
  case atStart => exact ⟨k, [], Nat.le_refl _, rfl, rfl, List.append_nil _, Below.refl _ _⟩
  case round =>
    obtain ⟨m, l, hm, rfl, rfl, hl, hb⟩ := hrel
    have hsz : l.length ≤ 20 := by
      have := congrArg List.length hl
      rw [List.length_append, digs_len k (by omega)] at this
      have := nDigits_le20 k (by omega)
      omega
    by_cases hk0 : m = 0
    · subst hk0
      have hlk : l = decDigits k := by simp only [digs, if_true, List.nil_append] at hl; rw [hl, if_neg (by omega)]
      subst hlk
      go_wp2
      go_ret
      exact ⟨congrArg Ending.returned (congrArg Value.string (ByteArray.mk_append_mk [109] _)), hb⟩
    · have hgt : decide (0 < (m : Int)) = true := decide_eq_true (by omega)
      have hcv := run_str1 wr (48 + (m : Int) % 10) (by omega) (by omega)
      have hst := hid (show digs (m / 10) ++ UInt8.ofNat (48 + m % 10) :: l = digs k by rw [← hl, digs_step hk0]; simp)
      clear hl
      go_wp2
      exact ⟨⟨m / 10, UInt8.ofNat (48 + m % 10) :: l, by omega, by go_num, str_cons _ _, hst.out, hb.alloc hb.size _⟩, by simp [Go.RowKit.intOf]; omega⟩

def marks (k n : Nat) : List Value := (List.range n).map fun i => sv (mk (k + i))
theorem marks_length (k n : Nat) : (marks k n).length = n := by simp [marks]
theorem marks_at (k n i : Nat) (h : i < n) : (marks k n)[i]'(by rw [marks_length]; exact h) = sv (mk (k + i)) := by simp [marks]

def half (k i : Nat) (xs : List Value) : List Value := marks k i ++ xs.drop i
theorem half_set (k i : Nat) (xs : List Value) (h : i < xs.length) : (half k i xs).set i (sv (mk (k + i))) = half k (i + 1) xs := by
  unfold half
  rw [List.set_append_right _ _ (by rw [marks_length]; exact Nat.le_refl _), marks_length, Nat.sub_self]
  have e : xs.drop i = xs[i] :: xs.drop (i + 1) := (List.getElem_cons_drop ..).symm
  rw [e, List.set_cons_zero]
  have e2 : marks k (i + 1) = marks k i ++ [sv (mk (k + i))] := by simp [marks, List.range_succ]
  rw [e2, List.append_assoc]; rfl
theorem half_at (k i : Nat) (xs : List Value) (h : i < xs.length) : (half k i xs)[i]? = some xs[i] := by
  unfold half
  rw [List.getElem?_append_right (by rw [marks_length]; exact Nat.le_refl _), marks_length, Nat.sub_self, List.getElem?_drop, Nat.add_zero, List.getElem?_eq_getElem h]
set_option maxHeartbeats 1000000 in
theorem markS_row (g c k n : Nat) (cs : List Value) (w : World) (h : Blk w g 9 cs) (hn : n ≤ cs.length) (h0 : 0 < k) (h1 : k + n ≤ 9223372036854775807) :
    Calls Tryz.prog 34 #[.slice (some ⟨g, 0, none⟩) n c, .int .i64 k] w fun e w' => e = .returned (.int .i64 ((k : Int) + (n : Int))) ∧ Blk w' g 9 (half k n cs) ∧ w.grownBy w' (some g) := by
  go_enter Tryz.func34, Tryz.ntmps34
  go_wp2_with fail
  go_loopw [1, 5] (fun a i wr => ∃ m : Nat, m ≤ n ∧ i = .int .i64 m ∧ a = .int .i64 ((k : Int) + (m : Int)) ∧ Blk wr g 9 (half k m cs) ∧ w.grownBy wr (some g)) (fun _ i _ => n - (Go.RowKit.intOf i).toNat)
  case atStart => exact ⟨0, Nat.zero_le _, rfl, by simp, by simpa [half, marks] using h, gb_refl _ _⟩
  case round =>
    obtain ⟨m, hm, rfl, rfl, hblk, hgb⟩ := hrel
    by_cases hlt : m < n
    · have hmt := hid (markText_any (k + m) (by omega) (by omega) wr)
      rw [Int.natCast_add] at hmt
      have hset := hid (half_set k m cs (by omega))
      have hat := half_at k m cs (by omega)
      generalize hu : cs[m]'(by omega) = u at hat
      have hc := hid (show ∀ w1, Below wr.heap.size wr w1 → w1.cell? ⟨g, m, none⟩ = some u ∧ w1.frozen? ⟨g, m, none⟩ = false ∧ Blk (w1.setCell ⟨g, m, none⟩ (sv (mk (k + m)))) g 9 (half k (m + 1) cs) from fun w1 hb => by
        have hb2 := hblk.below hb hblk.lt
        refine ⟨by rw [hb2.cell, hat], hb2.frozen m, by rw [← hset.out]; exact hb2.set_ _ _⟩)
      have hgb := hid hgb
      clear hblk hat hset h hu
      go_wp2_with fail
      refine hmt.out.mono ?_
      rintro e w1 ⟨rfl, hb⟩
      obtain ⟨c1, c2, c3⟩ := hc.out w1 hb
      have c3 := hid c3
      have hgb2 := hid (gb_set (gb_below hgb.out hb) m (sv (mk (k + m))))
      go_wp2_with fail
      exact ⟨⟨m + 1, hlt, by go_num, by go_num, c3.out, hgb2.out⟩, by simp [Go.RowKit.intOf]; omega⟩
    · obtain rfl : m = n := by omega
      go_wp2_with fail
      go_ret
      exact ⟨rfl, hblk, hgb⟩
set_option maxHeartbeats 1000000 in
theorem heldS_row (g c k n : Nat) (cs : List Value) (w : World) (h : Blk w g 9 (half k n cs)) (h0 : 0 < k) (h1 : k + n ≤ 9223372036854775807) :
    Calls Tryz.prog 35 #[.slice (some ⟨g, 0, none⟩) n c, .int .i64 k] w fun e w' => e = .returned (.int .i64 ((k : Int) + (n : Int))) ∧ Below w.heap.size w w' := by
  go_enter Tryz.func35, Tryz.ntmps35
  go_wp2_with fail
  go_loopw [1, 5] (fun a i wr => ∃ m : Nat, m ≤ n ∧ i = .int .i64 m ∧ a = .int .i64 ((k : Int) + (m : Int)) ∧ Below w.heap.size w wr) (fun _ i _ => n - (Go.RowKit.intOf i).toNat)
  case atStart => exact ⟨0, Nat.zero_le _, rfl, by simp, Below.refl _ _⟩
  case round =>
    obtain ⟨m, hm, rfl, rfl, hb⟩ := hrel
    by_cases hlt : m < n
    · have c0 : wr.cell? ⟨g, m, none⟩ = some (sv (mk (k + m))) := by
        rw [(h.below hb h.lt).cell]; unfold half; rw [List.getElem?_append_left (by rw [marks_length]; exact hlt), List.getElem?_eq_getElem (by rw [marks_length]; exact hlt), marks_at _ _ _ hlt]
      have k0 := cell_regrown c0
      have cM : ∀ d os, Calls Tryz.prog 84 #[.int .i64 ((k : Int) + (m : Int))] (grow (redrawn wr d) os) fun e w'' => e = .returned (sv (mk (k + m))) ∧ ∃ p : Regrown, w'' = grow (redrawn wr p.d) p.os := fun d os => by
        have := markText_any (k + m) (by omega) (by omega) (grow (redrawn wr d) os)
        rw [Int.natCast_add] at this
        exact Calls.regrown_of this
      have hcmp : (mk (k + m) == mk (k + m)) = true := beq_self_eq_true _
      have cM := hid cM
      have hb := hid hb
      clear h c0
      go_wp2_with fail
      refine wp_region_quiet_below (by kernel_rfl) (by kernel_rfl) ?_
      repeat (quiet_step (exact cM.out _ _))
      refine wpQuiet_nil ?_
      intro _ hw'
      obtain ⟨⟨dq, osq⟩, hw''⟩ := hw'
      subst hw''
      have hq := hid (hb.out.trans ((below_regrown wr dq osq).mono hb.out.size))
      clear k0 cM hb
      generalize grow (redrawn wr dq) osq = wq at *
      go_wp2_with fail
      exact ⟨⟨m + 1, hlt, by go_num, by go_num, hq.out⟩, by simp [Go.RowKit.intOf]; omega⟩
    · obtain rfl : m = n := by omega
      go_wp2_with fail
      go_ret
      exact ⟨rfl, hb⟩

end Go.Proofs.YtjglllpemhkkdaaGreatDoor.Lh

/- Slices of strings of the call's own as the laws handle them: compared, marked, looked at again. -/
set_option maxRecDepth 100000
namespace Go.Proofs.YtjglllpemhkkdaaGreatDoor.Os
open Go.RowKit Go.Lib Com Mem Lh Ow

abbrev OwnS (lo hi : Nat) (w : World) (v : Value) (l : List (List UInt8)) : Prop := Own 9 lo hi w v (l.map sv)

theorem OwnS.read_ {lo hi : Nat} {w : World} {v : Value} {l : List (List UInt8)} (h : OwnS lo hi w v l) : ∃ A c, v = .slice A l.length c ∧ Rd w w.heap.size A (l.map sv) ∧ l.length ≤ c ∧ c ≤ maxLen ∧ (A = none → c = 0) ∧ ∀ ad, A = some ad → ad = ⟨ad.block, 0, none⟩ := by
  have := h.read
  rwa [List.length_map] at this

theorem eqS_own {lo1 lo2 hi1 hi2 : Nat} {v1 v2 : Value} {l : List (List UInt8)} (w : World) (h1 : OwnS lo1 hi1 w v1 l) (h2 : OwnS lo2 hi2 w v2 l) :
    Calls Tryz.prog 31 #[v1, v2] w fun e w' => e = .returned (.bool true) ∧ Below w.heap.size w w' := by
  obtain ⟨A1, c1, rfl, hr1, hc1, hm1, _⟩ := h1.read_
  obtain ⟨A2, c2, rfl, hr2, _⟩ := h2.read_
  exact eqS_any A1 A2 c1 c2 l w hr1 hr2 (by unfold maxLen at hm1; omega)

def Marked (lo hi : Nat) (w : World) (v : Value) (k n : Nat) : Prop := Own 9 lo hi w v (marks k n)

theorem calls_empty_mark (A : Option Addr) (c k : Nat) (w : World) :
    Calls Tryz.prog 34 #[.slice A 0 c, .int .i64 k] w fun e w' => e = .returned (.int .i64 k) ∧ w = w' := by
  go_enter Tryz.func34, Tryz.ntmps34
  go_wp2_with fail
  refine wp_loop_rounds 1 ?_; rw [rounds_succ]
  go_wp2_with fail
  go_ret
  exact ⟨rfl, rfl⟩
theorem markS_own {lo hi : Nat} {v : Value} {l : List (List UInt8)} (kI : Int) (w : World) (h : OwnS lo hi w v l) (h0 : 0 < kI) (h1 : kI + l.length ≤ 9223372036854775807) :
    Calls Tryz.prog 34 #[v, .int .i64 kI] w fun e w' => e = .returned (.int .i64 (kI + (l.length : Int))) ∧ Marked lo hi w' v kI.toNat l.length ∧ Chg w w' lo hi := by
  obtain ⟨k, rfl⟩ : ∃ k : Nat, kI = k := ⟨kI.toNat, by omega⟩
  rw [Int.toNat_natCast]
  obtain ⟨A, c, cs, rfl, hc, hm, hn, hs, ht⟩ := h
  rw [List.length_map] at hc ht
  rw [List.length_map]
  cases A with
  | none =>
    obtain ⟨h2, rfl⟩ := hn rfl
    obtain rfl : l = [] := by simpa using h2
    refine (calls_empty_mark none 0 k w).mono ?_
    rintro e w' ⟨rfl, rfl⟩
    exact ⟨by simp, ⟨none, 0, [], rfl, Nat.le_refl _, hm, fun _ => ⟨rfl, rfl⟩, (fun ad h => by cases h), rfl⟩, chg_refl _ _ _⟩
  | some ad =>
    obtain ⟨hz, hlo, hhi, hb⟩ := hs ad rfl
    generalize ad.block = g at *
    subst hz
    have hcl : l.length ≤ cs.length := by
      have := congrArg List.length ht
      rw [List.length_take, List.length_map] at this; omega
    refine (markS_row g c k l.length cs w hb hcl (by omega) (by omega)).mono ?_
    rintro e w' ⟨rfl, hb', hg⟩
    refine ⟨rfl, ⟨_, c, _, by rw [marks_length], by rw [marks_length]; exact hc, hm, (fun h => by cases h), (fun ad h => by cases h; exact ⟨rfl, hlo, hhi, hb'⟩), ?_⟩, chg_of_gb hg hlo hhi⟩
    rw [marks_length]; unfold half
    rw [List.take_append_of_le_length (by rw [marks_length]; exact Nat.le_refl _), List.take_of_length_le (by rw [marks_length]; exact Nat.le_refl _)]
theorem calls_empty_held (A : Option Addr) (c k : Nat) (w : World) :
    Calls Tryz.prog 35 #[.slice A 0 c, .int .i64 k] w fun e w' => e = .returned (.int .i64 k) ∧ w = w' := by
  go_enter Tryz.func35, Tryz.ntmps35
  go_wp2_with fail
  refine wp_loop_rounds 1 ?_; rw [rounds_succ]
  go_wp2_with fail
  go_ret
  exact ⟨rfl, rfl⟩
theorem heldS_own {lo hi n : Nat} {v : Value} (kI : Int) (w : World) (h : Marked lo hi w v kI.toNat n) (h0 : 0 < kI) (h1 : kI + n ≤ 9223372036854775807) :
    Calls Tryz.prog 35 #[v, .int .i64 kI] w fun e w' => e = .returned (.int .i64 (kI + (n : Int))) ∧ Below w.heap.size w w' := by
  obtain ⟨k, rfl⟩ : ∃ k : Nat, kI = k := ⟨kI.toNat, by omega⟩
  rw [Int.toNat_natCast] at h
  obtain ⟨A, c, cs, rfl, hc, hm, hn, hs, ht⟩ := h
  rw [marks_length] at hc ht
  rw [marks_length]
  cases A with
  | none =>
    obtain ⟨h2, rfl⟩ := hn rfl
    have : n = 0 := by have := congrArg List.length h2; rwa [marks_length] at this
    subst this
    refine (calls_empty_held none 0 k w).mono ?_
    rintro e w' ⟨rfl, rfl⟩
    exact ⟨by simp, Below.refl _ _⟩
  | some ad =>
    obtain ⟨hz, hlo, _, hb⟩ := hs ad rfl
    generalize ad.block = g at *
    subst hz
    have e : cs = half k n cs := by
      unfold half
      conv => lhs; rw [← List.take_append_drop n cs, ht]
    rw [e] at hb
    exact heldS_row g c k n cs w hb (by omega) (by omega)
end Go.Proofs.YtjglllpemhkkdaaGreatDoor.Os

/- The program's classes of bytes. -/
set_option maxRecDepth 100000
namespace Go.Proofs.YtjglllpemhkkdaaGreatDoor.Ch
open Go.RowKit Go.Lib Num Com

def isLow (c : UInt8) : Bool := decide (97 ≤ c.toNat) && decide (c.toNat ≤ 122)

set_option maxHeartbeats 400000 in
theorem digit_any (c : UInt8) (w : World) : Calls Tryz.prog 240 #[.int .u8 c.toNat] w fun e w' => e = .returned (.bool (isDig c)) ∧ w = w' := by
  by_cases h1 : 48 ≤ c.toNat
  · by_cases h2 : c.toNat ≤ 57
    · have t1 : decide ((48 : Int) ≤ (c.toNat : Int)) = true := decide_eq_true (by omega)
      have t2 : decide ((c.toNat : Int) ≤ 57) = true := decide_eq_true (by omega)
      have hf := hid (show isDig c = true by simp [isDig]; omega)
      go_enter Tryz.func240, Tryz.ntmps240
      go_wp2_with fail
      go_ret
      exact ⟨by rw [hf.out]; rfl, rfl⟩
    · have t1 : decide ((48 : Int) ≤ (c.toNat : Int)) = true := decide_eq_true (by omega)
      have t2 : decide ((c.toNat : Int) ≤ 57) = false := decide_eq_false (by omega)
      have hf := hid (show isDig c = false by simp [isDig]; omega)
      go_enter Tryz.func240, Tryz.ntmps240
      go_wp2_with fail
      go_ret
      exact ⟨by rw [hf.out]; rfl, rfl⟩
  · have t1 : decide ((48 : Int) ≤ (c.toNat : Int)) = false := decide_eq_false (by omega)
    have hf := hid (show isDig c = false by simp [isDig]; omega)
    go_enter Tryz.func240, Tryz.ntmps240
    go_wp2_with fail
    go_ret
    exact ⟨by rw [hf.out]; rfl, rfl⟩
set_option maxHeartbeats 400000 in
theorem lower_any (c : UInt8) (w : World) : Calls Tryz.prog 239 #[.int .u8 c.toNat] w fun e w' => e = .returned (.bool (isLow c)) ∧ w = w' := by
  by_cases h1 : 97 ≤ c.toNat
  · by_cases h2 : c.toNat ≤ 122
    · have t1 : decide ((97 : Int) ≤ (c.toNat : Int)) = true := decide_eq_true (by omega)
      have t2 : decide ((c.toNat : Int) ≤ 122) = true := decide_eq_true (by omega)
      have hf := hid (show isLow c = true by simp [isLow]; omega)
      go_enter Tryz.func239, Tryz.ntmps239
      go_wp2_with fail
      go_ret
      exact ⟨by rw [hf.out]; rfl, rfl⟩
    · have t1 : decide ((97 : Int) ≤ (c.toNat : Int)) = true := decide_eq_true (by omega)
      have t2 : decide ((c.toNat : Int) ≤ 122) = false := decide_eq_false (by omega)
      have hf := hid (show isLow c = false by simp [isLow]; omega)
      go_enter Tryz.func239, Tryz.ntmps239
      go_wp2_with fail
      go_ret
      exact ⟨by rw [hf.out]; rfl, rfl⟩
  · have t1 : decide ((97 : Int) ≤ (c.toNat : Int)) = false := decide_eq_false (by omega)
    have hf := hid (show isLow c = false by simp [isLow]; omega)
    go_enter Tryz.func239, Tryz.ntmps239
    go_wp2_with fail
    go_ret
    exact ⟨by rw [hf.out]; rfl, rfl⟩
end Go.Proofs.YtjglllpemhkkdaaGreatDoor.Ch
