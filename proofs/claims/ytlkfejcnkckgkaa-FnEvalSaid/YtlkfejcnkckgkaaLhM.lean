/- The laws' own marks on a list of strings: markText, markStringS, heldStringS. -/
import Derived.Test.YtlkfejcnkckgkaaLhS
import Derived.Test.YtlkfejcnkckgkaaNum
import Derived.Lib.QuietBelow
set_option maxRecDepth 100000
namespace Go.Proofs.Ytlkfejcnkckgkaa.Lh
open Go.RowKit Go.Lib Go.Sort Go.Proofs.Ytlkfejcnkckgkaa.Com Go.Proofs.Ytlkfejcnkckgkaa.Mem Go.Proofs.Ytlkfejcnkckgkaa.Num

/-- the mark of k -/
def mk (k : Nat) : List UInt8 := 109 :: decDigits k

set_option maxHeartbeats 400000 in
theorem markText_any (k : Nat) (h0 : 0 < k) (h1 : k ≤ 9223372036854775807) (w : World) : Calls Try.prog 62 #[.int .i64 k] w fun e w' => e = .returned (sv (mk k)) ∧ Below w.heap.size w w' := by
  have hle : decide ((k : Int) ≤ 0) = false := decide_eq_false (by omega)
  go_enter Try.func62, Try.ntmps62
  go_wp2
  go_loopw [0, 3] (fun a o wr => ∃ (m : Nat) (l : List UInt8), m ≤ k ∧ a = .int .i64 m ∧ o = .string ⟨l.toArray⟩ ∧ digs m ++ l = digs k ∧ Below w.heap.size w wr) (fun a _ _ => (Go.RowKit.intOf a).toNat)
  case atStart => exact ⟨k, [], Nat.le_refl _, rfl, rfl, List.append_nil _, Below.refl _ _⟩
  case round =>
    obtain ⟨m, l, hm, rfl, rfl, hl, hb⟩ := hrel
    have hsz : l.length ≤ 20 := by
      have := congrArg List.length hl
      rw [List.length_append, digs_len k (by omega)] at this
      have := nDigits_le20 k (by omega)
      omega
    by_cases hk0 : m = 0
    · subst hk0
      have hlk : l = decDigits k := by simp only [digs, if_true, List.nil_append] at hl; rw [hl, if_neg (by omega)]
      subst hlk
      go_wp2
      go_ret
      exact ⟨congrArg Ending.returned (congrArg Value.string (ByteArray.mk_append_mk [109] _)), hb⟩
    · have hgt : decide (0 < (m : Int)) = true := decide_eq_true (by omega)
      have hcv := run_str1 wr (48 + (m : Int) % 10) (by omega) (by omega)
      have hst := hid (show digs (m / 10) ++ UInt8.ofNat (48 + m % 10) :: l = digs k by rw [← hl, digs_step hk0]; simp)
      clear hl
      go_wp2
      exact ⟨⟨m / 10, UInt8.ofNat (48 + m % 10) :: l, by omega, by go_num, str_cons _ _, hst.out, hb.alloc hb.size _⟩, by simp [Go.RowKit.intOf]; omega⟩

/-- n marks from k on -/
def marks (k n : Nat) : List Value := (List.range n).map fun i => sv (mk (k + i))
theorem marks_length (k n : Nat) : (marks k n).length = n := by simp [marks]
theorem marks_at (k n i : Nat) (h : i < n) : (marks k n)[i]'(by rw [marks_length]; exact h) = sv (mk (k + i)) := by simp [marks]

/-- the first i places hold marks, the others what they held -/
def half (k i : Nat) (xs : List Value) : List Value := marks k i ++ xs.drop i
theorem half_set (k i : Nat) (xs : List Value) (h : i < xs.length) : (half k i xs).set i (sv (mk (k + i))) = half k (i + 1) xs := by
  unfold half
  rw [List.set_append_right _ _ (by rw [marks_length]; exact Nat.le_refl _), marks_length, Nat.sub_self]
  have e : xs.drop i = xs[i] :: xs.drop (i + 1) := (List.getElem_cons_drop ..).symm
  rw [e, List.set_cons_zero]
  have e2 : marks k (i + 1) = marks k i ++ [sv (mk (k + i))] := by simp [marks, List.range_succ]
  rw [e2, List.append_assoc]; rfl
theorem half_at (k i : Nat) (xs : List Value) (h : i < xs.length) : (half k i xs)[i]? = some xs[i] := by
  unfold half
  rw [List.getElem?_append_right (by rw [marks_length]; exact Nat.le_refl _), marks_length, Nat.sub_self, List.getElem?_drop, Nat.add_zero, List.getElem?_eq_getElem h]
theorem half_all (k : Nat) (xs : List Value) : half k xs.length xs = marks k xs.length := by simp [half]

set_option maxHeartbeats 1000000 in
/-- the first n cells of a row are marked; those behind them stay -/
theorem markS_row (g c k n : Nat) (cs : List Value) (w : World) (h : Blk w g 9 cs) (hn : n ≤ cs.length) (h0 : 0 < k) (h1 : k + n ≤ 9223372036854775807) :
    Calls Try.prog 35 #[.slice (some ⟨g, 0, none⟩) n c, .int .i64 k] w fun e w' => e = .returned (.int .i64 ((k : Int) + (n : Int))) ∧ Blk w' g 9 (half k n cs) ∧ w.grownBy w' (some g) := by
  go_enter Try.func35, Try.ntmps35
  go_wp2_with fail
  go_loopw [1, 5] (fun a i wr => ∃ m : Nat, m ≤ n ∧ i = .int .i64 m ∧ a = .int .i64 ((k : Int) + (m : Int)) ∧ Blk wr g 9 (half k m cs) ∧ w.grownBy wr (some g)) (fun _ i _ => n - (Go.RowKit.intOf i).toNat)
  case atStart => exact ⟨0, Nat.zero_le _, rfl, by simp, by simpa [half, marks] using h, gb_refl _ _⟩
  case round =>
    obtain ⟨m, hm, rfl, rfl, hblk, hgb⟩ := hrel
    by_cases hlt : m < n
    · have hmt := hid (markText_any (k + m) (by omega) (by omega) wr)
      rw [Int.natCast_add] at hmt
      have hset := hid (half_set k m cs (by omega))
      have hat := half_at k m cs (by omega)
      generalize hu : cs[m]'(by omega) = u at hat
      have hc := hid (show ∀ w1, Below wr.heap.size wr w1 → w1.cell? ⟨g, m, none⟩ = some u ∧ w1.frozen? ⟨g, m, none⟩ = false ∧ Blk (w1.setCell ⟨g, m, none⟩ (sv (mk (k + m)))) g 9 (half k (m + 1) cs) from fun w1 hb => by
        have hb2 := hblk.below hb hblk.lt
        refine ⟨by rw [hb2.cell, hat], hb2.frozen m, by rw [← hset.out]; exact hb2.set_ _ _⟩)
      have hgb := hid hgb
      clear hblk hat hset h hu
      go_wp2_with fail
      refine hmt.out.mono ?_
      rintro e w1 ⟨rfl, hb⟩
      obtain ⟨c1, c2, c3⟩ := hc.out w1 hb
      have c3 := hid c3
      have hgb2 := hid (gb_set (gb_below hgb.out hb) m (sv (mk (k + m))))
      go_wp2_with fail
      exact ⟨⟨m + 1, hlt, by go_num, by go_num, c3.out, hgb2.out⟩, by simp [Go.RowKit.intOf]; omega⟩
    · obtain rfl : m = n := by omega
      go_wp2_with fail
      go_ret
      exact ⟨rfl, hblk, hgb⟩
theorem markS_any (g c k : Nat) (l : List (List UInt8)) (w : World) (h : Blk w g 9 (l.map sv)) (h0 : 0 < k) (h1 : k + l.length ≤ 9223372036854775807) :
    Calls Try.prog 35 #[.slice (some ⟨g, 0, none⟩) l.length c, .int .i64 k] w fun e w' => e = .returned (.int .i64 ((k : Int) + (l.length : Int))) ∧ Blk w' g 9 (marks k l.length) ∧ w.grownBy w' (some g) :=
  (markS_row g c k l.length (l.map sv) w h (by simp) h0 h1).mono fun _ _ ⟨he, hb, hg⟩ => ⟨he, by have := half_all k (l.map sv); rw [List.length_map] at this; rwa [this] at hb, hg⟩

set_option maxHeartbeats 1000000 in
theorem heldS_row (g c k n : Nat) (cs : List Value) (w : World) (h : Blk w g 9 (half k n cs)) (h0 : 0 < k) (h1 : k + n ≤ 9223372036854775807) :
    Calls Try.prog 36 #[.slice (some ⟨g, 0, none⟩) n c, .int .i64 k] w fun e w' => e = .returned (.int .i64 ((k : Int) + (n : Int))) ∧ Below w.heap.size w w' := by
  go_enter Try.func36, Try.ntmps36
  go_wp2_with fail
  go_loopw [1, 5] (fun a i wr => ∃ m : Nat, m ≤ n ∧ i = .int .i64 m ∧ a = .int .i64 ((k : Int) + (m : Int)) ∧ Below w.heap.size w wr) (fun _ i _ => n - (Go.RowKit.intOf i).toNat)
  case atStart => exact ⟨0, Nat.zero_le _, rfl, by simp, Below.refl _ _⟩
  case round =>
    obtain ⟨m, hm, rfl, rfl, hb⟩ := hrel
    by_cases hlt : m < n
    · have c0 : wr.cell? ⟨g, m, none⟩ = some (sv (mk (k + m))) := by
        rw [(h.below hb h.lt).cell]; unfold half; rw [List.getElem?_append_left (by rw [marks_length]; exact hlt), List.getElem?_eq_getElem (by rw [marks_length]; exact hlt), marks_at _ _ _ hlt]
      have k0 := cell_regrown c0
      have cM : ∀ d os, Calls Try.prog 62 #[.int .i64 ((k : Int) + (m : Int))] (grow (redrawn wr d) os) fun e w'' => e = .returned (sv (mk (k + m))) ∧ ∃ p : Regrown, w'' = grow (redrawn wr p.d) p.os := fun d os => by
        have := markText_any (k + m) (by omega) (by omega) (grow (redrawn wr d) os)
        rw [Int.natCast_add] at this
        exact Calls.regrown_of this
      have hcmp : (mk (k + m) == mk (k + m)) = true := beq_self_eq_true _
      have cM := hid cM
      have hb := hid hb
      clear h c0
      go_wp2_with fail
      refine wp_region_quiet_below (by kernel_rfl) (by kernel_rfl) ?_
      repeat (quiet_step (exact cM.out _ _))
      refine wpQuiet_nil ?_
      intro _ hw'
      obtain ⟨⟨dq, osq⟩, hw''⟩ := hw'
      subst hw''
      have hq := hid (hb.out.trans ((below_regrown wr dq osq).mono hb.out.size))
      clear k0 cM hb
      generalize grow (redrawn wr dq) osq = wq at *
      go_wp2_with fail
      exact ⟨⟨m + 1, hlt, by go_num, by go_num, hq.out⟩, by simp [Go.RowKit.intOf]; omega⟩
    · obtain rfl : m = n := by omega
      go_wp2_with fail
      go_ret
      exact ⟨rfl, hb⟩

theorem heldS_any (g c k n : Nat) (w : World) (h : Blk w g 9 (marks k n)) (h0 : 0 < k) (h1 : k + n ≤ 9223372036854775807) :
    Calls Try.prog 36 #[.slice (some ⟨g, 0, none⟩) n c, .int .i64 k] w fun e w' => e = .returned (.int .i64 ((k : Int) + (n : Int))) ∧ Below w.heap.size w w' :=
  heldS_row g c k n [] w (by simpa [half] using h) h0 h1

theorem markS_one (g c : Nat) (l : List (List UInt8)) (w : World) (h : Blk w g 9 (l.map sv)) (h1 : 1 + l.length ≤ 9223372036854775807) :
    Calls Try.prog 35 #[.slice (some ⟨g, 0, none⟩) l.length c, .int .i64 1] w fun e w' => e = .returned (.int .i64 (1 + (l.length : Int))) ∧ Blk w' g 9 (marks 1 l.length) ∧ w.grownBy w' (some g) := markS_any g c 1 l w h (by decide) h1
theorem heldS_one (g c n : Nat) (w : World) (h : Blk w g 9 (marks 1 n)) (h1 : 1 + n ≤ 9223372036854775807) :
    Calls Try.prog 36 #[.slice (some ⟨g, 0, none⟩) n c, .int .i64 1] w fun e w' => e = .returned (.int .i64 (1 + (n : Int))) ∧ Below w.heap.size w w' := heldS_any g c 1 n w h (by decide) h1
end Go.Proofs.Ytlkfejcnkckgkaa.Lh
