/- Tokens as values; slices of tokens that are read, and such of the call's own: compared, marked, looked at again. -/
import Derived.Test.YtgjdccibdgedbaaOz
import Derived.Test.YtgjdccibdgedbaaLhM
import Derived.Lib.QuietBelow
import Derived.BigQuiet
set_option maxRecDepth 100000
namespace Go.Proofs.Ytgjdccibdgedbaa.Tk
open Go.RowKit Go.Lib Go.Sort Go.Proofs.Ytgjdccibdgedbaa.Com Go.Proofs.Ytgjdccibdgedbaa.Mem Go.Proofs.Ytgjdccibdgedbaa.Os Go.Proofs.Ytgjdccibdgedbaa.Ow

/-- a token: kind, number, offset, text -/
structure Tok where
  k : Int
  n : Int
  p : Int
  s : List UInt8
abbrev TK : TypeId := 32
abbrev tcs (t : Tok) : List Value := [.int .i64 t.k, .int .i64 t.n, .int .i64 t.p, sv t.s]
abbrev tv (t : Tok) : Value := .agg #[.int .i64 t.k, .int .i64 t.n, .int .i64 t.p, sv t.s]
def cellsT (l : List Tok) : List Value := l.flatMap tcs
theorem cellsT_append (l r : List Tok) : cellsT (l ++ r) = cellsT l ++ cellsT r := by simp [cellsT]
theorem cellsT_cons (t : Tok) (r : List Tok) : cellsT (t :: r) = tcs t ++ cellsT r := rfl
theorem cellsT_len (l : List Tok) : (cellsT l).length = l.length * 4 := by
  induction l with
  | nil => rfl
  | cons t r ih => rw [cellsT_cons, List.length_append, ih]; show 4 + r.length * 4 = (r.length + 1) * 4; omega
theorem cellsT_at (l : List Tok) (m : Nat) (h : m < l.length) : (cellsT l)[m * 4]? = some (.int .i64 l[m].k) ∧ (cellsT l)[m * 4 + 1]? = some (.int .i64 l[m].n) ∧ (cellsT l)[m * 4 + 2]? = some (.int .i64 l[m].p) ∧ (cellsT l)[m * 4 + 3]? = some (sv l[m].s) := by
  have e : l = l.take m ++ (l[m] :: l.drop (m + 1)) := by rw [List.getElem_cons_drop, List.take_append_drop]
  have hl : (cellsT (l.take m)).length = m * 4 := by rw [cellsT_len, List.length_take, Nat.min_eq_left (by omega)]
  have e2 : cellsT l = cellsT (l.take m) ++ (tcs l[m] ++ cellsT (l.drop (m + 1))) := by conv => lhs; rw [e, cellsT_append, cellsT_cons]
  rw [e2]
  refine ⟨?_, ?_, ?_, ?_⟩ <;> rw [List.getElem?_append_right (by omega), hl]
  · rw [Nat.sub_self]; rfl
  · rw [Nat.add_sub_cancel_left]; rfl
  · rw [Nat.add_sub_cancel_left]; rfl
  · rw [Nat.add_sub_cancel_left]; rfl
theorem tcs_one (l : List Tok) : ∀ u ∈ cellsT l, u.oneCell' = true := by
  intro u hu
  obtain ⟨t, _, ht⟩ := List.mem_flatMap.1 hu
  simp only [tcs, List.mem_cons, List.not_mem_nil, or_false] at ht
  rcases ht with rfl | rfl | rfl | rfl <;> rfl

/-- a slice's tokens, as they are read -/
theorem add_field (a : Addr) (j i : Nat) (h : 0 < i) : (⟨(a.add j).block, (a.add j).off + i, none⟩ : Addr) = a.add (j + i) := by
  have e1 : ∀ q, 0 < q → a.add q = ⟨a.block, a.off + q, none⟩ := fun q hq => by unfold Addr.add; rw [if_neg (by omega)]
  rw [e1 (j + i) (by omega)]
  rcases Nat.eq_zero_or_pos j with rfl | hj
  · have : a.add 0 = a := rfl
    rw [this, Nat.zero_add]
  · rw [e1 j hj, Nat.add_assoc]
theorem rd_tok {w : World} {B : Nat} {A : Option Addr} {l : List Tok} (h : Rd w B A (cellsT l)) {m : Nat} (hm : m < l.length) : ∃ ad, A = some ad ∧ ad.block < B ∧ w.cell? (ad.add (m * 4)) = some (.int .i64 l[m].k) ∧
    w.cell? ⟨(ad.add (m * 4)).block, (ad.add (m * 4)).off + 1, none⟩ = some (.int .i64 l[m].n) ∧ w.cell? ⟨(ad.add (m * 4)).block, (ad.add (m * 4)).off + 2, none⟩ = some (.int .i64 l[m].p) ∧ w.cell? ⟨(ad.add (m * 4)).block, (ad.add (m * 4)).off + 3, none⟩ = some (sv l[m].s) := by
  obtain ⟨h0, h1, h2, h3⟩ := cellsT_at l m hm
  obtain ⟨ad, e, hB, hc⟩ := h (fun hn => by rw [hn] at h0; cases h0)
  refine ⟨ad, e, hB, hc _ _ h0, ?_, ?_, ?_⟩ <;> rw [add_field _ _ _ (by omega)]
  · exact hc _ _ h1
  · exact hc _ _ h2
  · exact hc _ _ h3

/-- the slice v holds the tokens l; its row is a block from lo on, below hi, and no other slice's but its own writes there -/
def OwnT (lo hi : Nat) (w : World) (v : Value) (l : List Tok) : Prop :=
  ∃ A c cs, v = .slice A l.length c ∧ l.length ≤ c ∧ c ≤ maxLen ∧ (A = none → l = [] ∧ c = 0) ∧ (∀ ad, A = some ad → ad = ⟨ad.block, 0, none⟩ ∧ lo ≤ ad.block ∧ ad.block < hi ∧ Blk w ad.block TK cs) ∧ cs.take (l.length * 4) = cellsT l
section
variable {lo hi : Nat} {w w' : World} {v : Value} {l : List Tok}
theorem OwnT.same (h : OwnT lo hi w v l) (hs : Same lo hi w w') : OwnT lo hi w' v l := by
  obtain ⟨A, c, cs, h1, h2, hm, h3, h4, h5⟩ := h
  exact ⟨A, c, cs, h1, h2, hm, h3, fun ad ha => ⟨(h4 ad ha).1, (h4 ad ha).2.1, (h4 ad ha).2.2.1, (hs _ (h4 ad ha).2.1 (h4 ad ha).2.2.1).trans (h4 ad ha).2.2.2⟩, h5⟩
theorem OwnT.mono {lo' hi' : Nat} (h : OwnT lo hi w v l) (h1 : lo' ≤ lo) (h2 : hi ≤ hi') : OwnT lo' hi' w v l := by
  obtain ⟨A, c, cs, e1, e2, hm, e3, e4, e5⟩ := h
  exact ⟨A, c, cs, e1, e2, hm, e3, fun ad ha => ⟨(e4 ad ha).1, by have := (e4 ad ha).2.1; omega, by have := (e4 ad ha).2.2.1; omega, (e4 ad ha).2.2.2⟩, e5⟩
theorem OwnT.read (h : OwnT lo hi w v l) : ∃ A c, v = .slice A l.length c ∧ Rd w w.heap.size A (cellsT l) ∧ l.length ≤ c ∧ c ≤ maxLen ∧ (A = none → c = 0) ∧ ∀ ad, A = some ad → ad = ⟨ad.block, 0, none⟩ := by
  obtain ⟨A, c, cs, h1, h2, hm, h3, h4, h5⟩ := h
  refine ⟨A, c, h1, fun hne => ?_, h2, hm, fun ha => (h3 ha).2, fun ad ha => (h4 ad ha).1⟩
  cases A with
  | none => exact absurd (by rw [(h3 rfl).1]; rfl) hne
  | some ad =>
    obtain ⟨hz, _, _, hb⟩ := h4 ad rfl
    refine ⟨ad, rfl, hb.lt, fun j u hj => ?_⟩
    have e1 : ad.add j = ⟨ad.block, j, none⟩ := (congrArg (Addr.add · j) hz).trans (add_zero _ _)
    rw [e1, hb.cell]
    rw [← h5] at hj
    rw [List.getElem?_take] at hj
    split at hj
    · exact hj
    · cases hj
theorem OwnT.of_row {base : Nat} (h : w.ownsRow base TK 4 v l.length (cellsT l)) : OwnT base w.heap.size w v l := by
  rcases h.2 with ⟨hv, hn⟩ | ⟨g, c, cur, hv, hb, hblk, hnc, hcm, _, ht⟩
  · have hx := List.eq_nil_of_length_eq_zero hn
    subst hx
    exact ⟨none, 0, [], hv, Nat.le_refl _, by unfold maxLen; omega, fun _ => ⟨rfl, rfl⟩, (fun ad h => by cases h), rfl⟩
  · refine ⟨_, c, cur.toList, hv, hnc, hcm, (fun h => by cases h), (fun ad h => by cases h; exact ⟨rfl, hb, (Array.getElem?_eq_some_iff.1 hblk).1, by unfold Blk; simpa using hblk⟩), by simpa using ht⟩
theorem OwnT.nil_ (lo hi : Nat) (w : World) : OwnT lo hi w (.slice none 0 0) [] := ⟨none, 0, [], rfl, Nat.le_refl _, by unfold maxLen; omega, fun _ => ⟨rfl, rfl⟩, (fun ad h => by cases h), rfl⟩
theorem OwnT.of_blk {g : Nat} (h : Blk w g TK (cellsT l)) (hg : lo ≤ g) (hm : l.length ≤ maxLen) : OwnT lo w.heap.size w (.slice (some ⟨g, 0, none⟩) l.length l.length) l :=
  ⟨_, _, cellsT l, rfl, Nat.le_refl _, hm, (fun h => by cases h), (fun ad h' => by cases h'; exact ⟨rfl, hg, h.lt, h⟩), List.take_of_length_le (by rw [cellsT_len]; exact Nat.le_refl _)⟩
end
theorem four {w : World} {g ty : Nat} {a b c d : Value} (h : Blk w g ty [a, b, c, d]) : w.cell? ⟨g, 0, none⟩ = some a ∧ w.cell? ⟨g, 1, none⟩ = some b ∧ w.cell? ⟨g, 2, none⟩ = some c ∧ w.cell? ⟨g, 3, none⟩ = some d := ⟨h.cell 0, h.cell 1, h.cell 2, h.cell 3⟩
theorem tokInfo : (Try.prog.info? TK).map (fun i => (i.zero, i.size, i.bytes)) = some (some (tv ⟨0, 0, 0, []⟩), 4, 40) := by kernel_rfl
theorem row_lit (w : World) (t : Tok) : ∀ j u, (tcs t)[j]? = some u → (w.alloc (.cells #[.int .i64 t.k, .int .i64 t.n, .int .i64 t.p, sv t.s] TK)).cell? ((⟨w.heap.size, 0, none⟩ : Addr).add j) = some u := by
  intro j u hu
  rw [add_zero, (Blk.new w TK (tcs t)).cell]; exact hu

set_option maxHeartbeats 1000000 in
theorem eqTok (t : Tok) (w : World) : Calls Try.prog 17 #[tv t, tv t] w fun e w' => e = .returned (.bool true) ∧ Below w.heap.size w w' := by
  obtain ⟨k, n, p, s⟩ := t
  have h1 : (k != k) = false := bne_self_eq_false _
  have h2 : (n != n) = false := bne_self_eq_false _
  have h3 : (p != p) = false := bne_self_eq_false _
  have h4 : (s == s) = true := beq_self_eq_true _
  go_enter Try.func17, Try.ntmps17
  go_wp2_with fail
  go_ret
  exact ⟨rfl, ((Below.refl _ _).alloc (Nat.le_refl _) _).alloc (by simp) _⟩
set_option maxHeartbeats 2000000 in
theorem eqT_any (A1 A2 : Option Addr) (c1 c2 : Nat) (l : List Tok) (w : World) (h1 : Rd w w.heap.size A1 (cellsT l)) (h2 : Rd w w.heap.size A2 (cellsT l)) (hl : l.length ≤ 9223372036854775807) :
    Calls Try.prog 7 #[.slice A1 l.length c1, .slice A2 l.length c2] w fun e w' => e = .returned (.bool true) ∧ Below w.heap.size w w' := by
  have hcmp : ((l.length : Int) != (l.length : Int)) = false := bne_self_eq_false _
  go_enter Try.func7, Try.ntmps7
  go_wp2_with fail
  go_loopw [5] (fun i wr => ∃ k : Nat, k ≤ l.length ∧ i = .int .i64 k ∧ Below w.heap.size w wr) (fun i _ => l.length - (Go.RowKit.intOf i).toNat)
  case atStart => exact ⟨0, Nat.zero_le _, rfl, Below.refl _ _⟩
  case round =>
    obtain ⟨m, hm, rfl, hb⟩ := hrel
    by_cases hlt : m < l.length
    · obtain ⟨ad, rfl, _, k0, k1, k2, k3⟩ := rd_tok (h1.below hb) hlt
      obtain ⟨ad', rfl, _, l0, l1, l2, l3⟩ := rd_tok (h2.below hb) hlt
      have cE := hid (fun (d : Nat) (os : Array Obj) => Calls.regrown_of (d := d) (os := os) (eqTok l[m] (grow (redrawn wr d) os)))
      replace k0 := cell_regrown k0
      replace k1 := cell_regrown k1
      replace k2 := cell_regrown k2
      replace k3 := cell_regrown k3
      replace l0 := cell_regrown l0
      replace l1 := cell_regrown l1
      replace l2 := cell_regrown l2
      replace l3 := cell_regrown l3
      replace hb := hid hb
      go_wp2_with fail
      refine wp_region_quiet_below (by kernel_rfl) (by kernel_rfl) ?_
      repeat (quiet_step (exact cE.out _ _))
      refine wpQuiet_nil ?_
      intro _ hw'
      obtain ⟨⟨dq, osq⟩, hw''⟩ := hw'
      subst hw''
      have hq := hid (hb.out.trans ((below_regrown wr dq osq).mono hb.out.size))
      clear k0 k1 k2 k3 l0 l1 l2 l3 cE hb
      generalize grow (redrawn wr dq) osq = wq at *
      go_wp2_with fail
      exact ⟨⟨m + 1, hlt, by go_num, hq.out⟩, by simp [Go.RowKit.intOf]; omega⟩
    · obtain rfl : m = l.length := by omega
      go_wp2_with fail
      go_ret
      exact ⟨rfl, hb⟩
theorem eqT_own {lo1 lo2 hi1 hi2 : Nat} {v1 v2 : Value} {l : List Tok} (w : World) (h1 : OwnT lo1 hi1 w v1 l) (h2 : OwnT lo2 hi2 w v2 l) :
    Calls Try.prog 7 #[v1, v2] w fun e w' => e = .returned (.bool true) ∧ Below w.heap.size w w' := by
  obtain ⟨A1, c1, rfl, hr1, hc1, hm1, _⟩ := h1.read
  obtain ⟨A2, c2, rfl, hr2, _⟩ := h2.read
  exact eqT_any A1 A2 c1 c2 l w hr1 hr2 (by unfold maxLen at hm1; omega)

/-- token number i, marked from q on -/
def mkT (q i : Nat) : Tok := ⟨((q + i * 4 : Nat) : Int), ((q + i * 4 : Nat) : Int) + 1, ((q + i * 4 : Nat) : Int) + 1 + 1, Lh.mk (q + i * 4 + 3)⟩
def marksT (q n : Nat) : List Tok := (List.range n).map (mkT q)
theorem marksT_len (q n : Nat) : (marksT q n).length = n := by simp [marksT]
theorem marksT_at (q n i : Nat) (h : i < n) : (marksT q n)[i]'(by rw [marksT_len]; exact h) = mkT q i := by simp [marksT]
theorem marksT_succ (q n : Nat) : marksT q (n + 1) = marksT q n ++ [mkT q n] := by simp [marksT, List.range_succ]
def set4 (cs : List Value) (m : Nat) (c0 c1 c2 c3 : Value) : List Value := (((cs.set (m * 4) c0).set (m * 4 + 1) c1).set (m * 4 + 2) c2).set (m * 4 + 3) c3
def halfT (q m : Nat) (cs : List Value) : List Value := cellsT (marksT q m) ++ cs.drop (m * 4)
theorem drop4 {cs : List Value} {i : Nat} (h : i + 3 < cs.length) : cs.drop i = cs[i] :: cs[i + 1] :: cs[i + 2] :: cs[i + 3] :: cs.drop (i + 4) := by
  rw [List.getElem_cons_drop, List.getElem_cons_drop, List.getElem_cons_drop, List.getElem_cons_drop]
theorem halfT_set (q m : Nat) (cs : List Value) (h : m * 4 + 3 < cs.length) :
    set4 (halfT q m cs) m (.int .i64 (mkT q m).k) (.int .i64 (mkT q m).n) (.int .i64 (mkT q m).p) (sv (mkT q m).s) = halfT q (m + 1) cs := by
  have hl : (cellsT (marksT q m)).length = m * 4 := by rw [cellsT_len, marksT_len]
  have e : halfT q (m + 1) cs = cellsT (marksT q m) ++ ([.int .i64 (mkT q m).k, .int .i64 (mkT q m).n, .int .i64 (mkT q m).p, sv (mkT q m).s] ++ cs.drop (m * 4 + 4)) := by
    unfold halfT
    rw [marksT_succ, cellsT_append, List.append_assoc, show (m + 1) * 4 = m * 4 + 4 by omega]
    rfl
  rw [e]
  unfold set4 halfT
  rw [drop4 h]
  have s0 : ∀ (i : Nat) (r : List Value) (u : Value), (cellsT (marksT q m) ++ r).set (m * 4 + i) u = cellsT (marksT q m) ++ r.set i u := fun i r u => by
    rw [List.set_append_right _ _ (by omega), hl, Nat.add_sub_cancel_left]
  have s00 := s0 0
  rw [Nat.add_zero] at s00
  rw [s00, s0, s0, s0]
  rfl
theorem halfT_old (q m : Nat) (cs : List Value) (h : m * 4 + 3 < cs.length) : ∃ u0 u1 u2 u3, (halfT q m cs)[m * 4]? = some u0 ∧ (halfT q m cs)[m * 4 + 1]? = some u1 ∧ (halfT q m cs)[m * 4 + 2]? = some u2 ∧ (halfT q m cs)[m * 4 + 3]? = some u3 := by
  have hl : (cellsT (marksT q m)).length = m * 4 := by rw [cellsT_len, marksT_len]
  unfold halfT
  rw [drop4 h]
  refine ⟨cs[m * 4], cs[m * 4 + 1], cs[m * 4 + 2], cs[m * 4 + 3], ?_, ?_, ?_, ?_⟩ <;> rw [List.getElem?_append_right (by omega), hl]
  · rw [Nat.sub_self]; rfl
  · rw [Nat.add_sub_cancel_left]; rfl
  · rw [Nat.add_sub_cancel_left]; rfl
  · rw [Nat.add_sub_cancel_left]; rfl

set_option maxHeartbeats 2000000 in
theorem markT_row (g c q n : Nat) (cs : List Value) (w : World) (h : Blk w g TK cs) (hn : n * 4 ≤ cs.length) (h0 : 0 < q) (h1 : q + n * 4 ≤ 9223372036854775807) :
    Calls Try.prog 8 #[.slice (some ⟨g, 0, none⟩) n c, .int .i64 q] w fun e w' => e = .returned (.int .i64 ((q + n * 4 : Nat) : Int)) ∧ Blk w' g TK (halfT q n cs) ∧ w.grownBy w' (some g) := by
  have hst := hid (show Blk w g TK (halfT q 0 cs) by simpa [halfT, marksT, cellsT] using h)
  have hg := h.lt
  clear h
  go_enter Try.func8, Try.ntmps8
  go_wp2_with fail
  go_loopw [1, 5] (fun a i wr => ∃ m : Nat, m ≤ n ∧ i = .int .i64 m ∧ a = .int .i64 ((q + m * 4 : Nat) : Int) ∧ Blk wr g TK (halfT q m cs) ∧ w.grownBy wr (some g)) (fun _ i _ => n - (Go.RowKit.intOf i).toNat)
  case atStart => exact ⟨0, Nat.zero_le _, rfl, by simp, hst.out, gb_refl _ _⟩
  case round =>
    obtain ⟨m, hm, rfl, rfl, hblk, hgb⟩ := hrel
    by_cases hlt : m < n
    · obtain ⟨u0, u1, u2, u3, q0, q1, q2, q3⟩ := halfT_old q m cs (by omega)
      have hset := hid (halfT_set q m cs (by omega))
      have hmt := fun w => Lh.markText_any (q + m * 4 + 3) (by omega) (by omega) w
      rw [show ((q + m * 4 + 3 : Nat) : Int) = ((q + m * 4 : Nat) : Int) + 1 + 1 + 1 by omega] at hmt
      have hmt := hid hmt
      have hnx : ((q + m * 4 : Nat) : Int) + 1 + 1 + 1 + 1 = ((q + (m + 1) * 4 : Nat) : Int) := by omega
      have hnx := hid hnx
      have hqb : ((q + m * 4 : Nat) : Int) + 4 ≤ 9223372036854775807 := by omega
      have hqp : 0 ≤ ((q + m * 4 : Nat) : Int) := by omega
      have hmk := hid (show mkT q m = ⟨((q + m * 4 : Nat) : Int), ((q + m * 4 : Nat) : Int) + 1, ((q + m * 4 : Nat) : Int) + 1 + 1, Lh.mk (q + m * 4 + 3)⟩ from rfl)
      generalize Lh.mk (q + m * 4 + 3) = mt at *
      generalize ((q + m * 4 : Nat) : Int) = z at *
      have p0 : wr.cell? ⟨g, m * 4, none⟩ = some u0 := by rw [hblk.cell, q0]
      have p1 : wr.cell? ⟨g, m * 4 + 1, none⟩ = some u1 := by rw [hblk.cell, q1]
      have p2 : wr.cell? ⟨g, m * 4 + 2, none⟩ = some u2 := by rw [hblk.cell, q2]
      have f0 := hblk.frozen (m * 4)
      have f1 := hblk.frozen (m * 4 + 1)
      have f2 := hblk.frozen (m * 4 + 2)
      have hb0 := hid hblk
      have hgb0 := hid hgb
      have q3 := hid q3
      clear hblk hgb q0 q1 q2
      go_wp2_with fail
      refine (hmt.out _).mono ?_
      rintro e w2 ⟨rfl, hb⟩
      have hB1 := (((hb0.out.set_ (m * 4) (.int .i64 z)).set_ (m * 4 + 1) (.int .i64 (z + 1))).set_ (m * 4 + 2) (.int .i64 (z + 1 + 1)))
      have hB2 := hB1.below hb hB1.lt
      have p3 : w2.cell? ⟨g, m * 4 + 3, none⟩ = some u3 := by
        rw [hB2.cell]; simp only [List.getElem?_set]; rw [if_neg (by omega), if_neg (by omega), if_neg (by omega)]; exact q3.out
      have f3 := hB2.frozen (m * 4 + 3)
      have hB3 := hid (show Blk (w2.setCell ⟨g, m * 4 + 3, none⟩ (sv mt)) g TK (halfT q (m + 1) cs) by
        have := hB2.set_ (m * 4 + 3) (sv mt)
        rw [← hset.out, hmk.out]; exact this)
      have hgb3 := hid (gb_set (gb_below (gb_set (gb_set (gb_set hgb0.out (m * 4) (.int .i64 z)) (m * 4 + 1) (.int .i64 (z + 1))) (m * 4 + 2) (.int .i64 (z + 1 + 1))) hb) (m * 4 + 3) (sv mt))
      clear hB1 hB2 hb hmt hb0 hgb0 hset
      go_wp2_with fail
      exact ⟨⟨m + 1, hlt, by go_num, by first | (have := hnx.out; congr 1; done) | (have := hnx.out; congr 1; omega), hB3.out, hgb3.out⟩, by simp [Go.RowKit.intOf]; omega⟩
    · obtain rfl : m = n := by omega
      have hblk := hid hblk
      have hgb := hid hgb
      go_wp2_with fail
      go_ret
      exact ⟨rfl, hblk.out, hgb.out⟩
theorem markT_empty (A : Option Addr) (c : Nat) (q : Int) (w : World) :
    Calls Try.prog 8 #[.slice A 0 c, .int .i64 q] w fun e w' => e = .returned (.int .i64 q) ∧ w = w' := by
  go_enter Try.func8, Try.ntmps8
  go_wp2_with fail
  refine wp_loop_rounds 1 ?_; rw [rounds_succ]
  go_wp2_with fail
  go_ret
  exact ⟨rfl, rfl⟩
theorem markT_own {lo hi : Nat} {v : Value} {l : List Tok} (kI : Int) (w : World) (h : OwnT lo hi w v l) (h0 : 0 < kI) (h1 : kI + ((l.length * 4 : Nat) : Int) ≤ 9223372036854775807) :
    Calls Try.prog 8 #[v, .int .i64 kI] w fun e w' => e = .returned (.int .i64 (kI + ((l.length * 4 : Nat) : Int))) ∧ OwnT lo hi w' v (marksT kI.toNat l.length) ∧ Chg w w' lo hi := by
  obtain ⟨q, rfl⟩ : ∃ q : Nat, kI = q := ⟨kI.toNat, by omega⟩
  rw [Int.toNat_natCast]
  obtain ⟨A, c, cs, rfl, hc, hm, hn, hs, ht⟩ := h
  cases A with
  | none =>
    obtain ⟨rfl, rfl⟩ := hn rfl
    refine (markT_empty none 0 q w).mono ?_
    rintro e w' ⟨rfl, rfl⟩
    exact ⟨by simp, ⟨none, 0, [], rfl, Nat.le_refl _, hm, fun _ => ⟨rfl, rfl⟩, (fun ad h => by cases h), rfl⟩, chg_refl _ _ _⟩
  | some ad =>
    obtain ⟨hz, hlo, hhi, hb⟩ := hs ad rfl
    generalize ad.block = g at *
    subst hz
    have hcl : l.length * 4 ≤ cs.length := by
      have := congrArg List.length ht
      rw [List.length_take, cellsT_len] at this; omega
    refine (markT_row g c q l.length cs w hb hcl (by omega) (by omega)).mono ?_
    rintro e w' ⟨rfl, hb', hg⟩
    refine ⟨by rw [Int.natCast_add], ⟨_, c, _, by rw [marksT_len], by rw [marksT_len]; exact hc, hm, (fun h => by cases h), (fun ad h => by cases h; exact ⟨rfl, hlo, hhi, hb'⟩), ?_⟩, chg_of_gb hg hlo hhi⟩
    rw [marksT_len]; unfold halfT
    have hl : (cellsT (marksT q l.length)).length = l.length * 4 := by rw [cellsT_len, marksT_len]
    rw [List.take_append_of_le_length (by omega), List.take_of_length_le (by omega)]
set_option maxHeartbeats 2000000 in
theorem heldT_any (A : Option Addr) (c q n : Nat) (w : World) (h : Rd w w.heap.size A (cellsT (marksT q n))) (h0 : 0 < q) (h1 : q + n * 4 ≤ 9223372036854775807) :
    Calls Try.prog 9 #[.slice A n c, .int .i64 q] w fun e w' => e = .returned (.int .i64 ((q + n * 4 : Nat) : Int)) ∧ Below w.heap.size w w' := by
  go_enter Try.func9, Try.ntmps9
  go_wp2_with fail
  go_loopw [1, 5] (fun a i wr => ∃ m : Nat, m ≤ n ∧ i = .int .i64 m ∧ a = .int .i64 ((q + m * 4 : Nat) : Int) ∧ Below w.heap.size w wr) (fun _ i _ => n - (Go.RowKit.intOf i).toNat)
  case atStart => exact ⟨0, Nat.zero_le _, rfl, by simp, Below.refl _ _⟩
  case round =>
    obtain ⟨m, hm, rfl, rfl, hb⟩ := hrel
    by_cases hlt : m < n
    · obtain ⟨ad, rfl, _, k0, k1, k2, k3⟩ := rd_tok (h.below hb) (m := m) (by rw [marksT_len]; exact hlt)
      rw [marksT_at _ _ _ hlt] at k0 k1 k2 k3
      have cM : ∀ d os, Calls Try.prog 18 #[.int .i64 (((q + m * 4 : Nat) : Int) + 1 + 1 + 1)] (grow (redrawn wr d) os) fun e w'' => e = .returned (sv (Lh.mk (q + m * 4 + 3))) ∧ ∃ p : Regrown, w'' = grow (redrawn wr p.d) p.os := fun d os => by
        have := Lh.markText_any (q + m * 4 + 3) (by omega) (by omega) (grow (redrawn wr d) os)
        rw [show ((q + m * 4 + 3 : Nat) : Int) = ((q + m * 4 : Nat) : Int) + 1 + 1 + 1 by omega] at this
        exact Calls.regrown_of this
      have hnx : ((q + m * 4 : Nat) : Int) + 1 + 1 + 1 + 1 = ((q + (m + 1) * 4 : Nat) : Int) := by omega
      have hnx := hid hnx
      have hqb : ((q + m * 4 : Nat) : Int) + 4 ≤ 9223372036854775807 := by omega
      have hqp : 0 ≤ ((q + m * 4 : Nat) : Int) := by omega
      replace k0 : wr.cell? (ad.add (m * 4)) = some (.int .i64 ((q + m * 4 : Nat) : Int)) := k0
      replace k1 : wr.cell? ⟨(ad.add (m * 4)).block, (ad.add (m * 4)).off + 1, none⟩ = some (.int .i64 (((q + m * 4 : Nat) : Int) + 1)) := k1
      replace k2 : wr.cell? ⟨(ad.add (m * 4)).block, (ad.add (m * 4)).off + 2, none⟩ = some (.int .i64 (((q + m * 4 : Nat) : Int) + 1 + 1)) := k2
      replace k3 : wr.cell? ⟨(ad.add (m * 4)).block, (ad.add (m * 4)).off + 3, none⟩ = some (sv (Lh.mk (q + m * 4 + 3))) := k3
      generalize Lh.mk (q + m * 4 + 3) = mt at *
      generalize ((q + m * 4 : Nat) : Int) = z at *
      have e0 : (z != z) = false := bne_self_eq_false _
      have e1 : (z + 1 != z + 1) = false := bne_self_eq_false _
      have e2 : (z + 1 + 1 != z + 1 + 1) = false := bne_self_eq_false _
      have e3 : (mt == mt) = true := beq_self_eq_true _
      have k3r := cell_regrown k3
      have cM := hid cM
      have hb := hid hb
      clear k3
      go_wp2_with fail
      refine wp_region_quiet_below (by kernel_rfl) (by kernel_rfl) ?_
      repeat (quiet_step (exact cM.out _ _))
      refine wpQuiet_nil ?_
      intro _ hw'
      obtain ⟨⟨dq, osq⟩, hw''⟩ := hw'
      subst hw''
      have hq := hid (hb.out.trans ((below_regrown wr dq osq).mono hb.out.size))
      clear k0 k1 k2 k3r cM hb
      generalize grow (redrawn wr dq) osq = wq at *
      go_wp2_with fail
      exact ⟨⟨m + 1, hlt, by go_num, by first | (have := hnx.out; congr 1; done) | (have := hnx.out; congr 1; omega), hq.out⟩, by simp [Go.RowKit.intOf]; omega⟩
    · obtain rfl : m = n := by omega
      go_wp2_with fail
      go_ret
      exact ⟨rfl, hb⟩
theorem heldT_own {lo hi n : Nat} {v : Value} (kI : Int) (w : World) (h : OwnT lo hi w v (marksT kI.toNat n)) (h0 : 0 < kI) (h1 : kI + ((n * 4 : Nat) : Int) ≤ 9223372036854775807) :
    Calls Try.prog 9 #[v, .int .i64 kI] w fun e w' => e = .returned (.int .i64 (kI + ((n * 4 : Nat) : Int))) ∧ Below w.heap.size w w' := by
  obtain ⟨q, rfl⟩ : ∃ q : Nat, kI = q := ⟨kI.toNat, by omega⟩
  rw [Int.toNat_natCast] at h
  obtain ⟨A, c, hv, hr, _⟩ := h.read
  rw [marksT_len] at hv
  subst hv
  refine (heldT_any A c q n w hr (by omega) (by omega)).mono ?_
  rintro e w' ⟨rfl, hb⟩
  exact ⟨by rw [Int.natCast_add], hb⟩
end Go.Proofs.Ytgjdccibdgedbaa.Tk
