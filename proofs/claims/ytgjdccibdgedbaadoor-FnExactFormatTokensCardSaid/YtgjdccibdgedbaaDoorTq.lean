/- Lists of tokens, copied by the laws. -/
import Derived.Test.YtgjdccibdgedbaaDoorTz
set_option maxRecDepth 100000
namespace Go.Proofs.YtgjdccibdgedbaaDoor.Tk
open Go.RowKit Go.Lib Go.Sort Go.Proofs.YtgjdccibdgedbaaDoor.Com Go.Proofs.YtgjdccibdgedbaaDoor.Mem Go.Proofs.YtgjdccibdgedbaaDoor.Os Go.Proofs.YtgjdccibdgedbaaDoor.Ow

theorem made_N {P : Program} (w : World) (t e : TypeId) (z : Value) (size bytes : Nat) (ht : P.underlying t = some (.slice e)) (hi : (P.info? e).map (fun i => (i.zero, i.size, i.bytes)) = some (some z, size, bytes))
    (n : Nat) (hbytes : bytes * n ≤ 281474976710656) (h63 : n ≤ 9223372036854775807) :
    ∃ cs : List Value, cs.length = n * size ∧ (Instr.makeSlice t (.int .i64 n) (.int .i64 n)).run P w = .ok (.slice (some ⟨w.heap.size, 0, none⟩) n n) (w.alloc (.cells cs.toArray e)) := by
  obtain ⟨i0, hi0, hz0, hz1, hz2⟩ := info_parts hi
  have h := run_make (P := P) w t e i0 z ht hi0 hz0 .i64 .i64 (n : Int) (n : Int) (by omega) (Int.le_refl _) (by rw [hz2, ← Int.natCast_mul]; generalize bytes * n = q at *; omega) (by omega)
  refine ⟨(madeCells z.cells (n * size)).toList, by rw [Array.length_toList, size_madeCells], ?_⟩
  rw [h, hz1, Int.toNat_natCast, Array.toArray_toList]
theorem set4_app (xs : List Tok) (m : Nat) (hx : xs.length = m) (cs : List Value) (t : Tok) (h : m * 4 + 3 < cs.length) :
    set4 (cellsT xs ++ cs.drop (m * 4)) m (.int .i64 t.k) (.int .i64 t.n) (.int .i64 t.p) (sv t.s) = cellsT (xs ++ [t]) ++ cs.drop ((m + 1) * 4) := by
  have hl : (cellsT xs).length = m * 4 := by rw [cellsT_len, hx]
  have e : cellsT (xs ++ [t]) ++ cs.drop ((m + 1) * 4) = cellsT xs ++ ([.int .i64 t.k, .int .i64 t.n, .int .i64 t.p, sv t.s] ++ cs.drop (m * 4 + 4)) := by
    rw [cellsT_append, List.append_assoc, show (m + 1) * 4 = m * 4 + 4 by omega]
    rfl
  rw [e]
  unfold set4
  rw [drop4 h]
  have s0 : ∀ (i : Nat) (r : List Value) (u : Value), (cellsT xs ++ r).set (m * 4 + i) u = cellsT xs ++ r.set i u := fun i r u => by
    rw [List.set_append_right _ _ (by omega), hl, Nat.add_sub_cancel_left]
  have s00 := s0 0
  rw [Nat.add_zero] at s00
  rw [s00, s0, s0, s0]
  rfl
theorem old4 (xs : List Tok) (m : Nat) (hx : xs.length = m) (cs : List Value) (h : m * 4 + 3 < cs.length) : ∃ u0 u1 u2 u3, (cellsT xs ++ cs.drop (m * 4))[m * 4]? = some u0 ∧ (cellsT xs ++ cs.drop (m * 4))[m * 4 + 1]? = some u1 ∧ (cellsT xs ++ cs.drop (m * 4))[m * 4 + 2]? = some u2 ∧ (cellsT xs ++ cs.drop (m * 4))[m * 4 + 3]? = some u3 := by
  have hl : (cellsT xs).length = m * 4 := by rw [cellsT_len, hx]
  rw [drop4 h]
  refine ⟨cs[m * 4], cs[m * 4 + 1], cs[m * 4 + 2], cs[m * 4 + 3], ?_, ?_, ?_, ?_⟩ <;> rw [List.getElem?_append_right (by omega), hl]
  · rw [Nat.sub_self]; rfl
  · rw [Nat.add_sub_cancel_left]; rfl
  · rw [Nat.add_sub_cancel_left]; rfl
  · rw [Nat.add_sub_cancel_left]; rfl
theorem put_set4 {w : World} {g : Nat} {cs : List Value} (h : Blk w g TK cs) (m : Nat) (a b c d : Value) : Blk ((((w.setCell ⟨g, m * 4, none⟩ a).setCell ⟨g, m * 4 + 1, none⟩ b).setCell ⟨g, m * 4 + 2, none⟩ c).setCell ⟨g, m * 4 + 3, none⟩ d) g TK (set4 cs m a b c d) := (((h.set_ _ _).set_ _ _).set_ _ _).set_ _ _
set_option maxHeartbeats 2000000 in
theorem toToks (A : Option Addr) (c : Nat) (l : List Tok) (w : World) (h : Rd w w.heap.size A (cellsT l)) (hl : l.length ≤ 1048576) :
    Calls Tryd.prog 13 #[.slice A l.length c] w fun e w' => e = .returned (.slice (some ⟨w.heap.size, 0, none⟩) l.length l.length) ∧ Blk w' w.heap.size TK (cellsT l) ∧ Below w.heap.size w w' := by
  obtain ⟨cs0, hl0, hmk⟩ := made_N w 25 30 _ 4 40 Tryd.underlying25 tokInfo l.length (by omega) (by omega)
  have hb0 := hid (show Blk (w.alloc (.cells cs0.toArray TK)) w.heap.size TK (cellsT (l.take 0) ++ cs0.drop (0 * 4)) from Blk.new w TK cs0)
  have hfin := hid (show cellsT (l.take l.length) ++ cs0.drop (l.length * 4) = cellsT l by rw [List.take_of_length_le (Nat.le_refl _), List.drop_eq_nil_of_le (by omega), List.append_nil])
  have hl0 := hid hl0
  go_enter Tryd.func13, Tryd.ntmps13
  go_wp2_with fail
  go_loopw [4] (fun i wr => ∃ m : Nat, m ≤ l.length ∧ i = .int .i64 m ∧ Blk wr w.heap.size TK (cellsT (l.take m) ++ cs0.drop (m * 4)) ∧ Below w.heap.size w wr) (fun i _ => l.length - (Go.RowKit.intOf i).toNat)
  case atStart => exact ⟨0, Nat.zero_le _, rfl, hb0.out, (Below.refl _ _).alloc (Nat.le_refl _) _⟩
  case round =>
    obtain ⟨m, hm, rfl, hblk, hb⟩ := hrel
    by_cases hlt : m < l.length
    · obtain ⟨ad, rfl, _, k0, k1, k2, k3⟩ := rd_tok (h.below hb) hlt
      have hc4 : m * 4 + 3 < cs0.length := by rw [hl0.out]; omega
      have htk : (l.take m).length = m := by rw [List.length_take]; omega
      obtain ⟨u0, u1, u2, u3, q0, q1, q2, q3⟩ := old4 (l.take m) m htk cs0 hc4
      have hst := hid (set4_app (l.take m) m htk cs0 l[m] hc4)
      rw [← List.take_succ_eq_append_getElem hlt] at hst
      have hck := hid (fun w => toTok l[m] w)
      replace q0 := hid q0
      replace q1 := hid q1
      replace q2 := hid q2
      replace q3 := hid q3
      have hb := hid hb
      have hblk := hid hblk
      clear hc4 htk
      go_wp2_with fail
      refine (hck.out _).mono ?_
      rintro e w2 ⟨rfl, hb2⟩
      have hblk2 := hblk.out.below hb2 hblk.out.lt
      have p0 : w2.cell? ⟨w.heap.size, m * 4, none⟩ = some u0 := by rw [hblk2.cell, q0.out]
      have p1 : w2.cell? ⟨w.heap.size, m * 4 + 1, none⟩ = some u1 := by rw [hblk2.cell, q1.out]
      have p2 : w2.cell? ⟨w.heap.size, m * 4 + 2, none⟩ = some u2 := by rw [hblk2.cell, q2.out]
      have p3 : w2.cell? ⟨w.heap.size, m * 4 + 3, none⟩ = some u3 := by rw [hblk2.cell, q3.out]
      have f0 := hblk2.frozen (m * 4)
      have f1 := hblk2.frozen (m * 4 + 1)
      have f2 := hblk2.frozen (m * 4 + 2)
      have f3 := hblk2.frozen (m * 4 + 3)
      have z1 := put_set4 hblk2 m (.int .i64 l[m].k) (.int .i64 l[m].n) (.int .i64 l[m].p) (sv l[m].s)
      rw [hst.out] at z1
      replace z1 := hid z1
      have hbw := hid (hb.out.trans (hb2.mono hb.out.size))
      have z4 := hid ((((hbw.out.setCell (p := ⟨w.heap.size, m * 4, none⟩) (Nat.le_refl _) (.int .i64 l[m].k)).setCell (p := ⟨w.heap.size, m * 4 + 1, none⟩) (Nat.le_refl _) (.int .i64 l[m].n)).setCell (p := ⟨w.heap.size, m * 4 + 2, none⟩) (Nat.le_refl _) (.int .i64 l[m].p)).setCell (p := ⟨w.heap.size, m * 4 + 3, none⟩) (Nat.le_refl _) (sv l[m].s))
      clear hb2 hblk2
      go_wp2_with fail
      exact ⟨⟨m + 1, hlt, by go_num, z1.out, z4.out⟩, by simp [Go.RowKit.intOf]; omega⟩
    · obtain rfl : m = l.length := by omega
      have hb := hid hb
      rw [hfin.out] at hblk
      have hblk := hid hblk
      go_wp2_with fail
      go_ret
      exact ⟨rfl, hblk.out, hb.out⟩
theorem toT_own (A : Option Addr) (c : Nat) (l : List Tok) (w w1 : World) (h : Rd w w.heap.size A (cellsT l)) (hl : l.length ≤ 1048576) (hb : Below w.heap.size w w1) :
    Calls Tryd.prog 13 #[.slice A l.length c] w1 fun e w' => e = .returned (.slice (some ⟨w1.heap.size, 0, none⟩) l.length l.length) ∧ OwnT w1.heap.size w'.heap.size w' (.slice (some ⟨w1.heap.size, 0, none⟩) l.length l.length) l ∧ Below w1.heap.size w1 w' :=
  (toToks A c l w1 ((h.below hb).more hb.size) hl).mono fun _ _ ⟨he, hb1, hb2⟩ => ⟨he, OwnT.of_blk hb1 (Nat.le_refl _) (by unfold maxLen; omega), hb2⟩
end Go.Proofs.YtgjdccibdgedbaaDoor.Tk
