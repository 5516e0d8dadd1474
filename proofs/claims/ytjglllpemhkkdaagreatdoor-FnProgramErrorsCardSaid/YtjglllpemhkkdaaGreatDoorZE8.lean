/- Statements and programs in the exact laws' words. -/
import Derived.Test.YtjglllpemhkkdaaGreatDoorZSt1
import Derived.Test.YtjglllpemhkkdaaGreatDoorZS8a
import Derived.Test.YtjglllpemhkkdaaGreatDoorZS8f
import Derived.Test.YtjglllpemhkkdaaGreatDoorZP6a
import Derived.Test.YtjglllpemhkkdaaGreatDoorZPz
import Derived.Test.YtjglllpemhkkdaaGreatDoorZC5i
import Derived.Test.YtjglllpemhkkdaaGreatDoorZC4a
import Derived.Test.YtjglllpemhkkdaaGreatDoorZAs6
set_option maxRecDepth 100000
namespace Go.Proofs.YtjglllpemhkkdaaGreatDoor.Gd
open Go.RowKit Go.Lib Com Mem YtjglllpemhkkdaaGreatDoor.Os Tr YtjglllpemhkkdaaGreatDoor.Nm

def PgAt (w : World) (B : Nat) (v : Value) (p : Pg) : Prop := ∃ cs : List Value, v = .agg cs.toArray ∧ Rd8 w B cs p.d
def OwnP (lo hi : Nat) (w : World) (v : Value) (p : Pg) : Prop := ∃ cs : List Value, v = .agg cs.toArray ∧ OwnD w (Iv lo hi) cs p.d
theorem OwnP.same {lo hi : Nat} {w w' : World} {v : Value} {p : Pg} (h : OwnP lo hi w v p) (hs : Same lo hi w w') : OwnP lo hi w' v p := by
  obtain ⟨cs, e, hr⟩ := h
  exact ⟨cs, e, OwnD.same hr fun g hg => hs g hg.1 hg.2⟩
theorem OwnP.at_ {lo hi : Nat} {w : World} {v : Value} {p : Pg} (h : OwnP lo hi w v p) : PgAt w w.heap.size v p := by
  obtain ⟨cs, e, hr⟩ := h
  exact ⟨cs, e, OwnD.rd hr⟩
end Go.Proofs.YtjglllpemhkkdaaGreatDoor.Gd

/- The program's ParseExpr. -/
set_option maxRecDepth 100000
namespace Go.Proofs.YtjglllpemhkkdaaGreatDoor.Tk
open Go.RowKit Go.Lib Go.Sort Num Com Mem YtjglllpemhkkdaaGreatDoor.Os Tr

theorem rd_self {w : World} {B b : Nat} {xs : List Value} (h : Rd w B (some ⟨b, 0, none⟩) xs) : Rd w (b + 1) (some ⟨b, 0, none⟩) xs := fun hn => by
  obtain ⟨ad, e, _, hc⟩ := h hn
  cases e
  exact ⟨_, rfl, Nat.lt_succ_self b, hc⟩
def NewOk (S : List UInt8) (w : World) (e : Ending) (w' : World) : Prop := Below w.heap.size w w' ∧
  if (tokz S).2 = -1 then ∃ g b c, e = .returned (.tuple #[.pointer (some ⟨g, 0, none⟩), .nilIface]) ∧ Prs w' g b c (uz (tokz S).1 (S.length : Nat)) 0 ∧ w.heap.size ≤ g ∧ w.heap.size ≤ b
  else e = .returned (.tuple #[.pointer none, errV (tokz S).2])
set_option maxHeartbeats 2000000 in
theorem newp_any (S : List UInt8) (hS : S.length ≤ 9223372036854775807) (w : World) : Calls Tryz.prog 153 #[.string ⟨S.toArray⟩] w (NewOk S w) := by
  have ht := itokz S hS w
  unfold TokOk at ht
  have hbad := hid (tokz_bad (S := S))
  have hsm := hid (tokz_le (S := S))
  have h150 := tokz_len S
  unfold NewOk
  generalize hT : tokz S = T at *
  obtain ⟨L, bad⟩ := T
  dsimp only at ht hbad hsm h150 ⊢
  have ht := hid ht
  by_cases hneg : bad = -1
  · subst hneg
    have hS4 := hsm.out rfl
    simp only [if_pos]
    clear hbad hsm hT
    go_enter Tryz.func153, Tryz.ntmps153
    go_wp2_with fail
    refine ht.out.mono ?_
    rintro e w2 ⟨r, rfl, ho, hb⟩
    have hrow := hid ho.row
    have hb := hid hb
    have hsz := hb.out.size
    clear ho ht
    go_wp2_with (at_builtin; refine app_tok hrow.out hsz ⟨0, 0, (S.length : Nat), []⟩ (by omega) rfl _ _ rfl rfl _ rfl rfl ?_; intro v5 w5 hr5 hg5; obtain ⟨g5, c5, rfl, hge, -⟩ := row_last hr5; have hb5 := hid (below_row hb.out hrow.out hg5 hsz); replace hr5 := hid hr5; clear hg5)
    go_ret2
    have hO : OwnT w.heap.size w5.heap.size w5 (.slice (some ⟨g5, 0, none⟩) (L.length + 1) c5) (uz L (S.length : Nat)) := OwnT.of_row hr5.out
    obtain ⟨A, c, e, hrd, hc, hm, -, -⟩ := hO.read
    rw [uz_len] at e
    injection e with e1 e2 e3
    subst e1 e3
    have hblk : Blk (w5.alloc (.cells #[.slice (some ⟨g5, 0, none⟩) (L.length + 1) c5] PT)) w5.heap.size PT [.slice (some ⟨g5, 0, none⟩) (L.length + 1) c5] := Blk.new w5 PT _
    have hg5 : g5 < w5.heap.size := by
      obtain ⟨ad, e, hlt, -⟩ := hrd (by intro h; have := congrArg List.length h; rw [cellsT_len, uz_len] at this; simp at this)
      cases e; exact hlt
    have hsz5 := hb5.out.size
    refine ⟨hb5.out.alloc hsz5 _, _, g5, c5, rfl, ⟨⟨L.length + 1, c5, by rw [Nat.zero_mul]; exact hblk, by rw [uz_len]; omega, by omega, by omega⟩, ⟨hc, hm⟩, (rd_self hrd).below ((box_below w5 _).mono (by omega)), by omega⟩, hsz5, hge⟩
  · obtain ⟨hL, h0⟩ := hbad.out hneg
    have t1 : decide (0 ≤ bad) = true := decide_eq_true h0
    simp only [if_neg hneg]
    clear hbad hsm hT hL
    go_enter Tryz.func153, Tryz.ntmps153
    go_wp2_with fail
    refine ht.out.mono ?_
    rintro e w2 ⟨r, rfl, ho, hb⟩
    clear ho
    have hb := hid hb
    go_wp2_with fail
    go_ret2
    exact ⟨hb.out, rfl⟩
def NotV (w : World) : Prop := ∃ p, w.cell? ⟨0, 0, none⟩ = some (.iface As.PES (.pointer p))
theorem NotV.lt {w : World} (h : NotV w) : 0 < w.heap.size := by
  obtain ⟨p, h⟩ := h
  rcases Nat.lt_or_ge 0 w.heap.size with h1 | h1
  · exact h1
  · simp [World.cell?, Array.getElem?_eq_none h1] at h
theorem NotV.below {w w' : World} (h : NotV w) (hb : Below w.heap.size w w') : NotV w' := by
  have hlt := h.lt
  obtain ⟨p, h⟩ := h
  exact ⟨p, (hb.cell hlt).trans h⟩
theorem hand_below {w w' : World} (h : As.Handle w) (hb : Below w.heap.size w w') : As.Handle w' := h.below hb h.lt
set_option maxHeartbeats 1000000 in
theorem off_hit (a : Int) (w : World) (hh : As.Handle w) : Calls Tryz.prog 95 #[errV a] w fun e w' => e = .returned (.int .i64 a) ∧ Below w.heap.size w w' := by
  have hB := Blk.new w As.SE [.int .i64 0]
  have hb1 : Below w.heap.size w (w.alloc (.cells #[.int .i64 0] As.SE)) := box_below _ _
  have hc := hid (As.as_hit a w.heap.size _ (hand_below hh hb1) hB)
  have hlt : w.heap.size < (w.alloc (.cells #[.int .i64 0] As.SE)).heap.size := hB.lt
  have hB := hid hB
  have hb1 := hid hb1
  go_enter Tryz.func95, Tryz.ntmps95
  go_wp2_with fail
  generalize (w.alloc (.cells #[.int .i64 0] As.SE)) = w1 at *
  refine hc.out.mono ?_
  rintro e w2 ⟨rfl, hw2⟩
  have b2 : Below w1.heap.size w1 ((((w1.alloc (.cells #[.pointer (some ⟨w.heap.size, 0, none⟩)] As.PSE)).alloc (.cells #[.pointer (some ⟨As.HB, As.PSE, none⟩), .pointer (some ⟨w1.heap.size, 0, none⟩), .int .u64 150] As.VT)).alloc (.cells #[.pointer (some ⟨As.HB, As.PSE, none⟩), .pointer (some ⟨w1.heap.size, 0, none⟩), .int .u64 150] As.VT)).alloc (.cells #[.int .i64 a] As.SE)) :=
    ((((Below.refl _ _).alloc (Nat.le_refl _) _).alloc (by rw [size_alloc']; omega) _).alloc (by rw [size_alloc', size_alloc']; omega) _).alloc (by rw [size_alloc', size_alloc', size_alloc']; omega) _
  have B2 := ((hB.out.below b2 hB.out.lt).set_ 0 (.int .i64 a)).cell 0
  rw [← hw2] at B2
  have b3 : Below w.heap.size w w2 := by
    rw [hw2]
    exact (hb1.out.trans (b2.mono hb1.out.size)).setCell (p := ⟨w.heap.size, 0, none⟩) (Nat.le_refl _) _
  have b3 := hid b3
  have B2 : w2.cell? ⟨w.heap.size, 0, none⟩ = some (.int .i64 a) := B2
  clear hw2 b2 hB hb1 hc hh
  go_wp2_with fail
  go_ret
  exact ⟨rfl, b3.out⟩
set_option maxHeartbeats 1000000 in
theorem off_miss (p : Option Addr) (w : World) (hh : As.Handle w) : Calls Tryz.prog 95 #[.iface As.PES (.pointer p)] w fun e w' => e = .returned (.int .i64 0) ∧ Below w.heap.size w w' := by
  have hB := Blk.new w As.SE [.int .i64 0]
  have hb1 : Below w.heap.size w (w.alloc (.cells #[.int .i64 0] As.SE)) := box_below _ _
  have hc := hid (As.as_miss p w.heap.size _ (hand_below hh hb1) hB)
  have hb1 := hid hb1
  clear hB
  go_enter Tryz.func95, Tryz.ntmps95
  go_wp2_with fail
  generalize (w.alloc (.cells #[.int .i64 0] As.SE)) = w1 at *
  refine hc.out.mono ?_
  rintro e w2 ⟨rfl, hw2⟩
  have b2 : Below w1.heap.size w1 (((w1.alloc (.cells #[.pointer (some ⟨w.heap.size, 0, none⟩)] As.PSE)).alloc (.cells #[.pointer (some ⟨As.HB, As.PSE, none⟩), .pointer (some ⟨w1.heap.size, 0, none⟩), .int .u64 150] As.VT)).alloc (.cells #[.pointer (some ⟨As.HB, As.PSE, none⟩), .pointer (some ⟨w1.heap.size, 0, none⟩), .int .u64 150] As.VT)) :=
    (((Below.refl _ _).alloc (Nat.le_refl _) _).alloc (by rw [size_alloc']; omega) _).alloc (by rw [size_alloc', size_alloc']; omega) _
  rw [← hw2] at b2
  have b3 := hid (hb1.out.trans (b2.mono hb1.out.size))
  clear hw2 b2 hb1 hc hh
  go_wp2_with fail
  go_ret
  exact ⟨rfl, b3.out⟩

theorem good_k {t : Tok} (h : GoodT t) : t.k ≠ 0 := by
  rcases h with ⟨h, _⟩ | ⟨h, _⟩ | ⟨h, _⟩ <;> rw [h] <;> decide
end Go.Proofs.YtjglllpemhkkdaaGreatDoor.Tk
