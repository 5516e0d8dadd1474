/- Statements and programs in the exact laws' words. -/
import Derived.Test.YtjglllpemhkkdaaGreatDoorZSt1
import Derived.Test.YtjglllpemhkkdaaGreatDoorZS8a
import Derived.Test.YtjglllpemhkkdaaGreatDoorZS8f
import Derived.Test.YtjglllpemhkkdaaGreatDoorZCur
import Derived.Test.YtjglllpemhkkdaaGreatDoorZTk
import Derived.Test.YtjglllpemhkkdaaGreatDoorZDr4
import Derived.Test.YtjglllpemhkkdaaGreatDoorZF7a
set_option maxRecDepth 100000
namespace Go.Proofs.YtjglllpemhkkdaaGreatDoor.Gd
open Go.RowKit Go.Lib Com Mem YtjglllpemhkkdaaGreatDoor.Os Tr YtjglllpemhkkdaaGreatDoor.Nm

def OwnL (lo hi : Nat) (w : World) (v : Value) (L : List St) : Prop := OwnD w (Iv lo hi) [v] [.sl 1 (dl L)]
theorem OwnL.same {lo hi : Nat} {w w' : World} {v : Value} {L : List St} (h : OwnL lo hi w v L) (hs : Same lo hi w w') : OwnL lo hi w' v L := OwnD.same h fun g hg => hs g hg.1 hg.2
theorem OwnL.row {lo hi : Nat} {w : World} {v : Value} {L : List St} (h : OwnL lo hi w v L) : ∃ A c rows, v = .slice A L.length c ∧ Row w w.heap.size 1 A (dl L) rows ∧ L.length ≤ maxI := by
  obtain ⟨A, c, r, rows, e, hk, hl, _⟩ := (OwnD.rd h).sl_
  injection e with e _
  rw [dl_len] at *
  exact ⟨A, c, rows, e, hk, hl⟩
def szL8 (L : List St) : Nat := L.length + szDL (dl L)
theorem cnt_sz8 (L : List St) : cntL L ≤ szL8 L := by have := cnt_szDL L; unfold szL8; omega
theorem szL8_over (A : Option Addr) (c : Nat) (L : List St) (rows : Nat → List Value) (left : Int) (w : World) (hk : Row w w.heap.size 1 A (dl L) rows) (hl : L.length ≤ maxI) (h0 : 0 ≤ left) (h1 : left ≤ 1048576) (h2 : left < ((szL8 L : Nat) : Int)) :
    Calls Tryz.prog 28 #[.slice A L.length c, .int .i64 left] w fun e w' => e = .returned (.int .i64 (-1)) ∧ Below w.heap.size w w' :=
  (szStL L A c rows w hk left hl h0 h1).mono fun e w' h => ⟨h.1.trans (by unfold szAns; rw [if_neg (by unfold szL8 at h2; omega)]), h.2⟩
theorem szL8_fit (A : Option Addr) (c : Nat) (L : List St) (rows : Nat → List Value) (left : Int) (w : World) (hk : Row w w.heap.size 1 A (dl L) rows) (hl : L.length ≤ maxI) (h0 : 0 ≤ left) (h1 : left ≤ 1048576) (h2 : ((szL8 L : Nat) : Int) ≤ left) :
    Calls Tryz.prog 28 #[.slice A L.length c, .int .i64 left] w fun e w' => e = .returned (.int .i64 (left - ((szL8 L : Nat) : Int))) ∧ Below w.heap.size w w' :=
  (szStL L A c rows w hk left hl h0 h1).mono fun e w' h => ⟨h.1.trans (by unfold szAns; rw [if_pos (by unfold szL8 at h2; omega)]; rfl), h.2⟩
theorem toL_own (A : Option Addr) (c : Nat) (L : List St) (rows : Nat → List Value) (w : World) (hk : Row w w.heap.size 1 A (dl L) rows) (hz : szL8 L ≤ 1048576) :
    Calls Tryz.prog 30 #[.slice A L.length c] w fun e w' => e = .returned (.slice (some ⟨w.heap.size, 0, none⟩) L.length L.length) ∧ OwnL w.heap.size w'.heap.size w' (.slice (some ⟨w.heap.size, 0, none⟩) L.length L.length) L ∧ Below w.heap.size w w' :=
  toStL L A c rows w hk (by unfold szL8 at hz; omega) (by unfold szL8 at hz; omega)
theorem eqL_own {lo hi lo' hi' : Nat} {v v' : Value} {L : List St} (w : World) (h : OwnL lo hi w v L) (h' : OwnL lo' hi' w v' L) :
    Calls Tryz.prog 32 #[v, v'] w fun e w' => e = .returned (.bool true) ∧ Below w.heap.size w w' := by
  obtain ⟨A, c, rows, rfl, hk, hl⟩ := h.row
  obtain ⟨A', c', rows', rfl, hk', _⟩ := h'.row
  exact eqStL L A c rows w hk A' c' rows' hk' hl
end Go.Proofs.YtjglllpemhkkdaaGreatDoor.Gd

/- What a draw bends: l1Turned. -/
set_option maxRecDepth 100000
namespace Go.Proofs.YtjglllpemhkkdaaGreatDoor.Dr
open Go.RowKit Go.Lib Com Mem Cur YtjglllpemhkkdaaGreatDoor.Os Ow Tk
theorem bsz (x : List UInt8) : (⟨x.toArray⟩ : ByteArray).size = x.length := by simp [ByteArray.size]
def UpTo (n : Nat) (e : Ending) : Prop := ∃ r : List UInt8, e = .returned (sv r) ∧ r.length ≤ n
theorem upTo_of {n : Nat} (X : ByteArray) (h : X.size ≤ n) : UpTo n (.returned (.string X)) := ⟨X.data.toList, by cases X; simp, by rw [Array.length_toList]; exact h⟩
theorem rd_gb {w w2 : World} {g B : Nat} {L : Option Addr} {X : List Value} (h : Rd w B L X) (hB : ∀ ad, L = some ad → ad.block ≠ g) (hBw : B ≤ w.heap.size) (hg : w.grownBy w2 (some g)) : Rd w2 B L X := fun hne => by
  obtain ⟨ad, e, hb, hc⟩ := h hne
  exact ⟨ad, e, hb, fun j u hu => (World.cell?_of_block (hg.block (ad.add j).block (by rw [add_block]; omega) (fun e' => hB ad e (by rw [add_block] at e'; exact Option.some.inj e')))).trans (hc j u hu)⟩
set_option maxHeartbeats 4000000 in
theorem turned_any (g : Nat) (A : Option Addr) (c : Nat) (xs : List UInt8) (s : List UInt8) (hs : s.length ≤ 140737488355330) (L : Option Addr) (cap : Nat) (l : List (List UInt8)) (w : World) (hc : CurAt w g A c xs) (hL : Rd w w.heap.size L (l.map sv)) (hB : ∀ ad, L = some ad → ad.block ≠ g) (h0 : 0 < l.length) (hl : l.length ≤ 1048576) (hm : ∀ x ∈ l, x.length ≤ 8) :
    Calls Tryz.prog 55 #[.pointer (some ⟨g, 0, none⟩), .string ⟨s.toArray⟩, .slice L l.length cap] w fun e w' => UpTo (s.length + 8) e ∧ Drew w g A c xs w' := by
  have hb := hid (below_any g A c xs ((s.length : Int) + 1) w hc (by omega) (by omega))
  clear hc
  have hL := hid hL
  go_enter Tryz.func55, Tryz.ntmps55
  go_wp2_with fail
  refine hb.out.mono ?_
  rintro e w1 ⟨⟨a, rfl, ha, _⟩, hd⟩
  have ha' : a ≤ s.length := by omega
  have d1 := hid hd
  clear hd hb ha
  go_wp2_with fail
  refine (below_any g A c xs 6 w1 d1.out.1 (by omega) (by omega)).mono ?_
  rintro e w2 ⟨⟨q, rfl, hq, _⟩, hd⟩
  have d2 := hid (dr_then d1.out hd)
  clear hd d1
  have hx1 := txt_cut s 0 a
  rw [List.drop_zero, Nat.sub_zero] at hx1
  have hx2 := txt_cut s a s.length
  rw [List.take_of_length_le (by rw [List.length_drop]; exact Nat.le_refl _)] at hx2
  by_cases q0 : q = 0
  · subst q0
    have hdw : Below w2.heap.size w2 w2.drew := (Below.refl _ _).drew
    have d2' := hid (dr_below d2.out hdw)
    have hR := hid (show Rd w2.drew w2.drew.heap.size L (l.map sv) from ((rd_gb hL.out hB (Nat.le_refl _) d2'.out.2).more d2'.out.2.size))
    have step : ∀ w9, Drew w2.drew g A c xs w9 → Hid (Drew w g A c xs w9) := fun w9 hd => hid (dr_then d2'.out hd)
    go_wp2_with fail
    go_region_with (first
      | (go_at_call 56; refine (pick_any g A c xs L cap l _ d2'.out.1 hR.out hB h0 hl).mono ?_; rintro e w9 ⟨⟨p, hp, rfl⟩, hd⟩; have d9 := step w9 hd; have hp8 := hm p hp; clear hd step))
    all_goals
      go_wp2_with fail
      go_ret
      exact ⟨upTo_of _ (by rw [ByteArray.size_append, ByteArray.size_append, bsz, bsz, bsz, List.length_take, List.length_drop]; omega), d9.out⟩
  · have e0 : ((q : Int) == 0) = false := beq_false_of_ne (by omega)
    by_cases q1 : q = 1
    · subst q1
      clear hL hB hx2
      go_wp2_with fail
      go_ret
      exact ⟨upTo_of _ (by rw [bsz, List.length_take]; omega), d2.out⟩
    · have e1 : ((q : Int) == 1) = false := beq_false_of_ne (by omega)
      clear hL hB hx1 hx2
      go_wp2_with fail
      go_ret
      exact ⟨upTo_of _ (by rw [bsz]; omega), d2.out⟩
open Tr
def bends6 : List (List UInt8) := [[32], [40], [41], [32, 43, 32], [33], [120], [52], [32, 38, 32]]
def odd6 : List (List UInt8) := [[], [49, 32, 43, 32, 50, 32, 42, 32, 51], [40, 49, 32, 43, 32, 50, 41, 32, 42, 32, 51], [49, 32, 60, 32, 50, 32, 60, 32, 51], [33, 120, 32, 61, 61, 32, 121], [33, 40, 120, 32, 61, 61, 32, 121, 41], [120, 32, 124, 32, 121, 32, 38, 32, 49], [105, 102], [120, 32, 120], [40, 40, 120, 41, 41], [120, 32, 45, 32, 40, 121, 32, 45, 32, 49, 41], [97, 32, 43, 32, 49]]
set_option maxHeartbeats 4000000 in
theorem drawParse (A : Option Addr) (c : Nat) (xs : List UInt8) (w : World) (hr : Rd w w.heap.size A (xs.map bv)) (hn : xs.length ≤ 1048576) :
    Calls Tryz.prog 40 #[.slice A xs.length c] w fun e w' => UpTo 400 e ∧ Below w.heap.size w w' := by
  have h1 := hid (new_any A c xs w hr hn)
  clear hr hn
  go_enter Tryz.func40, Tryz.ntmps40
  go_wp2_with fail
  refine h1.out.mono ?_
  rintro e w1 ⟨g, hg, rfl, hc, hb⟩
  have B1 := hid hb
  have s1 := hb.size
  have hgl := cur_lt hc
  have X2 := hid (Blk.new w1 9 [sv [120], sv [121]])
  have b2 := box_below w1 (.cells #[sv [120], sv [121]] 9)
  have B2 := hid (B1.out.trans (b2.mono (by omega)))
  have hc2 := hid (cur_alloc hc (.cells #[sv [120], sv [121]] 9))
  have z2 : (w1.alloc (.cells #[sv [120], sv [121]] 9)).heap.size = w1.heap.size + 1 := size_alloc' _ _
  clear hb h1 hc b2
  go_wp2_with fail
  generalize (w1.alloc (.cells #[sv [120], sv [121]] 9)) = w2 at *
  refine (below_any g A c xs 4 w2 hc2.out (by omega) (by omega)).mono ?_
  rintro e w3 ⟨⟨q, rfl, hq, _⟩, hd⟩
  have B3 := hid (drew_below hg B2.out hd)
  have D3 := hid hd.1
  have X3 := hid (X2.out.gb hd.2 (by omega))
  have s3 := hd.2.size
  have hq4 : q < 4 := by omega
  clear hd B2 hc2 X2 hq
  go_wp2_with fail
  have hdr := draw_any g A c xs (some ⟨w1.heap.size, 0, none⟩) 2 [[120], [121]] (1 + (q : Int)) w3 (by omega) (by omega) D3.out (Or.inr ⟨_, _, rfl, X3.out, rfl, by omega⟩) (by decide) (by decide)
  refine hdr.mono ?_
  rintro e w4 ⟨v, t, rfl, hm, hcnt, hd⟩
  have B4 := hid (drew_below hg B3.out hd)
  have D4 := hid hd.1
  have s4 := hd.2.size
  have hsf := hid (sformat_any t v w4 hm.1.ex (by omega))
  have hfl := fmtX_len t
  clear hm hd hdr B3 D3 X3
  generalize fmtX t = S at *
  go_wp2_with fail
  refine hsf.out.mono ?_
  rintro e w5 ⟨rfl, hb5⟩
  have B5 := hid (B4.out.trans (hb5.mono B4.out.size))
  have D5 := hid (cur_below D4.out (hb5.mono (cur_lt D4.out)))
  have s5 := hb5.size
  clear hb5 hsf B4 D4
  go_wp2_with fail
  refine (below_any g A c xs 4 w5 D5.out (by omega) (by omega)).mono ?_
  rintro e w6 ⟨⟨q2, rfl, hq2, _⟩, hd⟩
  have B6 := hid (drew_below hg B5.out hd)
  have D6 := hid hd.1
  have s6 := hd.2.size
  clear hd B5 D5
  by_cases q0 : q2 = 0
  · subst q0
    have ht := hid (turned_any g A c xs S (by omega) (some ⟨w6.heap.size, 0, none⟩) 8 bends6 (w6.alloc (.cells (bends6.map sv).toArray 9)) (cur_alloc D6.out _) ((Blk.new w6 9 (bends6.map sv)).rd.more (by simp)) (fun ad e => by cases e; exact fun h => by simp at h; omega) (by decide) (by decide) (by decide))
    go_wp2_with fail
    refine ht.out.mono ?_
    rintro e w7 ⟨⟨r, rfl, hr⟩, hd⟩
    have B7 := hid (drew_below hg B6.out (drew_alloc hd))
    clear hd ht
    go_wp2_with fail
    go_ret
    exact ⟨⟨r, rfl, by omega⟩, B7.out⟩
  · have e0 : ((q2 : Int) == 0) = false := beq_false_of_ne (by omega)
    by_cases q1 : q2 = 1
    · subst q1
      go_wp2_with fail
      refine (pick_lit g A c xs odd6 w6 D6.out (by decide) (by decide)).mono ?_
      rintro e w7 ⟨⟨s, hs, rfl⟩, hd⟩
      have B7 := hid (drew_below hg B6.out hd)
      have hs : s.length ≤ 20 := (show ∀ s ∈ odd6, s.length ≤ 20 by decide) s hs
      clear hd
      go_wp2_with fail
      go_ret
      exact ⟨⟨s, rfl, by omega⟩, B7.out⟩
    · have e1 : ((q2 : Int) == 1) = false := beq_false_of_ne (by omega)
      go_wp2_with fail
      go_ret
      exact ⟨⟨S, rfl, by omega⟩, B6.out⟩
end Go.Proofs.YtjglllpemhkkdaaGreatDoor.Dr
