/- Chapter 5's draws: DrawTokenize. -/
import Derived.Test.YtgjdccibdgedbaaDoorDr6
import Derived.Test.YtgjdccibdgedbaaDoorLw
set_option maxRecDepth 100000
namespace Go.Proofs.YtgjdccibdgedbaaDoor.Dr
open Go.RowKit Go.Lib Go.Proofs.YtgjdccibdgedbaaDoor.Com Go.Proofs.YtgjdccibdgedbaaDoor.Mem Go.Proofs.YtgjdccibdgedbaaDoor.Cur Go.Proofs.YtgjdccibdgedbaaDoor.Os Go.Proofs.YtgjdccibdgedbaaDoor.Ow Go.Proofs.YtgjdccibdgedbaaDoor.Tk
theorem bsz (x : List UInt8) : (⟨x.toArray⟩ : ByteArray).size = x.length := by simp [ByteArray.size]
/-- a string of so many bytes at most -/
def UpTo (n : Nat) (e : Ending) : Prop := ∃ r : List UInt8, e = .returned (sv r) ∧ r.length ≤ n
theorem upTo_of {n : Nat} (X : ByteArray) (h : X.size ≤ n) : UpTo n (.returned (.string X)) := ⟨X.data.toList, by cases X; simp, by rw [Array.length_toList]; exact h⟩
theorem rd_gb {w w2 : World} {g B : Nat} {L : Option Addr} {X : List Value} (h : Rd w B L X) (hB : ∀ ad, L = some ad → ad.block ≠ g) (hBw : B ≤ w.heap.size) (hg : w.grownBy w2 (some g)) : Rd w2 B L X := fun hne => by
  obtain ⟨ad, e, hb, hc⟩ := h hne
  exact ⟨ad, e, hb, fun j u hu => (World.cell?_of_block (hg.block (ad.add j).block (by rw [add_block]; omega) (fun e' => hB ad e (by rw [add_block] at e'; exact Option.some.inj e')))).trans (hc j u hu)⟩
set_option maxHeartbeats 4000000 in
theorem turned_any (g : Nat) (A : Option Addr) (c : Nat) (xs : List UInt8) (s : List UInt8) (hs : s.length ≤ 140737488355330) (L : Option Addr) (cap : Nat) (l : List (List UInt8)) (w : World) (hc : CurAt w g A c xs) (hL : Rd w w.heap.size L (l.map sv)) (hB : ∀ ad, L = some ad → ad.block ≠ g) (h0 : 0 < l.length) (hl : l.length ≤ 1048576) (hm : ∀ x ∈ l, x.length ≤ 8) :
    Calls Tryd.prog 18 #[.pointer (some ⟨g, 0, none⟩), .string ⟨s.toArray⟩, .slice L l.length cap] w fun e w' => UpTo (s.length + 8) e ∧ Drew w g A c xs w' := by
  have hb := hid (below_any g A c xs ((s.length : Int) + 1) w hc (by omega) (by omega))
  clear hc
  have hL := hid hL
  go_enter Tryd.func18, Tryd.ntmps18
  go_wp2_with fail
  refine hb.out.mono ?_
  rintro e w1 ⟨⟨a, rfl, ha, _⟩, hd⟩
  have ha' : a ≤ s.length := by omega
  have d1 := hid hd
  clear hd hb ha
  go_wp2_with fail
  refine (below_any g A c xs 6 w1 d1.out.1 (by omega) (by omega)).mono ?_
  rintro e w2 ⟨⟨q, rfl, hq, _⟩, hd⟩
  have d2 := hid (dr_then d1.out hd)
  clear hd d1
  have hx1 := txt_cut s 0 a
  rw [List.drop_zero, Nat.sub_zero] at hx1
  have hx2 := txt_cut s a s.length
  rw [List.take_of_length_le (by rw [List.length_drop]; exact Nat.le_refl _)] at hx2
  by_cases q0 : q = 0
  · subst q0
    have hdw : Below w2.heap.size w2 w2.drew := (Below.refl _ _).drew
    have d2' := hid (dr_below d2.out hdw)
    have hR := hid (show Rd w2.drew w2.drew.heap.size L (l.map sv) from ((rd_gb hL.out hB (Nat.le_refl _) d2'.out.2).more d2'.out.2.size))
    have step : ∀ w9, Drew w2.drew g A c xs w9 → Hid (Drew w g A c xs w9) := fun w9 hd => hid (dr_then d2'.out hd)
    go_wp2_with fail
    go_region_with (first
      | (go_at_call 19; refine (pick_any g A c xs L cap l _ d2'.out.1 hR.out hB h0 hl).mono ?_; rintro e w9 ⟨⟨p, hp, rfl⟩, hd⟩; have d9 := step w9 hd; have hp8 := hm p hp; clear hd step))
    all_goals
      go_wp2_with fail
      go_ret
      exact ⟨upTo_of _ (by rw [ByteArray.size_append, ByteArray.size_append, bsz, bsz, bsz, List.length_take, List.length_drop]; omega), d9.out⟩
  · have e0 : ((q : Int) == 0) = false := beq_false_of_ne (by omega)
    by_cases q1 : q = 1
    · subst q1
      clear hL hB hx2
      go_wp2_with fail
      go_ret
      exact ⟨upTo_of _ (by rw [bsz, List.length_take]; omega), d2.out⟩
    · have e1 : ((q : Int) == 1) = false := beq_false_of_ne (by omega)
      clear hL hB hx1 hx2
      go_wp2_with fail
      go_ret
      exact ⟨upTo_of _ (by rw [bsz]; omega), d2.out⟩
def bends : List (List UInt8) := [[61], [120], [52], [65], [32, 32], [10], [51, 51], [58]]
def oddT : List (List UInt8) := [[], [32], [120, 43, 49], [120, 61, 61, 121], [120, 61, 121], [97, 98, 99, 100, 101, 102, 103, 104, 105], [49, 50], [52], [120, 58, 61, 49, 59], [35], [120, 10]]
theorem sum_small : ∀ {l : List Tok}, (∀ t ∈ l, SmallT t) → ((l.map Tok.s).map List.length).sum ≤ l.length * 8
  | [], _ => by simp
  | t :: r, h => by
    have h1 := (h t (by simp)).2
    have h2 := sum_small (l := r) (fun x hx => h x (by simp [hx]))
    simp only [List.map_cons, List.sum_cons, List.length_cons]
    omega
set_option maxHeartbeats 4000000 in
theorem drawTokenize (A : Option Addr) (c : Nat) (xs : List UInt8) (w : World) (hr : Rd w w.heap.size A (xs.map bv)) (hn : xs.length ≤ 1048576) :
    Calls Tryd.prog 6 #[.slice A xs.length c] w fun e w' => UpTo 140737488355340 e ∧ Below w.heap.size w w' := by
  have h1 := hid (new_any A c xs w hr hn)
  clear hr hn
  go_enter Tryd.func6, Tryd.ntmps6
  go_wp2_with fail
  refine h1.out.mono ?_
  rintro e w1 ⟨g, hg, rfl, hc, hb⟩
  have B1 := hid hb
  have s1 := hb.size
  have hc := hid hc
  clear hb h1
  go_wp2_with fail
  refine (tokens_any g A c xs w1 hc.out).mono ?_
  rintro e w2 ⟨⟨v, l, rfl, hrow, hl, hm⟩, hd⟩
  have B2 := hid (drew_below hg B1.out hd)
  have D2 := hid hd.1
  have s2 := hd.2.size
  obtain ⟨Al, cl, hrd⟩ : ∃ Al cl, v = .slice Al l.length cl ∧ Rd w2 w2.heap.size Al (cellsT l) := by
    obtain ⟨Al, cl, hv, h2, _⟩ := (OwnT.of_row hrow).read
    exact ⟨Al, cl, hv, h2⟩
  obtain ⟨rfl, hrd⟩ := hrd
  have hf : ∀ t ∈ l, FitT t := fun t ht => (hm t ht).1
  have hz : szK l ≤ 1048576 := by
    have := sum_small hm
    unfold szK Lh.szL; rw [List.length_map]; omega
  have hfl := fmt_len hf hz
  have hsf := hid (sfmt Al cl l w2 hrd hf hz)
  generalize fmtT l = S at *
  clear hd hrow hrd hm hf hz hl
  go_wp2_with fail
  refine hsf.out.mono ?_
  rintro e w3 ⟨rfl, hb3⟩
  have B3 := hid (B2.out.trans (hb3.mono B2.out.size))
  have D3 := hid (cur_below D2.out (hb3.mono (cur_lt D2.out)))
  have s3 := hb3.size
  clear hb3 hsf B2 D2
  go_wp2_with fail
  refine (below_any g A c xs 4 w3 D3.out (by omega) (by omega)).mono ?_
  rintro e w4 ⟨⟨q, rfl, hq, _⟩, hd⟩
  have B4 := hid (drew_below hg B3.out hd)
  have D4 := hid hd.1
  have s4 := hd.2.size
  clear hd B3 D3
  by_cases q0 : q = 0
  · subst q0
    have hgl := cur_lt D4.out
    have ht := hid (turned_any g A c xs S (by omega) (some ⟨w4.heap.size, 0, none⟩) 8 bends (w4.alloc (.cells (bends.map sv).toArray 9)) (cur_alloc D4.out _) ((Blk.new w4 9 (bends.map sv)).rd.more (by simp)) (fun ad e => by cases e; exact fun h => by simp at h; omega) (by decide) (by decide) (by decide))
    go_wp2_with fail
    refine ht.out.mono ?_
    rintro e w5 ⟨⟨r, rfl, hr⟩, hd⟩
    have B5 := hid (drew_below hg B4.out (drew_alloc hd))
    clear hd ht
    go_wp2_with fail
    go_ret
    exact ⟨⟨r, rfl, by omega⟩, B5.out⟩
  · have e0 : ((q : Int) == 0) = false := beq_false_of_ne (by omega)
    by_cases q1 : q = 1
    · subst q1
      go_wp2_with fail
      refine (pick_lit g A c xs oddT w4 D4.out (by decide) (by decide)).mono ?_
      rintro e w5 ⟨⟨s, hs, rfl⟩, hd⟩
      have B5 := hid (drew_below hg B4.out hd)
      have hs : s.length ≤ 9 := (show ∀ s ∈ oddT, s.length ≤ 9 by decide) s hs
      clear hd
      go_wp2_with fail
      go_ret
      exact ⟨⟨s, rfl, by omega⟩, B5.out⟩
    · have e1 : ((q : Int) == 1) = false := beq_false_of_ne (by omega)
      go_wp2_with fail
      go_ret
      exact ⟨⟨S, rfl, by omega⟩, B4.out⟩
end Go.Proofs.YtgjdccibdgedbaaDoor.Dr
