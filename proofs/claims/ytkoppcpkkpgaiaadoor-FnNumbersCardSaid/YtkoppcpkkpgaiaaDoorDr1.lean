/- Chapter 1's draws. -/
import Derived.Test.YtkoppcpkkpgaiaaDoorCur
import Derived.Test.YtkoppcpkkpgaiaaDoorC1
namespace Go.Proofs.YtkoppcpkkpgaiaaDoor.Dr
open Go.RowKit Go.Lib Go.Proofs.YtkoppcpkkpgaiaaDoor.Com Go.Proofs.YtkoppcpkkpgaiaaDoor.Mem Go.Proofs.YtkoppcpkkpgaiaaDoor.Cur

theorem cur_below {w w' : World} {g c : Nat} {A : Option Addr} {xs : List UInt8} (h : CurAt w g A c xs) (hb : Below (g + 1) w w') : CurAt w' g A c xs := by
  obtain ⟨i, H, hblk, hi, hr, hn, h1, h2⟩ := h
  exact ⟨i, H, hblk.below hb (by omega), hi, hr.below (hb.mono (by omega)), hn, h1, h2⟩
theorem cur_lt {w : World} {g c : Nat} {A : Option Addr} {xs : List UInt8} (h : CurAt w g A c xs) : g < w.heap.size := by
  obtain ⟨i, H, hblk, _⟩ := h; exact hblk.lt
theorem cur_alloc {w : World} {g c : Nat} {A : Option Addr} {xs : List UInt8} (h : CurAt w g A c xs) (o : Obj) : CurAt (w.alloc o) g A c xs :=
  cur_below h ((Below.refl _ _).alloc (cur_lt h) o)

/-- what a draw of a draw leaves, where new blocks may have been made -/
theorem drew_alloc {w w' : World} {g c : Nat} {A : Option Addr} {xs : List UInt8} {o : Obj} (h : Drew (w.alloc o) g A c xs w') : Drew w g A c xs w' :=
  ⟨h.1, gb_trans (World.grownBy_alloc w o _) h.2⟩

theorem pickInt_lit (g : Nat) (A : Option Addr) (c : Nat) (xs : List UInt8) (l : List Int) (w : World) (hc : CurAt w g A c xs) (h0 : 0 < l.length) (hl : l.length ≤ 1048576) :
    Calls Tryd.prog 23 #[.pointer (some ⟨g, 0, none⟩), .slice (some ⟨w.heap.size, 0, none⟩) l.length l.length] (w.alloc (.cells (l.map (Value.int .i64)).toArray 3)) fun e w' => (∃ s ∈ l, e = .returned (.int .i64 s)) ∧ Drew w g A c xs w' :=
  (pickInt_any g A c xs (some ⟨w.heap.size, 0, none⟩) l.length l _ (cur_alloc hc _) ((Blk.new w 3 (l.map (Value.int .i64))).rd.more (by simp)) (fun ad e => by cases e; exact fun h => by have := cur_lt hc; simp at h; omega) h0 hl).mono fun _ _ h => ⟨h.1, drew_alloc h.2⟩
theorem pick_lit (g : Nat) (A : Option Addr) (c : Nat) (xs : List UInt8) (l : List (List UInt8)) (w : World) (hc : CurAt w g A c xs) (h0 : 0 < l.length) (hl : l.length ≤ 1048576) :
    Calls Tryd.prog 18 #[.pointer (some ⟨g, 0, none⟩), .slice (some ⟨w.heap.size, 0, none⟩) l.length l.length] (w.alloc (.cells (l.map sv).toArray 9)) fun e w' => (∃ s ∈ l, e = .returned (sv s)) ∧ Drew w g A c xs w' :=
  (pick_any g A c xs (some ⟨w.heap.size, 0, none⟩) l.length l _ (cur_alloc hc _) ((Blk.new w 9 (l.map sv)).rd.more (by simp)) (fun ad e => by cases e; exact fun h => by have := cur_lt hc; simp at h; omega) h0 hl).mono fun _ _ h => ⟨h.1, drew_alloc h.2⟩

def i64s : List Int := [0, 1, -1, 9, 10, 999999, 1000000, 999999999999, 1000000000000, -999999999999, 9223372036854775807, -9223372036854775808]
theorem i64s_in : ∀ x ∈ i64s, -9223372036854775808 ≤ x ∧ x ≤ 9223372036854775807 := by decide

set_option maxRecDepth 100000 in
set_option maxHeartbeats 1000000 in
theorem whole_any (g : Nat) (A : Option Addr) (c : Nat) (xs : List UInt8) (w : World) (hc : CurAt w g A c xs) :
    Calls Tryd.prog 12 #[.pointer (some ⟨g, 0, none⟩)] w fun e w' => (∃ n : Int, -9223372036854775808 ≤ n ∧ n ≤ 9223372036854775807 ∧ e = .returned (.int .i64 n)) ∧ Drew w g A c xs w' := by
  have hb := hid (fun (n : Int) (h1 : -9223372036854775808 ≤ n) (h2 : n ≤ 9223372036854775807) w1 h => below_any g A c xs n w1 h h1 h2)
  go_enter Tryd.func12, Tryd.ntmps12
  go_wp2_with fail
  refine (hb.out 3 (by omega) (by omega) _ hc).mono ?_
  rintro e w1 ⟨⟨q, rfl, hq, _⟩, hd⟩
  have hd := hid hd
  have hq3 : q = 0 ∨ q = 1 ∨ q = 2 := by omega
  clear hq
  rcases hq3 with rfl | rfl | rfl
  · go_wp2_with fail
    refine (pickInt_lit g A c xs i64s w1 hd.out.1 (by decide) (by decide)).mono ?_
    rintro e w2 ⟨⟨n, hn, rfl⟩, hd2⟩
    have hn := i64s_in n hn
    have hd2 := hid hd2
    go_wp2_with fail
    go_ret
    exact ⟨⟨n, hn.1, hn.2, rfl⟩, hd2.out.1, gb_trans hd.out.2 hd2.out.2⟩
  · go_wp2_with fail
    refine (hb.out _ (by omega) (by omega) _ hd.out.1).mono ?_
    rintro e w2 ⟨⟨q, rfl, hq, hq2⟩, hd2⟩
    have hd2 := hid hd2
    have hq : q < 1000000 := by omega
    go_wp2_with fail
    go_ret
    exact ⟨⟨_, by omega, by omega, rfl⟩, hd2.out.1, gb_trans hd.out.2 hd2.out.2⟩
  · go_wp2_with fail
    refine (hb.out _ (by omega) (by omega) _ hd.out.1).mono ?_
    rintro e w2 ⟨⟨q, rfl, hq, hq2⟩, hd2⟩
    have hd2 := hid hd2
    go_wp2_with fail
    go_ret
    exact ⟨⟨q, by omega, by omega, rfl⟩, hd2.out.1, gb_trans hd.out.2 hd2.out.2⟩

/-- a cursor that the call itself has made, and then drawn from: nothing that was there has turned -/
theorem drew_below {w w1 w2 : World} {g c : Nat} {A : Option Addr} {xs : List UInt8} (hg : w.heap.size ≤ g) (hb : Below w.heap.size w w1) (h : Drew w1 g A c xs w2) : Below w.heap.size w w2 := bgb hb h.2 hb.size hg

set_option maxHeartbeats 1000000 in
theorem drawFormatInt (A : Option Addr) (c : Nat) (xs : List UInt8) (w : World) (hr : Rd w w.heap.size A (xs.map bv)) (hn : xs.length ≤ 1048576) :
    Calls Tryd.prog 5 #[.slice A xs.length c] w fun e w' => (∃ n : Int, -9223372036854775808 ≤ n ∧ n ≤ 9223372036854775807 ∧ e = .returned (.int .i64 n)) ∧ Below w.heap.size w w' := by
  have h1 := hid (new_any A c xs w hr hn)
  go_enter Tryd.func5, Tryd.ntmps5
  go_wp2_with fail
  refine h1.out.mono ?_
  rintro e w1 ⟨g, hg, rfl, hc, hb⟩
  go_wp2_with fail
  refine (whole_any g A c xs w1 hc).mono ?_
  rintro e w2 ⟨⟨n, h1, h2, rfl⟩, hd⟩
  go_wp2_with fail
  go_ret
  exact ⟨⟨n, h1, h2, rfl⟩, drew_below hg hb hd⟩

def odd : List (List UInt8) := [[], [48, 48], [48, 49], [45, 49], [43, 49], [120], [57, 57, 57, 57, 57, 57], [49, 48, 48, 48, 48, 48, 48], [45, 48], [45], [32, 49], [49, 32]]
set_option maxHeartbeats 1000000 in
theorem drawParseNumber (A : Option Addr) (c : Nat) (xs : List UInt8) (w : World) (hr : Rd w w.heap.size A (xs.map bv)) (hn : xs.length ≤ 1048576) :
    Calls Tryd.prog 9 #[.slice A xs.length c] w fun e w' => (∃ s : List UInt8, s.length ≤ 21 ∧ e = .returned (sv s)) ∧ Below w.heap.size w w' := by
  have h1 := hid (new_any A c xs w hr hn)
  go_enter Tryd.func9, Tryd.ntmps9
  go_wp2_with fail
  refine h1.out.mono ?_
  rintro e w1 ⟨g, hg, rfl, hc, hb⟩
  go_wp2_with fail
  refine (once_any g A c xs 2 w1 hc (by omega) (by omega)).mono ?_
  rintro e w2 ⟨⟨b, rfl⟩, hd⟩
  have hb2 := drew_below hg hb hd
  have hc2 := hd.1
  clear hd
  cases b
  · go_wp2_with fail
    refine (pick_lit g A c xs odd w2 hc2 (by decide) (by decide)).mono ?_
    rintro e w3 ⟨⟨s, hs, rfl⟩, hd⟩
    have hb3 := drew_below hg hb2 hd
    have hs : s.length ≤ 21 := (show ∀ s ∈ odd, s.length ≤ 21 by decide) s hs
    clear hd
    go_wp2_with fail
    go_ret
    exact ⟨⟨s, hs, rfl⟩, hb3⟩
  · go_wp2_with fail
    refine (whole_any g A c xs w2 hc2).mono ?_
    rintro e w3 ⟨⟨n, h1, h2, rfl⟩, hd⟩
    have hb3 := drew_below hg hb2 hd
    clear hd
    go_wp2_with fail
    refine (C1.fmt_any n h1 h2 w3).mono ?_
    rintro e w4 ⟨rfl, hb4⟩
    have hs := Num.itoa_size n h1 h2
    go_wp2_with fail
    go_ret
    exact ⟨⟨_, hs, rfl⟩, hb3.trans (hb4.mono hb3.size)⟩
end Go.Proofs.YtkoppcpkkpgaiaaDoor.Dr
