/- What all draws share. -/
import Derived.Test.YtgjdccibdgedbaaDoorCur
set_option maxRecDepth 100000
namespace Go.Proofs.YtgjdccibdgedbaaDoor.Dr
open Go.RowKit Go.Lib Go.Proofs.YtgjdccibdgedbaaDoor.Com Go.Proofs.YtgjdccibdgedbaaDoor.Mem Go.Proofs.YtgjdccibdgedbaaDoor.Cur

theorem cur_below {w w' : World} {g c : Nat} {A : Option Addr} {xs : List UInt8} (h : CurAt w g A c xs) (hb : Below (g + 1) w w') : CurAt w' g A c xs := by
  obtain ⟨i, H, hblk, hi, hr, hn, h1, h2⟩ := h
  exact ⟨i, H, hblk.below hb (by omega), hi, hr.below (hb.mono (by omega)), hn, h1, h2⟩
theorem cur_lt {w : World} {g c : Nat} {A : Option Addr} {xs : List UInt8} (h : CurAt w g A c xs) : g < w.heap.size := by
  obtain ⟨i, H, hblk, _⟩ := h; exact hblk.lt
theorem cur_alloc {w : World} {g c : Nat} {A : Option Addr} {xs : List UInt8} (h : CurAt w g A c xs) (o : Obj) : CurAt (w.alloc o) g A c xs :=
  cur_below h ((Below.refl _ _).alloc (cur_lt h) o)

/-- what a draw of a draw leaves, where new blocks may have been made -/
theorem drew_alloc {w w' : World} {g c : Nat} {A : Option Addr} {xs : List UInt8} {o : Obj} (h : Drew (w.alloc o) g A c xs w') : Drew w g A c xs w' :=
  ⟨h.1, gb_trans (World.grownBy_alloc w o _) h.2⟩

theorem pick_lit (g : Nat) (A : Option Addr) (c : Nat) (xs : List UInt8) (l : List (List UInt8)) (w : World) (hc : CurAt w g A c xs) (h0 : 0 < l.length) (hl : l.length ≤ 1048576) :
    Calls Tryd.prog 19 #[.pointer (some ⟨g, 0, none⟩), .slice (some ⟨w.heap.size, 0, none⟩) l.length l.length] (w.alloc (.cells (l.map sv).toArray 9)) fun e w' => (∃ s ∈ l, e = .returned (sv s)) ∧ Drew w g A c xs w' :=
  (pick_any g A c xs (some ⟨w.heap.size, 0, none⟩) l.length l _ (cur_alloc hc _) ((Blk.new w 9 (l.map sv)).rd.more (by simp)) (fun ad e => by cases e; exact fun h => by have := cur_lt hc; simp at h; omega) h0 hl).mono fun _ _ h => ⟨h.1, drew_alloc h.2⟩

/-- a cursor that the call itself has made, and then drawn from: nothing that was there has turned -/
theorem drew_below {w w1 w2 : World} {g c : Nat} {A : Option Addr} {xs : List UInt8} (hg : w.heap.size ≤ g) (hb : Below w.heap.size w w1) (h : Drew w1 g A c xs w2) : Below w.heap.size w w2 := bgb hb h.2 hb.size hg

end Go.Proofs.YtgjdccibdgedbaaDoor.Dr
