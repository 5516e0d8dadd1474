/- Data read beside blocks that turn: the world, a block struck out. -/
import Derived.Test.YtjglllpemhkkdaaGreatDoorZGd
import Derived.Test.YtjglllpemhkkdaaGreatDoorZSt1
import Derived.Test.YtjglllpemhkkdaaGreatDoorZIm
import Derived.Maps.AppendAt
set_option maxRecDepth 100000
namespace Go.Proofs.YtjglllpemhkkdaaGreatDoor.Gd
open Go.RowKit Go.Lib Com Mem YtjglllpemhkkdaaGreatDoor.Os Tr

def Cry (w w' : World) (B : Nat) : Prop := ∀ (p : Addr) (v : Value), p.block < B → w.cell? p = some v → w'.cell? p = some v
theorem Ex.cry {w w' : World} {B B' : Nat} {v : Value} {t : T} (h : Ex w B v t) (hc : Cry w w' B) (hB : B ≤ B') : Ex w' B' v t := by
  induction h with
  | mk A c vs hs ha hcell hk ih =>
    refine .mk A c vs hs ha (fun j hj => ?_) ih
    obtain ⟨ad, e, hb, c0, c1, c2, c3, ev, h0, h1, h2, h3⟩ := hcell j hj
    have hb' : (ad.add (j * 4)).block < B := by rw [add_block]; exact hb
    exact ⟨ad, e, by omega, c0, c1, c2, c3, ev, hc _ _ hb' h0, hc _ _ hb' h1, hc _ _ hb' h2, hc _ _ hb' h3⟩
open Pl

theorem own_ge {w : World} {base e sz m : Nat} {v : Value} {xs : List Value} (h : w.ownsRow base e sz v m xs) {b : Nat} (hb : v.ownBlock = some b) : base ≤ b ∧ b < w.heap.size := by
  rcases h.2 with ⟨rfl, _⟩ | ⟨g, cap, cur, rfl, hg, hblk, _⟩
  · cases hb
  · cases hb
    exact ⟨hg, (Array.getElem?_eq_some_iff.1 hblk).1⟩
theorem own_keep {w w' : World} {base e sz m : Nat} {v : Value} {xs : List Value} (h : w.ownsRow base e sz v m xs) (hk : ∀ b, v.ownBlock = some b → w'.heap[b]? = w.heap[b]?) : w'.ownsRow base e sz v m xs := by
  refine ⟨h.1, ?_⟩
  rcases h.2 with h | ⟨g, cap, cur, rfl, hg, hblk, r⟩
  · exact Or.inl h
  · exact Or.inr ⟨g, cap, cur, rfl, hg, (hk g rfl).trans hblk, r⟩
end Go.Proofs.YtjglllpemhkkdaaGreatDoor.Gd
