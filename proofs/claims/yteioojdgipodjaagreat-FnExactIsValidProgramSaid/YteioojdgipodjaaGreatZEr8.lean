/- Data read beside blocks that turn: the world, a block struck out. -/
import Derived.Test.YteioojdgipodjaaGreatZGd
set_option maxRecDepth 100000
namespace Go.Proofs.YteioojdgipodjaaGreat.Gd
open Go.RowKit Go.Lib Go.Proofs.YteioojdgipodjaaGreat.Com Go.Proofs.YteioojdgipodjaaGreat.Mem Go.Proofs.YteioojdgipodjaaGreat.Os Go.Proofs.YteioojdgipodjaaGreat.Tr

/-- what w holds below B, w' holds -/
def Cry (w w' : World) (B : Nat) : Prop := ∀ (p : Addr) (v : Value), p.block < B → w.cell? p = some v → w'.cell? p = some v
theorem Cry.trans {a b d : World} {B B' : Nat} (h : Cry a b B) (k : Cry b d B') (hB : B ≤ B') : Cry a d B := fun p v hp hv => k p v (by omega) (h p v hp hv)
theorem Cry.of_below {w w' : World} {B : Nat} (h : Below B w w') : Cry w w' B := fun p v hp hv => by
  unfold World.cell? at *
  rw [h.block _ hp]; exact hv
theorem LdN.cry {w w' : World} {B : Nat} {a : Addr} {cs : List Value} (h : LdN w a cs) (hc : Cry w w' B) (ha : a.block < B) : LdN w' a cs := fun i u hu => hc _ _ (by rw [add_block]; exact ha) (h i u hu)
theorem rd_cry {w w' : World} {B B' : Nat} {A : Option Addr} {xs : List Value} (h : Rd w B A xs) (hc : Cry w w' B) (hB : B ≤ B') : Rd w' B' A xs := fun hne => by
  obtain ⟨ad, e, hb, hr⟩ := h hne
  exact ⟨ad, e, by omega, fun j u hu => hc _ _ (by rw [add_block]; exact hb) (hr j u hu)⟩
theorem Ex.cry {w w' : World} {B B' : Nat} {v : Value} {t : T} (h : Ex w B v t) (hc : Cry w w' B) (hB : B ≤ B') : Ex w' B' v t := by
  induction h with
  | mk A c vs hs ha hcell hk ih =>
    refine .mk A c vs hs ha (fun j hj => ?_) ih
    obtain ⟨ad, e, hb, c0, c1, c2, c3, ev, h0, h1, h2, h3⟩ := hcell j hj
    have hb' : (ad.add (j * 4)).block < B := by rw [add_block]; exact hb
    exact ⟨ad, e, by omega, c0, c1, c2, c3, ev, hc _ _ hb' h0, hc _ _ hb' h1, hc _ _ hb' h2, hc _ _ hb' h3⟩
theorem Rd8.cry {w w' : World} {B B' : Nat} {cs : List Value} {ds : List D} (h : Rd8 w B cs ds) (hc : Cry w w' B) (hB : B ≤ B') : Rd8 w' B' cs ds := by
  induction h with
  | nil => exact .nil
  | i _ ih => exact .i ih
  | b _ ih => exact .b ih
  | s h _ ih => exact .s h ih
  | x h _ ih => exact .x (Ex.cry h hc hB) ih
  | ss h hs hl _ ih => exact .ss (rd_cry h hc hB) hs hl ih
  | is h hl _ ih => exact .is (rd_cry h hc hB) hl ih
  | sl rows hl hcell _ _ ihk ih =>
    refine .sl rows hl (fun j hj => ?_) ihk ih
    obtain ⟨h0, ad, e, hb, hld⟩ := hcell j hj
    exact ⟨h0, ad, e, by omega, hld.cry hc (by rw [add_block]; exact hb)⟩
theorem Row.cry {w w' : World} {B B' n : Nat} {A : Option Addr} {l : List (List D)} {rows : Nat → List Value} (h : Row w B n A l rows) (hc : Cry w w' B) (hB : B ≤ B') : Row w' B' n A l rows :=
  ⟨fun j hj => by
    obtain ⟨h0, ad, e, hb, hl⟩ := h.cell j hj
    exact ⟨h0, ad, e, by omega, hl.cry hc (by rw [add_block]; exact hb)⟩, fun j a ha => (h.kid j a ha).cry hc hB⟩
/-- the world, block h struck out -/
def ez (w : World) (h : Nat) : World := { w with heap := w.heap.setIfInBounds h (.cells #[] 0 (7, 7)) }
theorem ez_size (w : World) (h : Nat) : (ez w h).heap.size = w.heap.size := by simp [ez]
theorem ez_other (w : World) {h k : Nat} (hk : k ≠ h) : (ez w h).heap[k]? = w.heap[k]? := by
  unfold ez
  rw [Array.getElem?_setIfInBounds_ne (by omega)]
theorem ez_self (w : World) (h : Nat) (p : Addr) (hp : p.block = h) : (ez w h).cell? p = none := by
  subst hp
  unfold World.cell?
  by_cases hk : p.block < w.heap.size
  · have : (ez w p.block).heap[p.block]? = some (.cells #[] 0 (7, 7)) := by
      unfold ez
      rw [Array.getElem?_setIfInBounds_self_of_lt hk]
    rw [this]
    simp
  · have : (ez w p.block).heap[p.block]? = none := by
      rw [Array.getElem?_eq_none]
      rw [ez_size]; omega
    rw [this]
theorem ez_cell {w : World} {h : Nat} {p : Addr} {v : Value} (hv : (ez w h).cell? p = some v) : p.block ≠ h ∧ w.cell? p = some v := by
  have hne : p.block ≠ h := fun e => by rw [ez_self w h p e] at hv; cases hv
  refine ⟨hne, ?_⟩
  unfold World.cell? at *
  rw [ez_other w hne] at hv
  exact hv
theorem Cry.ez_out (w : World) (h B : Nat) : Cry (ez w h) w B := fun _ _ _ hv => (ez_cell hv).2
theorem Cry.ez_in (w : World) {h B : Nat} (hB : B ≤ h) : Cry w (ez w h) B := fun p v hp hv => by
  unfold World.cell? at *
  rw [ez_other w (by omega)]; exact hv
theorem Cry.ez {w w' : World} {h B : Nat} (hc : ∀ k, k < B → k ≠ h → w'.heap[k]? = w.heap[k]?) : Cry (ez w h) (ez w' h) B := fun p v hp hv => by
  obtain ⟨hne, hv⟩ := ez_cell hv
  unfold World.cell? at *
  rw [ez_other w' hne, hc _ hp hne]; exact hv
theorem Cry.ez_below {w w' : World} {h B : Nat} (hb : Below B w w') : Cry (Gd.ez w h) (Gd.ez w' h) B := Cry.ez fun k hk _ => hb.block k hk
theorem Cry.ez_grown {w w' : World} {h : Nat} (hg : w.grownBy w' (some h)) : Cry (Gd.ez w h) (Gd.ez w' h) w.heap.size := Cry.ez fun k hk hne => hg.block k hk (fun e => by cases e; exact hne rfl)
end Go.Proofs.YteioojdgipodjaaGreat.Gd
