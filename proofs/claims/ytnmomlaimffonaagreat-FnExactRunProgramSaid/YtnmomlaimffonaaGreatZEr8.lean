/- Data read beside blocks that turn: the world, a block struck out. -/
import Derived.Test.YtnmomlaimffonaaGreatZSt1
import Derived.Test.YtnmomlaimffonaaGreatZIm
import Derived.Maps.AppendAt
set_option maxRecDepth 100000
namespace Go.Proofs.YtnmomlaimffonaaGreat.Gd
open Go.RowKit Go.Lib Com Mem YtnmomlaimffonaaGreat.Os Tr
def Cry (w w' : World) (B : Nat) : Prop := ∀ (p : Addr) (v : Value), p.block < B → w.cell? p = some v → w'.cell? p = some v
theorem Cry.of_below {w w' : World} {B : Nat} (h : Below B w w') : Cry w w' B := fun p v hp hv => by
  unfold World.cell? at *
  rw [h.block _ hp]; exact hv
theorem LdN.cry {w w' : World} {B : Nat} {a : Addr} {cs : List Value} (h : LdN w a cs) (hc : Cry w w' B) (ha : a.block < B) : LdN w' a cs := fun i u hu => hc _ _ (by rw [add_block]; exact ha) (h i u hu)
theorem rd_cry {w w' : World} {B B' : Nat} {A : Option Addr} {xs : List Value} (h : Rd w B A xs) (hc : Cry w w' B) (hB : B ≤ B') : Rd w' B' A xs := fun hne => by
  obtain ⟨ad, e, hb, hr⟩ := h hne
  exact ⟨ad, e, by omega, fun j u hu => hc _ _ (by rw [add_block]; exact hb) (hr j u hu)⟩
theorem Ex.cry {w w' : World} {B B' : Nat} {v : Value} {t : T} (h : Ex w B v t) (hc : Cry w w' B) (hB : B ≤ B') : Ex w' B' v t := by
  induction h with
  | mk A c vs hs ha hcell hk ih =>
    refine .mk A c vs hs ha (fun j hj => ?_) ih
    obtain ⟨ad, e, hb, c0, c1, c2, c3, ev, h0, h1, h2, h3⟩ := hcell j hj
    have hb' : (ad.add (j * 4)).block < B := by rw [add_block]; exact hb
    exact ⟨ad, e, by omega, c0, c1, c2, c3, ev, hc _ _ hb' h0, hc _ _ hb' h1, hc _ _ hb' h2, hc _ _ hb' h3⟩
theorem Rd8.cry {w w' : World} {B B' : Nat} {cs : List Value} {ds : List D} (h : Rd8 w B cs ds) (hc : Cry w w' B) (hB : B ≤ B') : Rd8 w' B' cs ds := by
  induction h with
  | nil => exact .nil
  | i _ ih => exact .i ih
  | b _ ih => exact .b ih
  | s h _ ih => exact .s h ih
  | x h _ ih => exact .x (Ex.cry h hc hB) ih
  | ss h hs hl _ ih => exact .ss (rd_cry h hc hB) hs hl ih
  | is h hl _ ih => exact .is (rd_cry h hc hB) hl ih
  | sl rows hl hcell _ _ ihk ih =>
    refine .sl rows hl (fun j hj => ?_) ihk ih
    obtain ⟨h0, ad, e, hb, hld⟩ := hcell j hj
    exact ⟨h0, ad, e, by omega, hld.cry hc (by rw [add_block]; exact hb)⟩
theorem Row.cry {w w' : World} {B B' n : Nat} {A : Option Addr} {l : List (List D)} {rows : Nat → List Value} (h : Row w B n A l rows) (hc : Cry w w' B) (hB : B ≤ B') : Row w' B' n A l rows :=
  ⟨fun j hj => by
    obtain ⟨h0, ad, e, hb, hl⟩ := h.cell j hj
    exact ⟨h0, ad, e, by omega, hl.cry hc (by rw [add_block]; exact hb)⟩, fun j a ha => (h.kid j a ha).cry hc hB⟩
def ez (w : World) (h : Nat) : World := { w with heap := w.heap.setIfInBounds h (.cells #[] 0 (7, 7)) }
theorem ez_size (w : World) (h : Nat) : (ez w h).heap.size = w.heap.size := by simp [ez]
theorem ez_other (w : World) {h k : Nat} (hk : k ≠ h) : (ez w h).heap[k]? = w.heap[k]? := by
  unfold ez
  rw [Array.getElem?_setIfInBounds_ne (by omega)]
theorem ez_self (w : World) (h : Nat) (p : Addr) (hp : p.block = h) : (ez w h).cell? p = none := by
  subst hp
  unfold World.cell?
  by_cases hk : p.block < w.heap.size
  · have : (ez w p.block).heap[p.block]? = some (.cells #[] 0 (7, 7)) := by
      unfold ez
      rw [Array.getElem?_setIfInBounds_self_of_lt hk]
    rw [this]
    simp
  · have : (ez w p.block).heap[p.block]? = none := by
      rw [Array.getElem?_eq_none]
      rw [ez_size]; omega
    rw [this]
theorem ez_cell {w : World} {h : Nat} {p : Addr} {v : Value} (hv : (ez w h).cell? p = some v) : p.block ≠ h ∧ w.cell? p = some v := by
  have hne : p.block ≠ h := fun e => by rw [ez_self w h p e] at hv; cases hv
  refine ⟨hne, ?_⟩
  unfold World.cell? at *
  rw [ez_other w hne] at hv
  exact hv
open Pl
def ezo (w : World) : Option Nat → World
  | none => w
  | some b => ez w b
theorem ezo_cell {w : World} {o : Option Nat} {p : Addr} {v : Value} (hv : (ezo w o).cell? p = some v) : (∀ b, o = some b → p.block ≠ b) ∧ w.cell? p = some v := by
  cases o with
  | none => exact ⟨(fun b h => by cases h), hv⟩
  | some b => exact ⟨(fun c h => by cases h; exact (ez_cell hv).1), (ez_cell hv).2⟩
theorem ezo_cell_in {w : World} {o : Option Nat} {p : Addr} {v : Value} (h : ∀ b, o = some b → p.block ≠ b) (hv : w.cell? p = some v) : (ezo w o).cell? p = some v := by
  cases o with
  | none => exact hv
  | some b =>
    show (ez w b).cell? p = some v
    unfold World.cell? at *
    rw [ez_other w (h b rfl)]; exact hv
def ezb0 (w : World) (lo : Nat) : World := { w with heap := w.heap.mapIdx fun k o => if k < lo then .cells #[] 0 (7, 7) else o }
def ezb (w : World) (lo : Nat) : World := pln (ezb0 w lo)
theorem ezb0_at (w : World) {lo k : Nat} (h : lo ≤ k) : (ezb0 w lo).heap[k]? = w.heap[k]? := by
  unfold ezb0
  simp only [Array.getElem?_mapIdx, if_neg (show ¬ k < lo by omega), Option.map_id']
theorem ezb0_low (w : World) {lo : Nat} {p : Addr} (h : p.block < lo) : (ezb0 w lo).cell? p = none := by
  unfold World.cell? ezb0
  simp only [Array.getElem?_mapIdx, if_pos h]
  cases w.heap[p.block]? <;> simp
theorem pln_ezb {w : World} {lo : Nat} {p : Addr} (h : lo ≤ p.block) : (ezb w lo).cell? p = (pln w).cell? p := by
  unfold World.cell?
  rw [show (ezb w lo).heap[p.block]? = (pln w).heap[p.block]? from pln_keep (ezb0_at w h)]
theorem ezb_cell {w : World} {lo : Nat} {p : Addr} {v : Value} (hv : (ezb w lo).cell? p = some v) : lo ≤ p.block ∧ (pln w).cell? p = some v := by
  have hlo : lo ≤ p.block := by
    rcases Nat.lt_or_ge p.block lo with h | h
    · have := (pln_cell hv).1
      rw [ezb0_low w h] at this; cases this
    · exact h
  exact ⟨hlo, by rw [← pln_ezb hlo]; exact hv⟩
theorem ezb_in {w : World} {lo : Nat} {p : Addr} {v : Value} (h : lo ≤ p.block) (hv : (pln w).cell? p = some v) : (ezb w lo).cell? p = some v := by rw [pln_ezb h]; exact hv
theorem Cry.later {w : World} {lo lo' : Nat} {o : Option Nat} (hl : lo ≤ lo') (h : ∀ b, o = some b → b < lo') (B : Nat) : Cry (ezb w lo') (ezo (ezb w lo) o) B := fun p v _ hv => by
  obtain ⟨h1, hv⟩ := ezb_cell hv
  exact ezo_cell_in (fun b e => by have := h b e; omega) (ezb_in (by omega) hv)
theorem own_ge {w : World} {base e sz m : Nat} {v : Value} {xs : List Value} (h : w.ownsRow base e sz v m xs) {b : Nat} (hb : v.ownBlock = some b) : base ≤ b ∧ b < w.heap.size := by
  rcases h.2 with ⟨rfl, _⟩ | ⟨g, cap, cur, rfl, hg, hblk, _⟩
  · cases hb
  · cases hb
    exact ⟨hg, (Array.getElem?_eq_some_iff.1 hblk).1⟩
theorem own_keep {w w' : World} {base e sz m : Nat} {v : Value} {xs : List Value} (h : w.ownsRow base e sz v m xs) (hk : ∀ b, v.ownBlock = some b → w'.heap[b]? = w.heap[b]?) : w'.ownsRow base e sz v m xs := by
  refine ⟨h.1, ?_⟩
  rcases h.2 with h | ⟨g, cap, cur, rfl, hg, hblk, r⟩
  · exact Or.inl h
  · exact Or.inr ⟨g, cap, cur, rfl, hg, (hk g rfl).trans hblk, r⟩
end Go.Proofs.YtnmomlaimffonaaGreat.Gd
