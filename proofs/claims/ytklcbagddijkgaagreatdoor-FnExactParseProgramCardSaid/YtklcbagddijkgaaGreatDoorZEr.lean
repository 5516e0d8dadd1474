/- Expressions of the call's own beside a block that turns: a variable amid them. -/
import Derived.Test.YtklcbagddijkgaaGreatDoorZTr
set_option maxRecDepth 100000
namespace Go.Proofs.YtklcbagddijkgaaGreatDoor.Tr
open Go.RowKit Go.Lib Go.Sort Go.Proofs.YtklcbagddijkgaaGreatDoor.Com Go.Proofs.YtklcbagddijkgaaGreatDoor.Mem Go.Proofs.YtklcbagddijkgaaGreatDoor.Os

/-- the world, its block h struck out -/
def er (w : World) (h : Nat) : World := { w with heap := w.heap.setIfInBounds h (.cells #[.nilFunc] 0 (7, 7)) }
theorem er_size (w : World) (h : Nat) : (er w h).heap.size = w.heap.size := by simp [er]
theorem er_other (w : World) {h k : Nat} (hk : k ≠ h) : (er w h).heap[k]? = w.heap[k]? := by
  unfold er
  rw [Array.getElem?_setIfInBounds_ne (by omega)]
theorem er_self {w : World} {h : Nat} (hk : h < w.heap.size) : (er w h).heap[h]? = some (.cells #[.nilFunc] 0 (7, 7)) := by
  unfold er
  rw [Array.getElem?_setIfInBounds_self_of_lt hk]
theorem er_blk {w : World} {h g t : Nat} {cs : List Value} (hb : Blk (er w h) g t cs) : Blk w g t cs := by
  by_cases e : g = h
  · subst e
    exfalso
    have h1 := hb.lt
    rw [er_size] at h1
    unfold Blk at hb
    rw [er_self h1] at hb
    simp at hb
  · unfold Blk at hb ⊢
    rw [← hb, er_other w e]
theorem OwnE.er_out {ty : TypeId} {w : World} {h lo hi : Nat} {v : Value} {t : T} (ho : OwnE ty (er w h) lo hi v t) : OwnE ty w lo hi v t := by
  induction ho with
  | mk A c vs ls hs hsl hkl hA hin hdis hk ih =>
    refine .mk A c vs ls hs hsl hkl (fun hne => ?_) hin hdis ih
    obtain ⟨g, cs, e, h1, h2, hb, hr, hd⟩ := hA hne
    exact ⟨g, cs, e, h1, h2, er_blk hb, hr, hd⟩
theorem OwnE.er_in {ty : TypeId} {w : World} {h lo hi : Nat} {v : Value} {t : T} (ho : OwnE ty w lo hi v t) (hh : h < lo ∨ hi ≤ h) : OwnE ty (er w h) lo hi v t :=
  ho.same fun k h1 h2 => er_other w (by omega)
/-- the block may turn, and new ones come -/
theorem OwnE.er_go {ty : TypeId} {w w' : World} {h lo hi : Nat} {v : Value} {t : T} (ho : OwnE ty (er w h) lo hi v t) (hh : h < w.heap.size) (hs : w.heap.size ≤ w'.heap.size) (hsm : ∀ k, lo ≤ k → k < hi → k ≠ h → w'.heap[k]? = w.heap[k]?) : OwnE ty (er w' h) lo hi v t :=
  ho.same fun k h1 h2 => by
    by_cases e : k = h
    · subst e
      rw [er_self hh, er_self (by omega)]
    · rw [er_other w e, er_other w' e]; exact hsm k h1 h2 e
theorem er_new {w : World} {h b t : Nat} {cs : List Value} (hb : Blk w b t cs) (hne : b ≠ h) : Blk (er w h) b t cs := by
  unfold Blk at hb ⊢
  rw [er_other w hne]; exact hb
end Go.Proofs.YtklcbagddijkgaaGreatDoor.Tr
