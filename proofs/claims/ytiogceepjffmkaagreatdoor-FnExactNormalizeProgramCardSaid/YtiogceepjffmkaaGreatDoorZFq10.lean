/- FormatProgram over an owned program: the program's and the model's. -/
import Derived.Test.YtiogceepjffmkaaGreatDoorZFo10
import Derived.Test.YtiogceepjffmkaaGreatDoorZDr4
set_option maxRecDepth 100000
namespace Go.Proofs.YtiogceepjffmkaaGreatDoor.Gp
open Go.RowKit Go.Lib Go.Sort Com Mem Ow YtiogceepjffmkaaGreatDoor.Os Tr Tk Im Ag Pl Kd Gs Gd
end Go.Proofs.YtiogceepjffmkaaGreatDoor.Gp
set_option maxRecDepth 100000
namespace Go.Proofs.YtiogceepjffmkaaGreatDoor.Tr
open Go.RowKit Go.Lib Go.Sort Com Mem YtiogceepjffmkaaGreatDoor.Os
def er (w : World) (h : Nat) : World := { w with heap := w.heap.setIfInBounds h (.cells #[.nilFunc] 0 (7, 7)) }
theorem er_size (w : World) (h : Nat) : (er w h).heap.size = w.heap.size := by simp [er]
theorem er_other (w : World) {h k : Nat} (hk : k ≠ h) : (er w h).heap[k]? = w.heap[k]? := by
  unfold er
  rw [Array.getElem?_setIfInBounds_ne (by omega)]
theorem er_self {w : World} {h : Nat} (hk : h < w.heap.size) : (er w h).heap[h]? = some (.cells #[.nilFunc] 0 (7, 7)) := by
  unfold er
  rw [Array.getElem?_setIfInBounds_self_of_lt hk]
theorem er_blk {w : World} {h g t : Nat} {cs : List Value} (hb : Blk (er w h) g t cs) : Blk w g t cs := by
  by_cases e : g = h
  · subst e
    exfalso
    have h1 := hb.lt
    rw [er_size] at h1
    unfold Blk at hb
    rw [er_self h1] at hb
    simp at hb
  · unfold Blk at hb ⊢
    rw [← hb, er_other w e]
theorem OwnE.er_out {ty : TypeId} {w : World} {h lo hi : Nat} {v : Value} {t : T} (ho : OwnE ty (er w h) lo hi v t) : OwnE ty w lo hi v t := by
  induction ho with
  | mk A c vs ls hs hsl hkl hA hin hdis hk ih =>
    refine .mk A c vs ls hs hsl hkl (fun hne => ?_) hin hdis ih
    obtain ⟨g, cs, e, h1, h2, hb, hr, hd⟩ := hA hne
    exact ⟨g, cs, e, h1, h2, er_blk hb, hr, hd⟩
theorem OwnE.er_in {ty : TypeId} {w : World} {h lo hi : Nat} {v : Value} {t : T} (ho : OwnE ty w lo hi v t) (hh : h < lo ∨ hi ≤ h) : OwnE ty (er w h) lo hi v t :=
  ho.same fun k h1 h2 => er_other w (by omega)
theorem OwnE.er_go {ty : TypeId} {w w' : World} {h lo hi : Nat} {v : Value} {t : T} (ho : OwnE ty (er w h) lo hi v t) (hh : h < w.heap.size) (hs : w.heap.size ≤ w'.heap.size) (hsm : ∀ k, lo ≤ k → k < hi → k ≠ h → w'.heap[k]? = w.heap[k]?) : OwnE ty (er w' h) lo hi v t :=
  ho.same fun k h1 h2 => by
    by_cases e : k = h
    · subst e
      rw [er_self hh, er_self (by omega)]
    · rw [er_other w e, er_other w' e]; exact hsm k h1 h2 e
theorem er_new {w : World} {h b t : Nat} {cs : List Value} (hb : Blk w b t cs) (hne : b ≠ h) : Blk (er w h) b t cs := by
  unfold Blk at hb ⊢
  rw [er_other w hne]; exact hb
end Go.Proofs.YtiogceepjffmkaaGreatDoor.Tr
set_option maxRecDepth 100000
namespace Go.Proofs.YtiogceepjffmkaaGreatDoor.Gd
open Go.RowKit Go.Lib Go.Sort Com Mem YtiogceepjffmkaaGreatDoor.Os Tr
section
variable {a b d w w' : World} {R R' : Nat → Prop}
theorem OwnD.sl_inv {A : Option Addr} {l c n : Nat} {L : List (List D)} {cs : List Value} {ds : List D} (h : OwnD w R (.slice A l c :: cs) (.sl n L :: ds)) : l = L.length ∧ L.length ≤ c ∧ c ≤ maxLen ∧ (A = none → c = 0) ∧
    ∃ (R2 : Nat → Prop) (rows : Nat → List Value) (Rs : Nat → Nat → Prop), (∀ ad, A = some ad → ∃ g cs0, ad = ⟨g, 0, none⟩ ∧ R g ∧ ¬ R2 g ∧ Blk w g (tyI n) cs0 ∧ RowsN (wd n) cs0 L.length rows ∧ ∀ j, j < L.length → ¬ Rs j g) ∧
      (∀ j e, L[j]? = some e → OwnD w (Rs j) (rows j) e) ∧ (∀ j g, j < L.length → Rs j g → R g ∧ ¬ R2 g) ∧ (∀ i j g, i < j → j < L.length → Rs i g → ¬ Rs j g) ∧ (∀ g, R2 g → R g) ∧ OwnD w R2 cs ds := by
  cases h with
  | sl rows Rs hl hc h0 hA hk hR' hd' h2' r => exact ⟨rfl, hl, hc, h0, _, rows, Rs, hA, hk, hR', hd', h2', r⟩
theorem OwnD.sl_split {A : Option Addr} {l c n : Nat} {L : List (List D)} {cs : List Value} {ds : List D} (h : OwnD w R (.slice A l c :: cs) (.sl n L :: ds)) :
    ∃ R1 R2 : Nat → Prop, OwnD w R1 [.slice A l c] [.sl n L] ∧ OwnD w R2 cs ds ∧ (∀ g, R1 g → R g ∧ ¬ R2 g) ∧ ∀ g, R2 g → R g := by
  obtain ⟨rfl, hl, hc, h0, R2, rows, Rs, hA, hk, hR', hd', h2', r⟩ := h.sl_inv
  refine ⟨fun g => R g ∧ ¬ R2 g, R2, .sl (R2 := fun _ => False) rows Rs hl hc h0 (fun ad e => ?_) hk (fun j g hj hg => ⟨hR' j g hj hg, fun h => h⟩) hd' (fun g h => h.elim) .nil, r, fun g h => h, h2'⟩
  obtain ⟨g, cs0, e1, h3, h4, h5, h6, h7⟩ := hA ad e
  exact ⟨g, cs0, e1, ⟨h3, h4⟩, fun h => h, h5, h6, h7⟩
theorem own_st_inv {cs : List Value} {k : Int} {s : List UInt8} {e : T} {bs es : List St} (h : OwnD w R cs (St.mk k s e bs es).d) :
    ∃ ek en en' A l c Bb cb C cc lo hi, ∃ R2 R3 : Nat → Prop, cs = sc k s ek en en' A l c Bb bs.length cb C es.length cc ∧ s.length ≤ maxI ∧ OwnX lo hi w (nv ek en en' A l c) e ∧ OwnD w R2 [.slice Bb bs.length cb] [.sl 1 (dl bs)] ∧ OwnD w R3 [.slice C es.length cc] [.sl 1 (dl es)] ∧
      (∀ g, Iv lo hi g → R g ∧ ¬ R2 g ∧ ¬ R3 g) ∧ (∀ g, R2 g → R g ∧ ¬ R3 g) ∧ ∀ g, R3 g → R g := by
  rw [St.d_mk] at h
  obtain ⟨ek, en, en', A, l, c, Bb, cb, C, cc, e8⟩ := own_st8 h
  subst e8
  cases h with
  | i h =>
    generalize hs' : sv s = vs at h
    cases h with
    | s hs h =>
      cases h with
      | x hx h1 h2 h =>
        obtain ⟨R1, R2, o1, h, d1, d2⟩ := h.sl_split
        obtain ⟨R3, R4, o2, h, d3, d4⟩ := h.sl_split
        refine ⟨ek, en, en', A, l, c, Bb, cb, C, cc, _, _, R1, R3, ?_, hs, hx, ?_, ?_, fun g hg => ⟨(h1 g hg).1, fun h => (h1 g hg).2 (d1 g h).1, fun h => (h1 g hg).2 (d2 g (d3 g h).1)⟩, fun g hg => ⟨h2 g (d1 g hg).1, fun h => (d1 g hg).2 (d3 g h).1⟩, fun g hg => h2 g (d2 g (d3 g hg).1)⟩
        · simp [dl, sc]
        · simpa [dl] using o1
        · simpa [dl] using o2
theorem own_st_mk {k ek en : Int} {s en' : List UInt8} {A Bb C : Option Addr} {l c lb cb lc cc lo hi : Nat} {R2 R3 : Nat → Prop} {e : T} {bs es : List St} (hs : s.length ≤ maxI) (h1 : OwnX lo hi w (nv ek en en' A l c) e) (h2 : OwnD w R2 [.slice Bb lb cb] [.sl 1 (dl bs)]) (h3 : OwnD w R3 [.slice C lc cc] [.sl 1 (dl es)])
    (d1 : ∀ g, Iv lo hi g → R g ∧ ¬ R2 g ∧ ¬ R3 g) (d2 : ∀ g, R2 g → R g ∧ ¬ R3 g) (d3 : ∀ g, R3 g → R g) : OwnD w R (sc k s ek en en' A l c Bb lb cb C lc cc) (St.mk k s e bs es).d := by
  rw [St.d_mk]
  exact .i (.s hs (.x (R2 := fun g => R2 g ∨ R3 g) h1 (fun g hg => ⟨(d1 g hg).1, fun h => h.elim (d1 g hg).2.1 (d1 g hg).2.2⟩) (fun g hg => hg.elim (fun h => (d2 g h).1) (d3 g))
    (OwnD.app_sl (R1 := R2) (R2 := R3) h2 (OwnD.app_sl (R1 := R3) (R2 := fun _ => False) h3 .nil (fun g hg => ⟨hg, fun h => h⟩) (fun g hg => hg.elim)) (fun g hg => ⟨.inl hg, (d2 g hg).2⟩) (fun g hg => .inr hg))))
end
open Cur Dr Pl
theorem rd_st {w : World} {B : Nat} {k ek en : Int} {s en' : List UInt8} {A Bb C : Option Addr} {l c cb cc : Nat} {e : T} {bs es : List St} {rb rc : Nat → List Value} (hs : s.length ≤ maxI) (hx : Ex w B (nv ek en en' A l c) e)
    (hb : Row w B 1 Bb (dl bs) rb) (h1 : bs.length ≤ maxI) (h2 : bs.length ≤ cb) (he : Row w B 1 C (dl es) rc) (h3 : es.length ≤ maxI) (h4 : es.length ≤ cc) : Rd8 w B (sc k s ek en en' A l c Bb bs.length cb C es.length cc) (St.mk k s e bs es).d := by
  rw [St.d_mk]
  have f1 : Rd8 w B [.slice C es.length cc] [.sl 1 (dl es)] := by
    rw [← dl_len es]
    exact .sl rc (by rw [dl_len]; exact ⟨h3, h4⟩) he.cell he.kid .nil
  have f2 : Rd8 w B [.slice Bb bs.length cb, .slice C es.length cc] [.sl 1 (dl bs), .sl 1 (dl es)] := by
    rw [← dl_len bs]
    exact .sl rb (by rw [dl_len]; exact ⟨h1, h2⟩) hb.cell hb.kid f1
  exact .i (.s hs (.x hx f2))
theorem row_none (w : World) (B : Nat) : Row w B 1 none (dl []) (fun _ => []) := ⟨fun j hj => by simp [dl] at hj, fun j e he => by simp [dl] at he⟩
end Go.Proofs.YtiogceepjffmkaaGreatDoor.Gd
