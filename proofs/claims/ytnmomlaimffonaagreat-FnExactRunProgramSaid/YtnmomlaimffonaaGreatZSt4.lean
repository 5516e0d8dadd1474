/- Statements of the call's own: marked. -/
import Derived.Test.YtnmomlaimffonaaGreatZSt1
set_option maxRecDepth 100000
namespace Go.Proofs.YtnmomlaimffonaaGreat.Gd
open Go.RowKit Go.Lib Go.Sort Com Mem YtnmomlaimffonaaGreat.Os Tr
structure ChgR (w w' : World) (R : Nat → Prop) : Prop where
  os : w'.os = w.os
  tape : w'.tape = w.tape
  output : w'.output = w.output
  size : w.heap.size ≤ w'.heap.size
  block : ∀ k, k < w.heap.size → ¬ R k → w'.heap[k]? = w.heap[k]?
section
variable {a b d w w' : World} {R R' : Nat → Prop}
theorem ChgR.refl (w : World) (R : Nat → Prop) : ChgR w w R := ⟨rfl, rfl, rfl, Nat.le_refl _, fun _ _ _ => rfl⟩
theorem ChgR.trans (h : ChgR a b R) (k : ChgR b d R) : ChgR a d R :=
  ⟨k.os.trans h.os, k.tape.trans h.tape, k.output.trans h.output, Nat.le_trans h.size k.size, fun i hi hr => (k.block i (Nat.lt_of_lt_of_le hi h.size) hr).trans (h.block i hi hr)⟩
theorem ChgR.mono (h : ChgR a b R) (hR : ∀ g, R g → R' g) : ChgR a b R' := ⟨h.os, h.tape, h.output, h.size, fun i hi hr => h.block i hi fun hg => hr (hR i hg)⟩
theorem ChgR.of_below (h : Below w.heap.size w w') (R : Nat → Prop) : ChgR w w' R := ⟨h.os, h.tape, h.output, h.size, fun k hk _ => h.block k hk⟩
theorem ChgR.of_chg {lo hi : Nat} (h : Chg w w' lo hi) (hR : ∀ g, Iv lo hi g → R g) : ChgR w w' R :=
  ⟨h.os, h.tape, h.output, h.size, fun k hk hr => h.block k hk (by by_cases h1 : k < lo; exact .inl h1; by_cases h2 : hi ≤ k; exact .inr h2; exact absurd (hR k ⟨by omega, by omega⟩) hr)⟩
theorem ChgR.chg {lo hi : Nat} (h : ChgR w w' (Iv lo hi)) : Chg w w' lo hi := ⟨h.os, h.tape, h.output, h.size, fun k hk hn => h.block k hk fun hi => by have := hi.1; have := hi.2; omega⟩
theorem ChgR.set {g : Nat} (i : Nat) (hg : R g) (u : Value) : ChgR w (w.setCell ⟨g, i, none⟩ u) R :=
  ⟨rfl, rfl, rfl, by simp [World.setCell], fun k _ hr => heap_setCell_other w _ k u (by show k ≠ g; intro e; subst e; exact hr hg)⟩
theorem ChgR.set1 (w : World) (g i : Nat) (u : Value) : ChgR w (w.setCell ⟨g, i, none⟩ u) (fun x => x = g) := ChgR.set (R := fun x => x = g) i rfl u
theorem OwnD.chg {cs : List Value} {ds : List D} (h : OwnD w R cs ds) (hc : ChgR w w' R') (hd : ∀ g, R g → ¬ R' g) (hb : ∀ g, R g → g < w.heap.size) : OwnD w' R cs ds := h.same fun g hg => hc.block g (hb g hg) (hd g hg)
theorem OwnX.chgR {lo hi : Nat} {v : Value} {t : T} (h : OwnX lo hi w v t) (hc : ChgR w w' R') (hd : ∀ g, Iv lo hi g → ¬ R' g) (hb : ∀ g, Iv lo hi g → g < w.heap.size) : OwnX lo hi w' v t :=
  OwnE.same h fun g h1 h2 => hc.block g (hb g ⟨h1, h2⟩) (hd g ⟨h1, h2⟩)
theorem blk_chgR {g ty : Nat} {cs : List Value} (h : Blk w g ty cs) (hc : ChgR w w' R') (hd : ¬ R' g) : Blk w' g ty cs := (hc.block g h.lt hd).trans h
theorem OwnD.sl_inv {A : Option Addr} {l c n : Nat} {L : List (List D)} {cs : List Value} {ds : List D} (h : OwnD w R (.slice A l c :: cs) (.sl n L :: ds)) : l = L.length ∧ L.length ≤ c ∧ c ≤ maxLen ∧ (A = none → c = 0) ∧
    ∃ (R2 : Nat → Prop) (rows : Nat → List Value) (Rs : Nat → Nat → Prop), (∀ ad, A = some ad → ∃ g cs0, ad = ⟨g, 0, none⟩ ∧ R g ∧ ¬ R2 g ∧ Blk w g (tyI n) cs0 ∧ RowsN (wd n) cs0 L.length rows ∧ ∀ j, j < L.length → ¬ Rs j g) ∧
      (∀ j e, L[j]? = some e → OwnD w (Rs j) (rows j) e) ∧ (∀ j g, j < L.length → Rs j g → R g ∧ ¬ R2 g) ∧ (∀ i j g, i < j → j < L.length → Rs i g → ¬ Rs j g) ∧ (∀ g, R2 g → R g) ∧ OwnD w R2 cs ds := by
  cases h with
  | sl rows Rs hl hc h0 hA hk hR' hd' h2' r => exact ⟨rfl, hl, hc, h0, _, rows, Rs, hA, hk, hR', hd', h2', r⟩
theorem OwnD.sl_split {A : Option Addr} {l c n : Nat} {L : List (List D)} {cs : List Value} {ds : List D} (h : OwnD w R (.slice A l c :: cs) (.sl n L :: ds)) :
    ∃ R1 R2 : Nat → Prop, OwnD w R1 [.slice A l c] [.sl n L] ∧ OwnD w R2 cs ds ∧ (∀ g, R1 g → R g ∧ ¬ R2 g) ∧ ∀ g, R2 g → R g := by
  obtain ⟨rfl, hl, hc, h0, R2, rows, Rs, hA, hk, hR', hd', h2', r⟩ := h.sl_inv
  refine ⟨fun g => R g ∧ ¬ R2 g, R2, .sl (R2 := fun _ => False) rows Rs hl hc h0 (fun ad e => ?_) hk (fun j g hj hg => ⟨hR' j g hj hg, fun h => h⟩) hd' (fun g h => h.elim) .nil, r, fun g h => h, h2'⟩
  obtain ⟨g, cs0, e1, h3, h4, h5, h6, h7⟩ := hA ad e
  exact ⟨g, cs0, e1, ⟨h3, h4⟩, fun h => h, h5, h6, h7⟩
theorem own_st_inv {cs : List Value} {k : Int} {s : List UInt8} {e : T} {bs es : List St} (h : OwnD w R cs (St.mk k s e bs es).d) :
    ∃ ek en en' A l c Bb cb C cc lo hi, ∃ R2 R3 : Nat → Prop, cs = sc k s ek en en' A l c Bb bs.length cb C es.length cc ∧ s.length ≤ maxI ∧ OwnX lo hi w (nv ek en en' A l c) e ∧ OwnD w R2 [.slice Bb bs.length cb] [.sl 1 (dl bs)] ∧ OwnD w R3 [.slice C es.length cc] [.sl 1 (dl es)] ∧
      (∀ g, Iv lo hi g → R g ∧ ¬ R2 g ∧ ¬ R3 g) ∧ (∀ g, R2 g → R g ∧ ¬ R3 g) ∧ ∀ g, R3 g → R g := by
  rw [St.d_mk] at h
  obtain ⟨ek, en, en', A, l, c, Bb, cb, C, cc, e8⟩ := own_st8 h
  subst e8
  cases h with
  | i h =>
    generalize hs' : sv s = vs at h
    cases h with
    | s hs h =>
      cases h with
      | x hx h1 h2 h =>
        obtain ⟨R1, R2, o1, h, d1, d2⟩ := h.sl_split
        obtain ⟨R3, R4, o2, h, d3, d4⟩ := h.sl_split
        refine ⟨ek, en, en', A, l, c, Bb, cb, C, cc, _, _, R1, R3, ?_, hs, hx, ?_, ?_, fun g hg => ⟨(h1 g hg).1, fun h => (h1 g hg).2 (d1 g h).1, fun h => (h1 g hg).2 (d2 g (d3 g h).1)⟩, fun g hg => ⟨h2 g (d1 g hg).1, fun h => (d1 g hg).2 (d3 g h).1⟩, fun g hg => h2 g (d2 g (d3 g hg).1)⟩
        · simp [dl, sc]
        · simpa [dl] using o1
        · simpa [dl] using o2
theorem own_st_mk {k ek en : Int} {s en' : List UInt8} {A Bb C : Option Addr} {l c lb cb lc cc lo hi : Nat} {R2 R3 : Nat → Prop} {e : T} {bs es : List St} (hs : s.length ≤ maxI) (h1 : OwnX lo hi w (nv ek en en' A l c) e) (h2 : OwnD w R2 [.slice Bb lb cb] [.sl 1 (dl bs)]) (h3 : OwnD w R3 [.slice C lc cc] [.sl 1 (dl es)])
    (d1 : ∀ g, Iv lo hi g → R g ∧ ¬ R2 g ∧ ¬ R3 g) (d2 : ∀ g, R2 g → R g ∧ ¬ R3 g) (d3 : ∀ g, R3 g → R g) : OwnD w R (sc k s ek en en' A l c Bb lb cb C lc cc) (St.mk k s e bs es).d := by
  rw [St.d_mk]
  exact .i (.s hs (.x (R2 := fun g => R2 g ∨ R3 g) h1 (fun g hg => ⟨(d1 g hg).1, fun h => h.elim (d1 g hg).2.1 (d1 g hg).2.2⟩) (fun g hg => hg.elim (fun h => (d2 g h).1) (d3 g))
    (OwnD.app_sl (R1 := R2) (R2 := R3) h2 (OwnD.app_sl (R1 := R3) (R2 := fun _ => False) h3 .nil (fun g hg => ⟨hg, fun h => h⟩) (fun g hg => hg.elim)) (fun g hg => ⟨.inl hg, (d2 g hg).2⟩) (fun g hg => .inr hg))))
end
theorem RowsN.put {d : Nat} {cs : List Value} {N m : Nat} {rows : Nat → List Value} (h : RowsN d cs N rows) (hm : m < N) (hd : 0 < d) (new : List Value) (hn : new.length ≤ d) : RowsN d (setN cs (m * d) new) N (fun j => if j = m then new ++ (rows m).drop new.length else rows j) := by
  obtain ⟨e1, e2⟩ := h m hm
  have hcl : m * d + d ≤ cs.length := by
    have := e2 (d - 1) _ (List.getElem?_eq_getElem (by omega))
    have := lt_of_get this
    omega
  intro j hj
  by_cases e : j = m
  · subst e
    simp only [if_pos]
    refine ⟨by rw [List.length_append, List.length_drop]; omega, fun i u hu => ?_⟩
    have hi := lt_of_get hu
    rw [List.length_append, List.length_drop] at hi
    rw [setN_at _ _ _ _ (by omega)]
    by_cases hlt : i < new.length
    · rw [List.getElem?_append_left hlt] at hu
      rw [if_pos (by omega), show j * d + i - j * d = i by omega]; exact hu
    · rw [List.getElem?_append_right (by omega), List.getElem?_drop, show new.length + (i - new.length) = i by omega] at hu
      rw [if_neg (by omega)]; exact e2 i u hu
  · obtain ⟨h1, h2⟩ := h j hj
    simp only [if_neg e]
    refine ⟨h1, fun i u hu => ?_⟩
    have hi := lt_of_get hu
    rw [setN_at _ _ _ _ (by omega), if_neg ?_]
    · exact h2 i u hu
    · rcases Nat.lt_or_ge j m with hjm | hjm
      · have hjd : (j + 1) * d ≤ m * d := Nat.mul_le_mul_right d hjm
        rw [Nat.add_mul, Nat.one_mul] at hjd
        omega
      · have hjd : (m + 1) * d ≤ j * d := Nat.mul_le_mul_right d (by omega)
        rw [Nat.add_mul, Nat.one_mul] at hjd
        omega
mutual
def nSt : St → Nat
  | .mk _ _ e bs es => 2 + 3 * cntT e + nL bs + nL es
def nL : List St → Nat
  | [] => 0
  | a :: r => nSt a + nL r
end
mutual
def markSt (k : Nat) : St → St
  | .mk _ _ e bs es => .mk k (Lh.mk (k + 1)) (markN (k + 2) e) (markL (k + 2 + 3 * cntT e) bs) (markL (k + 2 + 3 * cntT e + nL bs) es)
def markL (k : Nat) : List St → List St
  | [] => []
  | a :: r => markSt k a :: markL (k + nSt a) r
end
theorem nSt_mk (k : Int) (s : List UInt8) (e : T) (bs es : List St) : nSt (.mk k s e bs es) = 2 + 3 * cntT e + nL bs + nL es := by rw [nSt]
theorem markSt_mk (q : Nat) (k : Int) (s : List UInt8) (e : T) (bs es : List St) : markSt q (.mk k s e bs es) = .mk q (Lh.mk (q + 1)) (markN (q + 2) e) (markL (q + 2 + 3 * cntT e) bs) (markL (q + 2 + 3 * cntT e + nL bs) es) := by rw [markSt]
theorem nL_take {L : List St} {m : Nat} (h : m < L.length) : nL (L.take (m + 1)) = nL (L.take m) + nSt L[m] := by
  induction L generalizing m with
  | nil => simp at h
  | cons e r ih =>
    cases m with
    | zero => simp [nL]
    | succ m => simp only [List.take_succ_cons, nL, List.getElem_cons_succ]; rw [ih (by simpa using h)]; omega
theorem nL_le (L : List St) (m : Nat) : nL (L.take m) ≤ nL L := by
  induction L generalizing m with
  | nil => simp
  | cons e r ih =>
    cases m with
    | zero => simp [nL]
    | succ m => simp only [List.take_succ_cons, nL]; have := ih m; omega
theorem markL_len (k : Nat) (L : List St) : (markL k L).length = L.length := by
  induction L generalizing k with
  | nil => rw [markL]
  | cons a r ih => rw [markL, List.length_cons, ih, List.length_cons]
theorem markL_at (k : Nat) (L : List St) : ∀ (j : Nat), (markL k L)[j]? = (L[j]?).map (markSt (k + nL (L.take j))) := by
  induction L generalizing k with
  | nil => intro j; rw [markL]; simp
  | cons a r ih =>
    intro j
    rw [markL]
    cases j with
    | zero => simp [nL]
    | succ j =>
      rw [List.getElem?_cons_succ, ih, List.getElem?_cons_succ]
      have e : nL ((a :: r).take (j + 1)) = nSt a + nL (r.take j) := by simp [nL]
      rw [e, Nat.add_assoc]
end Go.Proofs.YtnmomlaimffonaaGreat.Gd
