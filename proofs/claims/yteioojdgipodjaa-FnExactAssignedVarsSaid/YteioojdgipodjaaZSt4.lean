/- Statements of the call's own: marked. -/
import Derived.Test.YteioojdgipodjaaZSt1
import Derived.Test.YteioojdgipodjaaZEx4
import Derived.Test.YteioojdgipodjaaZE8
set_option maxRecDepth 100000
namespace Go.Proofs.Yteioojdgipodjaa.Gd
open Go.RowKit Go.Lib Go.Sort Go.Proofs.Yteioojdgipodjaa.Com Go.Proofs.Yteioojdgipodjaa.Mem Go.Proofs.Yteioojdgipodjaa.Os Go.Proofs.Yteioojdgipodjaa.Tr

/-- from w to w' only the blocks R were written, and new ones made -/
structure ChgR (w w' : World) (R : Nat → Prop) : Prop where
  os : w'.os = w.os
  tape : w'.tape = w.tape
  output : w'.output = w.output
  size : w.heap.size ≤ w'.heap.size
  block : ∀ k, k < w.heap.size → ¬ R k → w'.heap[k]? = w.heap[k]?
section
variable {a b d w w' : World} {R R' : Nat → Prop}
theorem ChgR.refl (w : World) (R : Nat → Prop) : ChgR w w R := ⟨rfl, rfl, rfl, Nat.le_refl _, fun _ _ _ => rfl⟩
theorem ChgR.trans (h : ChgR a b R) (k : ChgR b d R) : ChgR a d R :=
  ⟨k.os.trans h.os, k.tape.trans h.tape, k.output.trans h.output, Nat.le_trans h.size k.size, fun i hi hr => (k.block i (Nat.lt_of_lt_of_le hi h.size) hr).trans (h.block i hi hr)⟩
theorem ChgR.mono (h : ChgR a b R) (hR : ∀ g, R g → R' g) : ChgR a b R' := ⟨h.os, h.tape, h.output, h.size, fun i hi hr => h.block i hi fun hg => hr (hR i hg)⟩
theorem ChgR.of_below (h : Below w.heap.size w w') (R : Nat → Prop) : ChgR w w' R := ⟨h.os, h.tape, h.output, h.size, fun k hk _ => h.block k hk⟩
theorem ChgR.of_chg {lo hi : Nat} (h : Chg w w' lo hi) (hR : ∀ g, Iv lo hi g → R g) : ChgR w w' R :=
  ⟨h.os, h.tape, h.output, h.size, fun k hk hr => h.block k hk (by by_cases h1 : k < lo; exact .inl h1; by_cases h2 : hi ≤ k; exact .inr h2; exact absurd (hR k ⟨by omega, by omega⟩) hr)⟩
theorem ChgR.chg {lo hi : Nat} (h : ChgR w w' (Iv lo hi)) : Chg w w' lo hi := ⟨h.os, h.tape, h.output, h.size, fun k hk hn => h.block k hk fun hi => by have := hi.1; have := hi.2; omega⟩
theorem ChgR.set {g : Nat} (i : Nat) (hg : R g) (u : Value) : ChgR w (w.setCell ⟨g, i, none⟩ u) R :=
  ⟨rfl, rfl, rfl, by simp [World.setCell], fun k _ hr => heap_setCell_other w _ k u (by show k ≠ g; intro e; subst e; exact hr hg)⟩
theorem ChgR.set1 (w : World) (g i : Nat) (u : Value) : ChgR w (w.setCell ⟨g, i, none⟩ u) (fun x => x = g) := ChgR.set (R := fun x => x = g) i rfl u
theorem OwnD.chg {cs : List Value} {ds : List D} (h : OwnD w R cs ds) (hc : ChgR w w' R') (hd : ∀ g, R g → ¬ R' g) (hb : ∀ g, R g → g < w.heap.size) : OwnD w' R cs ds := h.same fun g hg => hc.block g (hb g hg) (hd g hg)
theorem OwnX.chgR {lo hi : Nat} {v : Value} {t : T} (h : OwnX lo hi w v t) (hc : ChgR w w' R') (hd : ∀ g, Iv lo hi g → ¬ R' g) (hb : ∀ g, Iv lo hi g → g < w.heap.size) : OwnX lo hi w' v t :=
  OwnE.same h fun g h1 h2 => hc.block g (hb g ⟨h1, h2⟩) (hd g ⟨h1, h2⟩)
theorem blk_chgR {g ty : Nat} {cs : List Value} (h : Blk w g ty cs) (hc : ChgR w w' R') (hd : ¬ R' g) : Blk w' g ty cs := (hc.block g h.lt hd).trans h
theorem OwnD.sl_inv {A : Option Addr} {l c n : Nat} {L : List (List D)} {cs : List Value} {ds : List D} (h : OwnD w R (.slice A l c :: cs) (.sl n L :: ds)) : l = L.length ∧ L.length ≤ c ∧ c ≤ maxLen ∧ (A = none → c = 0) ∧
    ∃ (R2 : Nat → Prop) (rows : Nat → List Value) (Rs : Nat → Nat → Prop), (∀ ad, A = some ad → ∃ g cs0, ad = ⟨g, 0, none⟩ ∧ R g ∧ ¬ R2 g ∧ Blk w g (tyI n) cs0 ∧ RowsN (wd n) cs0 L.length rows ∧ ∀ j, j < L.length → ¬ Rs j g) ∧
      (∀ j e, L[j]? = some e → OwnD w (Rs j) (rows j) e) ∧ (∀ j g, j < L.length → Rs j g → R g ∧ ¬ R2 g) ∧ (∀ i j g, i < j → j < L.length → Rs i g → ¬ Rs j g) ∧ (∀ g, R2 g → R g) ∧ OwnD w R2 cs ds := by
  cases h with
  | sl rows Rs hl hc h0 hA hk hR' hd' h2' r => exact ⟨rfl, hl, hc, h0, _, rows, Rs, hA, hk, hR', hd', h2', r⟩
/-- a list, and what stands behind it -/
theorem OwnD.sl_split {A : Option Addr} {l c n : Nat} {L : List (List D)} {cs : List Value} {ds : List D} (h : OwnD w R (.slice A l c :: cs) (.sl n L :: ds)) :
    ∃ R1 R2 : Nat → Prop, OwnD w R1 [.slice A l c] [.sl n L] ∧ OwnD w R2 cs ds ∧ (∀ g, R1 g → R g ∧ ¬ R2 g) ∧ ∀ g, R2 g → R g := by
  obtain ⟨rfl, hl, hc, h0, R2, rows, Rs, hA, hk, hR', hd', h2', r⟩ := h.sl_inv
  refine ⟨fun g => R g ∧ ¬ R2 g, R2, .sl (R2 := fun _ => False) rows Rs hl hc h0 (fun ad e => ?_) hk (fun j g hj hg => ⟨hR' j g hj hg, fun h => h⟩) hd' (fun g h => h.elim) .nil, r, fun g h => h, h2'⟩
  obtain ⟨g, cs0, e1, h3, h4, h5, h6, h7⟩ := hA ad e
  exact ⟨g, cs0, e1, ⟨h3, h4⟩, fun h => h, h5, h6, h7⟩
/-- a statement's parts, each in blocks of its own -/
theorem own_st_inv {cs : List Value} {k : Int} {s : List UInt8} {e : T} {bs es : List St} (h : OwnD w R cs (St.mk k s e bs es).d) :
    ∃ ek en en' A l c Bb cb C cc lo hi, ∃ R2 R3 : Nat → Prop, cs = sc k s ek en en' A l c Bb bs.length cb C es.length cc ∧ s.length ≤ maxI ∧ OwnX lo hi w (nv ek en en' A l c) e ∧ OwnD w R2 [.slice Bb bs.length cb] [.sl 1 (dl bs)] ∧ OwnD w R3 [.slice C es.length cc] [.sl 1 (dl es)] ∧
      (∀ g, Iv lo hi g → R g ∧ ¬ R2 g ∧ ¬ R3 g) ∧ (∀ g, R2 g → R g ∧ ¬ R3 g) ∧ ∀ g, R3 g → R g := by
  rw [St.d_mk] at h
  obtain ⟨ek, en, en', A, l, c, Bb, cb, C, cc, e8⟩ := own_st8 h
  subst e8
  cases h with
  | i h =>
    generalize hs' : sv s = vs at h
    cases h with
    | s hs h =>
      cases h with
      | x hx h1 h2 h =>
        obtain ⟨R1, R2, o1, h, d1, d2⟩ := h.sl_split
        obtain ⟨R3, R4, o2, h, d3, d4⟩ := h.sl_split
        refine ⟨ek, en, en', A, l, c, Bb, cb, C, cc, _, _, R1, R3, ?_, hs, hx, ?_, ?_, fun g hg => ⟨(h1 g hg).1, fun h => (h1 g hg).2 (d1 g h).1, fun h => (h1 g hg).2 (d2 g (d3 g h).1)⟩, fun g hg => ⟨h2 g (d1 g hg).1, fun h => (d1 g hg).2 (d3 g h).1⟩, fun g hg => h2 g (d2 g (d3 g hg).1)⟩
        · simp [dl, sc]
        · simpa [dl] using o1
        · simpa [dl] using o2
theorem own_st_mk {k ek en : Int} {s en' : List UInt8} {A Bb C : Option Addr} {l c lb cb lc cc lo hi : Nat} {R2 R3 : Nat → Prop} {e : T} {bs es : List St} (hs : s.length ≤ maxI) (h1 : OwnX lo hi w (nv ek en en' A l c) e) (h2 : OwnD w R2 [.slice Bb lb cb] [.sl 1 (dl bs)]) (h3 : OwnD w R3 [.slice C lc cc] [.sl 1 (dl es)])
    (d1 : ∀ g, Iv lo hi g → R g ∧ ¬ R2 g ∧ ¬ R3 g) (d2 : ∀ g, R2 g → R g ∧ ¬ R3 g) (d3 : ∀ g, R3 g → R g) : OwnD w R (sc k s ek en en' A l c Bb lb cb C lc cc) (St.mk k s e bs es).d := by
  rw [St.d_mk]
  exact .i (.s hs (.x (R2 := fun g => R2 g ∨ R3 g) h1 (fun g hg => ⟨(d1 g hg).1, fun h => h.elim (d1 g hg).2.1 (d1 g hg).2.2⟩) (fun g hg => hg.elim (fun h => (d2 g h).1) (d3 g))
    (OwnD.app_sl (R1 := R2) (R2 := R3) h2 (OwnD.app_sl (R1 := R3) (R2 := fun _ => False) h3 .nil (fun g hg => ⟨hg, fun h => h⟩) (fun g hg => hg.elim)) (fun g hg => ⟨.inl hg, (d2 g hg).2⟩) (fun g hg => .inr hg))))
end
theorem RowsN.put {d : Nat} {cs : List Value} {N m : Nat} {rows : Nat → List Value} (h : RowsN d cs N rows) (hm : m < N) (hd : 0 < d) (new : List Value) (hn : new.length ≤ d) : RowsN d (setN cs (m * d) new) N (fun j => if j = m then new ++ (rows m).drop new.length else rows j) := by
  obtain ⟨e1, e2⟩ := h m hm
  have hcl : m * d + d ≤ cs.length := by
    have := e2 (d - 1) _ (List.getElem?_eq_getElem (by omega))
    have := lt_of_get this
    omega
  intro j hj
  by_cases e : j = m
  · subst e
    simp only [if_pos]
    refine ⟨by rw [List.length_append, List.length_drop]; omega, fun i u hu => ?_⟩
    have hi := lt_of_get hu
    rw [List.length_append, List.length_drop] at hi
    rw [setN_at _ _ _ _ (by omega)]
    by_cases hlt : i < new.length
    · rw [List.getElem?_append_left hlt] at hu
      rw [if_pos (by omega), show j * d + i - j * d = i by omega]; exact hu
    · rw [List.getElem?_append_right (by omega), List.getElem?_drop, show new.length + (i - new.length) = i by omega] at hu
      rw [if_neg (by omega)]; exact e2 i u hu
  · obtain ⟨h1, h2⟩ := h j hj
    simp only [if_neg e]
    refine ⟨h1, fun i u hu => ?_⟩
    have hi := lt_of_get hu
    rw [setN_at _ _ _ _ (by omega), if_neg ?_]
    · exact h2 i u hu
    · rcases Nat.lt_or_ge j m with hjm | hjm
      · have hjd : (j + 1) * d ≤ m * d := Nat.mul_le_mul_right d hjm
        rw [Nat.add_mul, Nat.one_mul] at hjd
        omega
      · have hjd : (m + 1) * d ≤ j * d := Nat.mul_le_mul_right d (by omega)
        rw [Nat.add_mul, Nat.one_mul] at hjd
        omega
mutual
/-- how many marks a statement takes -/
def nSt : St → Nat
  | .mk _ _ e bs es => 2 + 3 * cntT e + nL bs + nL es
def nL : List St → Nat
  | [] => 0
  | a :: r => nSt a + nL r
end
mutual
/-- a statement, marked from k on -/
def markSt (k : Nat) : St → St
  | .mk _ _ e bs es => .mk k (Lh.mk (k + 1)) (markN (k + 2) e) (markL (k + 2 + 3 * cntT e) bs) (markL (k + 2 + 3 * cntT e + nL bs) es)
def markL (k : Nat) : List St → List St
  | [] => []
  | a :: r => markSt k a :: markL (k + nSt a) r
end
theorem nSt_mk (k : Int) (s : List UInt8) (e : T) (bs es : List St) : nSt (.mk k s e bs es) = 2 + 3 * cntT e + nL bs + nL es := by rw [nSt]
theorem markSt_mk (q : Nat) (k : Int) (s : List UInt8) (e : T) (bs es : List St) : markSt q (.mk k s e bs es) = .mk q (Lh.mk (q + 1)) (markN (q + 2) e) (markL (q + 2 + 3 * cntT e) bs) (markL (q + 2 + 3 * cntT e + nL bs) es) := by rw [markSt]
theorem nL_take {L : List St} {m : Nat} (h : m < L.length) : nL (L.take (m + 1)) = nL (L.take m) + nSt L[m] := by
  induction L generalizing m with
  | nil => simp at h
  | cons e r ih =>
    cases m with
    | zero => simp [nL]
    | succ m => simp only [List.take_succ_cons, nL, List.getElem_cons_succ]; rw [ih (by simpa using h)]; omega
theorem nL_le (L : List St) (m : Nat) : nL (L.take m) ≤ nL L := by
  induction L generalizing m with
  | nil => simp
  | cons e r ih =>
    cases m with
    | zero => simp [nL]
    | succ m => simp only [List.take_succ_cons, nL]; have := ih m; omega
theorem markL_len (k : Nat) (L : List St) : (markL k L).length = L.length := by
  induction L generalizing k with
  | nil => rw [markL]
  | cons a r ih => rw [markL, List.length_cons, ih, List.length_cons]
theorem markL_at (k : Nat) (L : List St) : ∀ (j : Nat), (markL k L)[j]? = (L[j]?).map (markSt (k + nL (L.take j))) := by
  induction L generalizing k with
  | nil => intro j; rw [markL]; simp
  | cons a r ih =>
    intro j
    rw [markL]
    cases j with
    | zero => simp [nL]
    | succ j =>
      rw [List.getElem?_cons_succ, ih, List.getElem?_cons_succ]
      have e : nL ((a :: r).take (j + 1)) = nSt a + nL (r.take j) := by simp [nL]
      rw [e, Nat.add_assoc]
end Go.Proofs.Yteioojdgipodjaa.Gd

/- Statements of the call's own: marked (markStmtS). -/
set_option maxRecDepth 100000
namespace Go.Proofs.Yteioojdgipodjaa.Gd
open Go.RowKit Go.Lib Go.Sort Go.Proofs.Yteioojdgipodjaa.Com Go.Proofs.Yteioojdgipodjaa.Mem Go.Proofs.Yteioojdgipodjaa.Os Go.Proofs.Yteioojdgipodjaa.Tr

/-- what markStmtS promises -/
def MkL (L : List St) : Prop := ∀ (R : Nat → Prop) (A : Option Addr) (l c k : Nat) (w : World), OwnD w R [.slice A l c] [.sl 1 (dl L)] → (∀ g, R g → g < w.heap.size) → 0 < k → k + nL L ≤ 9223372036000000000 →
  Calls Try.prog 27 #[.slice A l c, .int .i64 k] w fun e w' => e = .returned (.int .i64 ((k + nL L : Nat) : Int)) ∧ OwnD w' R [.slice A l c] [.sl 1 (dl (markL k L))] ∧ ChgR w w' R
theorem markL_none (A : Option Addr) (c k : Nat) (w : World) : Calls Try.prog 27 #[.slice A 0 c, .int .i64 k] w fun e w' => e = .returned (.int .i64 k) ∧ w = w' := by
  go_enter Try.func27, Try.ntmps27
  go_wp2_with fail
  refine wp_loop_rounds 1 ?_; rw [rounds_succ]
  go_wp2_with fail
  go_ret
  exact ⟨rfl, rfl⟩
theorem fst8 {a b : Value} {s t : List Value} (h : a :: s = b :: t) : a = b ∧ s = t := by injection h with h1 h2; exact ⟨h1, h2⟩
theorem set5_eq (cs : List Value) (o : Nat) (a b c d e : Value) : ((((cs.set o a).set (o + 1) b).set (o + 2) c).set (o + 2 + 1) d).set (o + 2 + 2) e = setN cs o [a, b, c, d, e] := rfl
theorem put5 {a b c d e x0 x1 x2 x3 x4 : Value} {t : List Value} : [a, b, c, d, e] ++ (x0 :: x1 :: x2 :: x3 :: x4 :: t).drop 5 = a :: b :: c :: d :: e :: t := rfl
set_option maxHeartbeats 8000000 in
theorem markL_any : ∀ (M : Nat) (L : List St), cntL L = M → MkL L := by
  intro M
  induction M using Nat.strongRecOn with
  | ind M ih =>
    intro L hM R A l c k w ho hRb hk0 hk1
    obtain ⟨rfl, hlc, hcap, hA0, R2, rows, Rs, hA, hkid, hR, hd, -, -⟩ := ho.sl_inv
    have hNb : (dl L).length ≤ 9223372036854775807 := by unfold maxLen at hcap; omega
    rw [dl_len] at *
    by_cases hz : L.length = 0
    · obtain rfl := List.eq_nil_of_length_eq_zero hz
      refine (markL_none A c k w).mono ?_
      rintro e w' ⟨rfl, rfl⟩
      exact ⟨by simp [nL], by rw [markL]; exact ho, ChgR.refl _ _⟩
    obtain ⟨ad, rfl⟩ : ∃ ad, A = some ad := by
      cases A with
      | none => have := hA0 rfl; omega
      | some ad => exact ⟨ad, rfl⟩
    obtain ⟨g, cs0, rfl, hg, hg2, hblk, hrow, hgd⟩ := hA ad rfl
    have hrow : RowsN 8 cs0 L.length rows := hrow
    have hih : ∀ L' : List St, cntL L' < M → MkL L' := fun L' h => ih _ h L' rfl
    have hR' : ∀ j g, j < L.length → Rs j g → R g := fun j g h1 h2 => (hR j g h1 h2).1
    have hinit := hid (show nL (L.take 0) = 0 by simp [nL])
    have hkid' : ∀ (j : Nat) (e : St), L[j]? = some e → OwnD w (Rs j) (rows j) e.d := fun j e he => hkid j _ (by simp [he])
    clear hA ho ih hR hg2 hA0 hkid
    have hz := hid hz
    have hd := hid hd
    have hgd := hid hgd
    have hih := hid hih
    have hR' := hid hR'
    have hRb := hid hRb
    have hgs := hid (hRb.out g hg)
    have hgR := hid hg
    clear hg
    generalize hN : L.length = N at *
    go_enter Try.func27, Try.ntmps27
    go_wp2_with fail
    go_loopw [1, 5] (fun a i wr => ∃ (m : Nat) (cs : List Value) (rows' : Nat → List Value), m ≤ N ∧ i = .int .i64 m ∧ a = .int .i64 ((k + nL (L.take m) : Nat) : Int) ∧ Blk wr g SI cs ∧ RowsN 8 cs N rows' ∧
      (∀ (j : Nat) (e : St), L[j]? = some e → OwnD wr (Rs j) (rows' j) (if j < m then markSt (k + nL (L.take j)) e else e).d) ∧ ChgR w wr R) (fun _ i _ => N - (Go.RowKit.intOf i).toNat)
    case atStart => exact ⟨0, cs0, rows, Nat.zero_le _, rfl, by rw [hinit.out]; simp, hblk, hrow, fun j e he => by rw [if_neg (by omega)]; exact hkid' j e he, ChgR.refl _ _⟩
    case round =>
      clear hblk hrow hkid'
      obtain ⟨m, cs, rows', hm, rfl, rfl, hblk, hrow, hkid, hch⟩ := hrel
      by_cases hlt : m < N
      · have hu : L[m]? = some L[m] := List.getElem?_eq_getElem (by omega)
        have hle := nL_le L (m + 1)
        rw [nL_take (by omega)] at hle
        have hst := hid (nL_take (L := L) (m := m) (by omega))
        have hom := hkid m _ hu
        rw [if_neg (by omega)] at hom
        have hcm := cntSt_mem (List.getElem_mem (show m < L.length by omega))
        generalize hT : L[m] = t at *
        obtain ⟨k', s, e, bs, es⟩ := t
        rw [nSt_mk] at hle hst
        obtain ⟨ek, en, en', A', l', c', Bb, cb, C, cc, lo, hi, R2, R3, hrm, hs, oX, oB, oE, d1, d2, d3⟩ := own_st_inv hom
        have hcB : cntL bs < M := by simp only [cntSt] at hcm; omega
        have hcE : cntL es < M := by simp only [cntSt] at hcm; omega
        obtain ⟨-, hr8⟩ := hrow m hlt
        rw [hrm] at hr8
        have c0 := hr8 0 _ rfl
        have c1 := hr8 1 _ rfl
        have c2 := hr8 2 _ rfl
        have c3 := hr8 3 _ rfl
        have c4 := hr8 4 _ rfl
        have c5 := hr8 5 _ rfl
        have c6 := hr8 6 _ rfl
        have c7 := hr8 7 _ rfl
        generalize hq : k + nL (L.take m) = q at *
        have hpos := cnt_pos e
        have hq1 : q + (2 + 3 * cntT e + nL bs + nL es) ≤ 9223372036000000000 := by omega
        have p0 : wr.cell? ⟨g, m * 8, none⟩ = some (.int .i64 k') := by rw [hblk.cell]; exact c0
        have f0 := hblk.frozen (m * 8)
        have hmt1 := fun w => Lh.markText_any (q + 1) (by omega) (by omega) w
        rw [show ((q + 1 : Nat) : Int) = (q : Int) + 1 by omega] at hmt1
        have hmt1 := hid hmt1
        have hmt2 := fun w => Lh.markText_any (q + 4) (by omega) (by omega) w
        rw [show ((q + 4 : Nat) : Int) = (q : Int) + 1 + 1 + 1 + 1 by omega] at hmt2
        have hmt2 := hid hmt2
        have hb0 := hid hblk
        have hr0 := hid hrow
        have hk0' := hid hkid
        have hc0 := hid hch
        have c1 := hid c1
        have c2 := hid c2
        have c3 := hid c3
        have c4 := hid c4
        have c5 := hid c5
        have c6 := hid c6
        have c7 := hid c7
        clear hblk hrow hkid hch c0 hr8
        go_wp2_with fail
        refine (hmt1.out _).mono ?_
        rintro e1 w2 ⟨rfl, hb⟩
        have hB1 := hb0.out.set_ (m * 8) (.int .i64 (q : Int))
        have hB2 := hB1.below hb hB1.lt
        have p1 : w2.cell? ⟨g, m * 8 + 1, none⟩ = some (sv s) := by
          rw [hB2.cell]; simp only [List.getElem?_set]; rw [if_neg (by omega)]; exact c1.out
        have p2 : w2.cell? ⟨g, m * 8 + 2, none⟩ = some (.int .i64 ek) := by
          rw [hB2.cell]; simp only [List.getElem?_set]; rw [if_neg (by omega)]; exact c2.out
        have p3 : w2.cell? ⟨g, m * 8 + 3, none⟩ = some (.int .i64 en) := by
          rw [hB2.cell]; simp only [List.getElem?_set]; rw [if_neg (by omega)]; exact c3.out
        have f1 := hB2.frozen (m * 8 + 1)
        have f2 := hB2.frozen (m * 8 + 2)
        have f3 := hB2.frozen (m * 8 + 3)
        have hX1 := hid (ChgR.trans (ChgR.set1 wr g (m * 8) (.int .i64 (q : Int))) (ChgR.of_below hb _))
        replace hB2 := hid hB2
        clear hB1 hb hmt1
        go_wp2_with fail
        refine (hmt2.out _).mono ?_
        rintro e2 w3 ⟨rfl, hb⟩
        have hB3 := ((hB2.out.set_ (m * 8 + 1) (sv (Lh.mk (q + 1)))).set_ (m * 8 + 2) (.int .i64 ((q : Int) + 1 + 1))).set_ (m * 8 + 2 + 1) (.int .i64 ((q : Int) + 1 + 1 + 1))
        have hB4 := hB3.below hb hB3.lt
        have p4 : w3.cell? ⟨g, m * 8 + 2 + 2, none⟩ = some (sv en') := by
          rw [hB4.cell]; simp only [List.getElem?_set]; rw [if_neg (by omega), if_neg (by omega), if_neg (by omega), if_neg (by omega)]; exact c4.out
        have p5 : w3.cell? ⟨g, m * 8 + 2 + 3, none⟩ = some (.slice A' l' c') := by
          rw [hB4.cell]; simp only [List.getElem?_set]; rw [if_neg (by omega), if_neg (by omega), if_neg (by omega), if_neg (by omega)]; exact c5.out
        have f4 := hB4.frozen (m * 8 + 2 + 2)
        have hX2 := hid (hX1.out.trans (((((ChgR.set1 w2 g (m * 8 + 1) (sv (Lh.mk (q + 1)))).trans (ChgR.set1 _ g (m * 8 + 2) (.int .i64 ((q : Int) + 1 + 1)))).trans (ChgR.set1 _ g (m * 8 + 2 + 1) (.int .i64 ((q : Int) + 1 + 1 + 1)))).trans (ChgR.of_below hb _)).trans (ChgR.set1 w3 g (m * 8 + 2 + 2) (sv (Lh.mk (q + 4))))))
        have hB5 := hid (hB4.set_ (m * 8 + 2 + 2) (sv (Lh.mk (q + 4))))
        clear hB3 hB4 hB2 hb hmt2 hX1 p1 p2 p3 f1 f2 f3
        go_wp2_with fail
        -- the blocks of this statement, and of the others, are not the row's
        have hRs := hid (fun (h : Nat) (hh : Rs m h) => show h ≠ g ∧ h < wr.heap.size from ⟨fun e => by subst e; exact hgd.out m hlt hh, Nat.lt_of_lt_of_le (hRb.out h (hR'.out m h hlt hh)) hc0.out.size⟩)
        have hgI : ¬ Iv lo hi g := fun h => (hRs.out g (d1 g h).1).1 rfl
        have hg2 : ¬ R2 g := fun h => (hRs.out g (d2 g h).1).1 rfl
        have hg3 : ¬ R3 g := fun h => (hRs.out g (d3 g h)).1 rfl
        have hgI := hid hgI
        have hg2 := hid hg2
        have hg3 := hid hg3
        have d1 := hid d1
        have d2 := hid d2
        have d3 := hid d3
        have zX := hid hX2.out.size
        have oX1 := OwnX.chgR oX hX2.out (fun h hh => (hRs.out h (d1.out h hh).1).1) (fun h hh => (hRs.out h (d1.out h hh).1).2)
        have oB1 := hid (OwnD.chg oB hX2.out (fun h hh => (hRs.out h (d2.out h hh).1).1) (fun h hh => (hRs.out h (d2.out h hh).1).2))
        have oE1 := hid (OwnD.chg oE hX2.out (fun h hh => (hRs.out h (d3.out h hh)).1) (fun h hh => (hRs.out h (d3.out h hh)).2))
        have hcl := markE e lo hi ek en en' A' l' c' (q + 5) _ oX1 (by omega) (by omega)
        rw [show ((q + 5 : Nat) : Int) = (q : Int) + 1 + 1 + 1 + 1 + 1 by omega] at hcl
        have hcl := hid hcl
        clear oX1 oX oB oE
        refine hcl.out.mono ?_
        rintro e3 w4 ⟨rfl, oX2, hch⟩
        have hX3 := hid (ChgR.of_chg (R := Iv lo hi) hch fun h hh => hh)
        have oX2 := hid oX2
        have hB6 := blk_chgR hB5.out hX3.out hgI.out
        have p6 : w4.cell? ⟨g, m * 8 + 6, none⟩ = some (.slice Bb bs.length cb) := by
          rw [hB6.cell]; simp only [List.getElem?_set]; rw [if_neg (by omega), if_neg (by omega), if_neg (by omega), if_neg (by omega), if_neg (by omega)]; exact c6.out
        have hB6 := hid hB6
        clear hch hcl p4 p5 f4 hB5
        generalize hq2 : q + 5 + 3 * (cntT e - 1) = q2 at *
        have oB2 := hid (OwnD.chg oB1.out hX3.out (fun h hh hi => ((d1.out h hi).2.1 hh)) (fun h hh => Nat.lt_of_lt_of_le (hRs.out h (d2.out h hh).1).2 zX.out))
        have oE2 := hid (OwnD.chg oE1.out hX3.out (fun h hh hi => ((d1.out h hi).2.2 hh)) (fun h hh => Nat.lt_of_lt_of_le (hRs.out h (d3.out h hh)).2 zX.out))
        have zY := hid (Nat.le_trans zX.out hX3.out.size)
        have hcl := hid (hih.out bs hcB R2 Bb bs.length cb q2 w4 oB2.out (fun h hh => Nat.lt_of_lt_of_le (hRs.out h (d2.out h hh).1).2 zY.out) (by omega) (by omega))
        clear oB1 oE1 oB2
        go_wp2_with fail
        refine hcl.out.mono ?_
        rintro e4 w5 ⟨rfl, oB3, hX4⟩
        have hX4 := hid hX4
        have oB3 := hid oB3
        have hB7 := blk_chgR hB6.out hX4.out hg2.out
        have p7 : w5.cell? ⟨g, m * 8 + 7, none⟩ = some (.slice C es.length cc) := by
          rw [hB7.cell]; simp only [List.getElem?_set]; rw [if_neg (by omega), if_neg (by omega), if_neg (by omega), if_neg (by omega), if_neg (by omega)]; exact c7.out
        have hB7 := hid hB7
        clear hcl p6 hB6
        generalize hq3 : q2 + nL bs = q3 at *
        have oX3 := hid (OwnX.chgR oX2.out hX4.out (fun h hh => (d1.out h hh).2.1) (fun h hh => Nat.lt_of_lt_of_le (hRs.out h (d1.out h hh).1).2 zY.out))
        have oE3 := hid (OwnD.chg oE2.out hX4.out (fun h hh hi => (d2.out h hi).2 hh) (fun h hh => Nat.lt_of_lt_of_le (hRs.out h (d3.out h hh)).2 zY.out))
        have zZ := hid (Nat.le_trans zY.out hX4.out.size)
        have hcl := hid (hih.out es hcE R3 C es.length cc q3 w5 oE3.out (fun h hh => Nat.lt_of_lt_of_le (hRs.out h (d3.out h hh)).2 zZ.out) (by omega) (by omega))
        clear oX2 oE2 oE3
        go_wp2_with fail
        refine hcl.out.mono ?_
        rintro e5 w6 ⟨rfl, oE4, hX5⟩
        have hX5 := hid hX5
        have oE4 := hid oE4
        have hB8 := hid (blk_chgR hB7.out hX5.out hg3.out)
        have oX4 := hid (OwnX.chgR oX3.out hX5.out (fun h hh => (d1.out h hh).2.2) (fun h hh => Nat.lt_of_lt_of_le (hRs.out h (d1.out h hh).1).2 zZ.out))
        have oB4 := hid (OwnD.chg oB3.out hX5.out (fun h hh => (d2.out h hh).2) (fun h hh => Nat.lt_of_lt_of_le (hRs.out h (d2.out h hh).1).2 zZ.out))
        clear hcl p7 hB7 oX3 oB3
        go_wp2_with fail
        have hXa := hid (((hX2.out.mono (R' := fun x => x = g ∨ Rs m x) fun h hh => .inl hh).trans (hX3.out.mono fun h hh => .inr (d1.out h hh).1)).trans ((hX4.out.mono fun h hh => .inr (d2.out h hh).1).trans (hX5.out.mono fun h hh => .inr (d3.out h hh))))
        have hq2' : q2 = q + 2 + 3 * cntT e := by omega
        subst hq3
        subst hq2'
        have hB9 := hB8.out
        rw [set5_eq] at hB9
        have hR9 := RowsN.put (m := m) hr0.out hlt (by decide) [.int .i64 (q : Int), sv (Lh.mk (q + 1)), .int .i64 ((q : Int) + 1 + 1), .int .i64 ((q : Int) + 1 + 1 + 1), sv (Lh.mk (q + 4))] (of_decide_eq_true rfl)
        rw [hrm, show ([.int .i64 (q : Int), sv (Lh.mk (q + 1)), .int .i64 ((q : Int) + 1 + 1), .int .i64 ((q : Int) + 1 + 1 + 1), sv (Lh.mk (q + 4))] : List Value).length = 5 from rfl, put5] at hR9
        generalize setN cs (m * 8) [.int .i64 (q : Int), sv (Lh.mk (q + 1)), .int .i64 ((q : Int) + 1 + 1), .int .i64 ((q : Int) + 1 + 1 + 1), sv (Lh.mk (q + 4))] = cs9 at hB9 hR9
        refine ⟨⟨m + 1, cs9, _, hlt, by go_num, ?_, hB9, hR9, ?_, hc0.out.trans (hXa.out.mono fun h hh => ?_)⟩, by simp [Go.RowKit.intOf]; omega⟩
        · have := hst.out
          congr 1
          omega
        · intro j ej hj
          by_cases e1 : j = m
          · subst e1
            rw [hu] at hj; cases hj
            rw [if_pos rfl, if_pos (by omega), hq, markSt_mk]
            have hx5 := oX4.out
            rw [show q + 5 = q + 2 + 3 by omega] at hx5
            have hmk := OwnE.mark hx5 (by omega)
            rw [show ((q + 2 : Nat) : Int) = (q : Int) + 1 + 1 by omega, show q + 2 + 2 = q + 4 by omega] at hmk
            exact own_st_mk (mk_len _ (by omega) (by omega)) hmk oB4.out oE4.out d1.out d2.out d3.out
          · have hjn := lt_of_get hj
            rw [if_neg e1]
            have hb1 : ∀ h, Rs j h → h < wr.heap.size := fun h hh => Nat.lt_of_lt_of_le (hRb.out h (hR'.out j h (by omega) hh)) hc0.out.size
            have h2 := OwnD.chg (hk0'.out j ej hj) hXa.out (fun h hh h3 => h3.elim (fun e => by subst e; exact hgd.out j (by omega) hh) (fun h3 => by
              rcases Nat.lt_or_ge j m with hjm | hjm
              · exact hd.out j m h hjm hlt hh h3
              · exact hd.out m j h (by omega) (by omega) h3 hh)) hb1
            by_cases hjm : j < m
            · rw [if_pos (by omega)]; rw [if_pos hjm] at h2; exact h2
            · rw [if_neg (by omega)]; rw [if_neg hjm] at h2; exact h2
        · rcases hh with rfl | hh
          · exact hgR.out
          · exact hR'.out m h hlt hh
      · obtain rfl : m = N := by omega
        have hf := hid (show ((k + nL (L.take m) : Nat) : Int) = ((k + nL L : Nat) : Int) by rw [List.take_of_length_le (by omega)])
        have hb0 := hid hblk
        have hr0 := hid hrow
        have hk0' := hid hkid
        have hc0 := hid hch
        clear hblk hrow hkid hch
        go_wp2_with fail
        go_ret
        refine ⟨by rw [← hf.out]; rfl, ?_, hc0.out⟩
        have hml : (dl (markL k L)).length = m := by rw [dl_len, markL_len, hN]
        have hgoal : OwnD wr R [.slice (some ⟨g, 0, none⟩) (dl (markL k L)).length c] [.sl 1 (dl (markL k L))] := by
          refine .sl (R2 := fun _ => False) rows' Rs (by rw [hml]; exact hlc) hcap (fun h => by cases h) (fun ad e => ?_) (fun j e he => ?_) (fun j h hj hh => ⟨hR'.out j h (hml ▸ hj) hh, fun h => h⟩) (fun i j h hij hj => hd.out i j h hij (hml ▸ hj)) (fun h hh => hh.elim) .nil
          · cases e
            exact ⟨g, cs, rfl, hgR.out, fun h => h, hb0.out, by rw [hml]; exact hr0.out, fun j hj => hgd.out j (hml ▸ hj)⟩
          · rw [show dl (markL k L) = (markL k L).map St.d from rfl, List.getElem?_map, markL_at] at he
            cases hkj : L[j]? with
            | none => rw [hkj] at he; cases he
            | some b =>
              rw [hkj] at he
              cases he
              have := hk0'.out j b hkj
              rw [if_pos (by have := lt_of_get hkj; omega)] at this
              exact this
        rw [hml] at hgoal
        exact hgoal
end Go.Proofs.Yteioojdgipodjaa.Gd

/- Statements in the exact laws' words: marked. -/
set_option maxRecDepth 100000
namespace Go.Proofs.Yteioojdgipodjaa.Gd
open Go.RowKit Go.Lib Go.Proofs.Yteioojdgipodjaa.Com Go.Proofs.Yteioojdgipodjaa.Mem Go.Proofs.Yteioojdgipodjaa.Os Go.Proofs.Yteioojdgipodjaa.Tr

/-- how many marks a list of statements takes -/
def markCL (L : List St) : Nat := nL L
theorem markCL_sz (L : List St) : markCL L ≤ 5 * szL8 L := by
  have hs : ∀ L : List St, (∀ a ∈ L, nSt a ≤ 5 * (1 + szDR a.d)) → nL L ≤ 5 * (L.length + szDL (dl L)) := fun L hL => by
    induction L with
    | nil => simp [nL]
    | cons b r ih =>
      have := hL b (by simp)
      have := ih fun a ha => hL a (by simp [ha])
      simp only [nL, List.length_cons, dl, List.map_cons, szDL] at *
      omega
  have key : ∀ t : St, nSt t ≤ 5 * (1 + szDR t.d) := fun t => by
    induction t using St.ind with
    | h k s e bs es h1 h2 =>
      have := hs bs h1
      have := hs es h2
      have := cnt_sz e
      rw [St.d_mk, szR_st, nSt_mk]
      simp only [dl, List.length_map] at *
      omega
  have := hs L fun a _ => key a
  unfold markCL szL8
  exact this
theorem markL_own {lo hi : Nat} {v : Value} {L : List St} (kI : Int) (w : World) (h : OwnL lo hi w v L) (h0 : 0 < kI) (h1 : kI + ((markCL L : Nat) : Int) ≤ 9223372036000000000) (hs : hi ≤ w.heap.size) :
    Calls Try.prog 27 #[v, .int .i64 kI] w fun e w' => e = .returned (.int .i64 (kI + ((markCL L : Nat) : Int))) ∧ OwnL lo hi w' v (markL kI.toNat L) ∧ Chg w w' lo hi := by
  obtain ⟨k, rfl⟩ : ∃ k : Nat, kI = k := ⟨kI.toNat, by omega⟩
  rw [Int.toNat_natCast]
  obtain ⟨A, c, rows, rfl, hk, hl⟩ := h.row
  unfold markCL at *
  refine (markL_any _ L rfl (Iv lo hi) A L.length c k w h (fun g hg => by have := hg.2; omega) (by omega) (by omega)).mono fun e w' ⟨e1, o, hc⟩ => ⟨?_, o, hc.chg⟩
  rw [e1]
  congr 1
end Go.Proofs.Yteioojdgipodjaa.Gd
