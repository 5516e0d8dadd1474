/- Statements of the call's own: marked. -/
import Derived.Test.YtjglllpemhkkdaaGreatDoorZSt1
import Derived.Test.YtjglllpemhkkdaaGreatDoorZTr
import Derived.Test.YtjglllpemhkkdaaGreatDoorZP6a
import Derived.Test.YtjglllpemhkkdaaGreatDoorZPz
import Derived.Test.YtjglllpemhkkdaaGreatDoorZC5i
import Derived.Test.YtjglllpemhkkdaaGreatDoorZC4a
import Derived.Test.YtjglllpemhkkdaaGreatDoorZAs6
set_option maxRecDepth 100000
namespace Go.Proofs.YtjglllpemhkkdaaGreatDoor.Gd
open Go.RowKit Go.Lib Go.Sort Com Mem YtjglllpemhkkdaaGreatDoor.Os Tr

structure ChgR (w w' : World) (R : Nat → Prop) : Prop where
  os : w'.os = w.os
  tape : w'.tape = w.tape
  output : w'.output = w.output
  size : w.heap.size ≤ w'.heap.size
  block : ∀ k, k < w.heap.size → ¬ R k → w'.heap[k]? = w.heap[k]?
section
variable {a b d w w' : World} {R R' : Nat → Prop}
theorem ChgR.refl (w : World) (R : Nat → Prop) : ChgR w w R := ⟨rfl, rfl, rfl, Nat.le_refl _, fun _ _ _ => rfl⟩
theorem ChgR.trans (h : ChgR a b R) (k : ChgR b d R) : ChgR a d R :=
  ⟨k.os.trans h.os, k.tape.trans h.tape, k.output.trans h.output, Nat.le_trans h.size k.size, fun i hi hr => (k.block i (Nat.lt_of_lt_of_le hi h.size) hr).trans (h.block i hi hr)⟩
theorem ChgR.mono (h : ChgR a b R) (hR : ∀ g, R g → R' g) : ChgR a b R' := ⟨h.os, h.tape, h.output, h.size, fun i hi hr => h.block i hi fun hg => hr (hR i hg)⟩
theorem ChgR.of_below (h : Below w.heap.size w w') (R : Nat → Prop) : ChgR w w' R := ⟨h.os, h.tape, h.output, h.size, fun k hk _ => h.block k hk⟩
theorem ChgR.of_chg {lo hi : Nat} (h : Chg w w' lo hi) (hR : ∀ g, Iv lo hi g → R g) : ChgR w w' R :=
  ⟨h.os, h.tape, h.output, h.size, fun k hk hr => h.block k hk (by by_cases h1 : k < lo; exact .inl h1; by_cases h2 : hi ≤ k; exact .inr h2; exact absurd (hR k ⟨by omega, by omega⟩) hr)⟩
theorem ChgR.chg {lo hi : Nat} (h : ChgR w w' (Iv lo hi)) : Chg w w' lo hi := ⟨h.os, h.tape, h.output, h.size, fun k hk hn => h.block k hk fun hi => by have := hi.1; have := hi.2; omega⟩
theorem ChgR.set {g : Nat} (i : Nat) (hg : R g) (u : Value) : ChgR w (w.setCell ⟨g, i, none⟩ u) R :=
  ⟨rfl, rfl, rfl, by simp [World.setCell], fun k _ hr => heap_setCell_other w _ k u (by show k ≠ g; intro e; subst e; exact hr hg)⟩
theorem ChgR.set1 (w : World) (g i : Nat) (u : Value) : ChgR w (w.setCell ⟨g, i, none⟩ u) (fun x => x = g) := ChgR.set (R := fun x => x = g) i rfl u
theorem OwnD.chg {cs : List Value} {ds : List D} (h : OwnD w R cs ds) (hc : ChgR w w' R') (hd : ∀ g, R g → ¬ R' g) (hb : ∀ g, R g → g < w.heap.size) : OwnD w' R cs ds := h.same fun g hg => hc.block g (hb g hg) (hd g hg)
theorem OwnX.chgR {lo hi : Nat} {v : Value} {t : T} (h : OwnX lo hi w v t) (hc : ChgR w w' R') (hd : ∀ g, Iv lo hi g → ¬ R' g) (hb : ∀ g, Iv lo hi g → g < w.heap.size) : OwnX lo hi w' v t :=
  OwnE.same h fun g h1 h2 => hc.block g (hb g ⟨h1, h2⟩) (hd g ⟨h1, h2⟩)
theorem blk_chgR {g ty : Nat} {cs : List Value} (h : Blk w g ty cs) (hc : ChgR w w' R') (hd : ¬ R' g) : Blk w' g ty cs := (hc.block g h.lt hd).trans h
theorem OwnD.sl_inv {A : Option Addr} {l c n : Nat} {L : List (List D)} {cs : List Value} {ds : List D} (h : OwnD w R (.slice A l c :: cs) (.sl n L :: ds)) : l = L.length ∧ L.length ≤ c ∧ c ≤ maxLen ∧ (A = none → c = 0) ∧
    ∃ (R2 : Nat → Prop) (rows : Nat → List Value) (Rs : Nat → Nat → Prop), (∀ ad, A = some ad → ∃ g cs0, ad = ⟨g, 0, none⟩ ∧ R g ∧ ¬ R2 g ∧ Blk w g (tyI n) cs0 ∧ RowsN (wd n) cs0 L.length rows ∧ ∀ j, j < L.length → ¬ Rs j g) ∧
      (∀ j e, L[j]? = some e → OwnD w (Rs j) (rows j) e) ∧ (∀ j g, j < L.length → Rs j g → R g ∧ ¬ R2 g) ∧ (∀ i j g, i < j → j < L.length → Rs i g → ¬ Rs j g) ∧ (∀ g, R2 g → R g) ∧ OwnD w R2 cs ds := by
  cases h with
  | sl rows Rs hl hc h0 hA hk hR' hd' h2' r => exact ⟨rfl, hl, hc, h0, _, rows, Rs, hA, hk, hR', hd', h2', r⟩
theorem OwnD.sl_split {A : Option Addr} {l c n : Nat} {L : List (List D)} {cs : List Value} {ds : List D} (h : OwnD w R (.slice A l c :: cs) (.sl n L :: ds)) :
    ∃ R1 R2 : Nat → Prop, OwnD w R1 [.slice A l c] [.sl n L] ∧ OwnD w R2 cs ds ∧ (∀ g, R1 g → R g ∧ ¬ R2 g) ∧ ∀ g, R2 g → R g := by
  obtain ⟨rfl, hl, hc, h0, R2, rows, Rs, hA, hk, hR', hd', h2', r⟩ := h.sl_inv
  refine ⟨fun g => R g ∧ ¬ R2 g, R2, .sl (R2 := fun _ => False) rows Rs hl hc h0 (fun ad e => ?_) hk (fun j g hj hg => ⟨hR' j g hj hg, fun h => h⟩) hd' (fun g h => h.elim) .nil, r, fun g h => h, h2'⟩
  obtain ⟨g, cs0, e1, h3, h4, h5, h6, h7⟩ := hA ad e
  exact ⟨g, cs0, e1, ⟨h3, h4⟩, fun h => h, h5, h6, h7⟩
theorem own_st_inv {cs : List Value} {k : Int} {s : List UInt8} {e : T} {bs es : List St} (h : OwnD w R cs (St.mk k s e bs es).d) :
    ∃ ek en en' A l c Bb cb C cc lo hi, ∃ R2 R3 : Nat → Prop, cs = sc k s ek en en' A l c Bb bs.length cb C es.length cc ∧ s.length ≤ maxI ∧ OwnX lo hi w (nv ek en en' A l c) e ∧ OwnD w R2 [.slice Bb bs.length cb] [.sl 1 (dl bs)] ∧ OwnD w R3 [.slice C es.length cc] [.sl 1 (dl es)] ∧
      (∀ g, Iv lo hi g → R g ∧ ¬ R2 g ∧ ¬ R3 g) ∧ (∀ g, R2 g → R g ∧ ¬ R3 g) ∧ ∀ g, R3 g → R g := by
  rw [St.d_mk] at h
  obtain ⟨ek, en, en', A, l, c, Bb, cb, C, cc, e8⟩ := own_st8 h
  subst e8
  cases h with
  | i h =>
    generalize hs' : sv s = vs at h
    cases h with
    | s hs h =>
      cases h with
      | x hx h1 h2 h =>
        obtain ⟨R1, R2, o1, h, d1, d2⟩ := h.sl_split
        obtain ⟨R3, R4, o2, h, d3, d4⟩ := h.sl_split
        refine ⟨ek, en, en', A, l, c, Bb, cb, C, cc, _, _, R1, R3, ?_, hs, hx, ?_, ?_, fun g hg => ⟨(h1 g hg).1, fun h => (h1 g hg).2 (d1 g h).1, fun h => (h1 g hg).2 (d2 g (d3 g h).1)⟩, fun g hg => ⟨h2 g (d1 g hg).1, fun h => (d1 g hg).2 (d3 g h).1⟩, fun g hg => h2 g (d2 g (d3 g hg).1)⟩
        · simp [dl, sc]
        · simpa [dl] using o1
        · simpa [dl] using o2
theorem own_st_mk {k ek en : Int} {s en' : List UInt8} {A Bb C : Option Addr} {l c lb cb lc cc lo hi : Nat} {R2 R3 : Nat → Prop} {e : T} {bs es : List St} (hs : s.length ≤ maxI) (h1 : OwnX lo hi w (nv ek en en' A l c) e) (h2 : OwnD w R2 [.slice Bb lb cb] [.sl 1 (dl bs)]) (h3 : OwnD w R3 [.slice C lc cc] [.sl 1 (dl es)])
    (d1 : ∀ g, Iv lo hi g → R g ∧ ¬ R2 g ∧ ¬ R3 g) (d2 : ∀ g, R2 g → R g ∧ ¬ R3 g) (d3 : ∀ g, R3 g → R g) : OwnD w R (sc k s ek en en' A l c Bb lb cb C lc cc) (St.mk k s e bs es).d := by
  rw [St.d_mk]
  exact .i (.s hs (.x (R2 := fun g => R2 g ∨ R3 g) h1 (fun g hg => ⟨(d1 g hg).1, fun h => h.elim (d1 g hg).2.1 (d1 g hg).2.2⟩) (fun g hg => hg.elim (fun h => (d2 g h).1) (d3 g))
    (OwnD.app_sl (R1 := R2) (R2 := R3) h2 (OwnD.app_sl (R1 := R3) (R2 := fun _ => False) h3 .nil (fun g hg => ⟨hg, fun h => h⟩) (fun g hg => hg.elim)) (fun g hg => ⟨.inl hg, (d2 g hg).2⟩) (fun g hg => .inr hg))))
end
theorem RowsN.put {d : Nat} {cs : List Value} {N m : Nat} {rows : Nat → List Value} (h : RowsN d cs N rows) (hm : m < N) (hd : 0 < d) (new : List Value) (hn : new.length ≤ d) : RowsN d (setN cs (m * d) new) N (fun j => if j = m then new ++ (rows m).drop new.length else rows j) := by
  obtain ⟨e1, e2⟩ := h m hm
  have hcl : m * d + d ≤ cs.length := by
    have := e2 (d - 1) _ (List.getElem?_eq_getElem (by omega))
    have := lt_of_get this
    omega
  intro j hj
  by_cases e : j = m
  · subst e
    simp only [if_pos]
    refine ⟨by rw [List.length_append, List.length_drop]; omega, fun i u hu => ?_⟩
    have hi := lt_of_get hu
    rw [List.length_append, List.length_drop] at hi
    rw [setN_at _ _ _ _ (by omega)]
    by_cases hlt : i < new.length
    · rw [List.getElem?_append_left hlt] at hu
      rw [if_pos (by omega), show j * d + i - j * d = i by omega]; exact hu
    · rw [List.getElem?_append_right (by omega), List.getElem?_drop, show new.length + (i - new.length) = i by omega] at hu
      rw [if_neg (by omega)]; exact e2 i u hu
  · obtain ⟨h1, h2⟩ := h j hj
    simp only [if_neg e]
    refine ⟨h1, fun i u hu => ?_⟩
    have hi := lt_of_get hu
    rw [setN_at _ _ _ _ (by omega), if_neg ?_]
    · exact h2 i u hu
    · rcases Nat.lt_or_ge j m with hjm | hjm
      · have hjd : (j + 1) * d ≤ m * d := Nat.mul_le_mul_right d hjm
        rw [Nat.add_mul, Nat.one_mul] at hjd
        omega
      · have hjd : (m + 1) * d ≤ j * d := Nat.mul_le_mul_right d (by omega)
        rw [Nat.add_mul, Nat.one_mul] at hjd
        omega
mutual
def nSt : St → Nat
  | .mk _ _ e bs es => 2 + 3 * cntT e + nL bs + nL es
def nL : List St → Nat
  | [] => 0
  | a :: r => nSt a + nL r
end
mutual
def markSt (k : Nat) : St → St
  | .mk _ _ e bs es => .mk k (Lh.mk (k + 1)) (markN (k + 2) e) (markL (k + 2 + 3 * cntT e) bs) (markL (k + 2 + 3 * cntT e + nL bs) es)
def markL (k : Nat) : List St → List St
  | [] => []
  | a :: r => markSt k a :: markL (k + nSt a) r
end
theorem nSt_mk (k : Int) (s : List UInt8) (e : T) (bs es : List St) : nSt (.mk k s e bs es) = 2 + 3 * cntT e + nL bs + nL es := by rw [nSt]
theorem markSt_mk (q : Nat) (k : Int) (s : List UInt8) (e : T) (bs es : List St) : markSt q (.mk k s e bs es) = .mk q (Lh.mk (q + 1)) (markN (q + 2) e) (markL (q + 2 + 3 * cntT e) bs) (markL (q + 2 + 3 * cntT e + nL bs) es) := by rw [markSt]
theorem nL_take {L : List St} {m : Nat} (h : m < L.length) : nL (L.take (m + 1)) = nL (L.take m) + nSt L[m] := by
  induction L generalizing m with
  | nil => simp at h
  | cons e r ih =>
    cases m with
    | zero => simp [nL]
    | succ m => simp only [List.take_succ_cons, nL, List.getElem_cons_succ]; rw [ih (by simpa using h)]; omega
theorem nL_le (L : List St) (m : Nat) : nL (L.take m) ≤ nL L := by
  induction L generalizing m with
  | nil => simp
  | cons e r ih =>
    cases m with
    | zero => simp [nL]
    | succ m => simp only [List.take_succ_cons, nL]; have := ih m; omega
theorem markL_len (k : Nat) (L : List St) : (markL k L).length = L.length := by
  induction L generalizing k with
  | nil => rw [markL]
  | cons a r ih => rw [markL, List.length_cons, ih, List.length_cons]
theorem markL_at (k : Nat) (L : List St) : ∀ (j : Nat), (markL k L)[j]? = (L[j]?).map (markSt (k + nL (L.take j))) := by
  induction L generalizing k with
  | nil => intro j; rw [markL]; simp
  | cons a r ih =>
    intro j
    rw [markL]
    cases j with
    | zero => simp [nL]
    | succ j =>
      rw [List.getElem?_cons_succ, ih, List.getElem?_cons_succ]
      have e : nL ((a :: r).take (j + 1)) = nSt a + nL (r.take j) := by simp [nL]
      rw [e, Nat.add_assoc]
end Go.Proofs.YtjglllpemhkkdaaGreatDoor.Gd

/- The program's ParseExpr. -/
set_option maxRecDepth 100000
namespace Go.Proofs.YtjglllpemhkkdaaGreatDoor.Tk
open Go.RowKit Go.Lib Go.Sort Num Com Mem YtjglllpemhkkdaaGreatDoor.Os Tr

theorem rd_self {w : World} {B b : Nat} {xs : List Value} (h : Rd w B (some ⟨b, 0, none⟩) xs) : Rd w (b + 1) (some ⟨b, 0, none⟩) xs := fun hn => by
  obtain ⟨ad, e, _, hc⟩ := h hn
  cases e
  exact ⟨_, rfl, Nat.lt_succ_self b, hc⟩
def NewOk (S : List UInt8) (w : World) (e : Ending) (w' : World) : Prop := Below w.heap.size w w' ∧
  if (tokz S).2 = -1 then ∃ g b c, e = .returned (.tuple #[.pointer (some ⟨g, 0, none⟩), .nilIface]) ∧ Prs w' g b c (uz (tokz S).1 (S.length : Nat)) 0 ∧ w.heap.size ≤ g ∧ w.heap.size ≤ b
  else e = .returned (.tuple #[.pointer none, errV (tokz S).2])
set_option maxHeartbeats 2000000 in
theorem newp_any (S : List UInt8) (hS : S.length ≤ 9223372036854775807) (w : World) : Calls Tryz.prog 153 #[.string ⟨S.toArray⟩] w (NewOk S w) := by
  have ht := itokz S hS w
  unfold TokOk at ht
  have hbad := hid (tokz_bad (S := S))
  have hsm := hid (tokz_le (S := S))
  have h150 := tokz_len S
  unfold NewOk
  generalize hT : tokz S = T at *
  obtain ⟨L, bad⟩ := T
  dsimp only at ht hbad hsm h150 ⊢
  have ht := hid ht
  by_cases hneg : bad = -1
  · subst hneg
    have hS4 := hsm.out rfl
    simp only [if_pos]
    clear hbad hsm hT
    go_enter Tryz.func153, Tryz.ntmps153
    go_wp2_with fail
    refine ht.out.mono ?_
    rintro e w2 ⟨r, rfl, ho, hb⟩
    have hrow := hid ho.row
    have hb := hid hb
    have hsz := hb.out.size
    clear ho ht
    go_wp2_with (at_builtin; refine app_tok hrow.out hsz ⟨0, 0, (S.length : Nat), []⟩ (by omega) rfl _ _ rfl rfl _ rfl rfl ?_; intro v5 w5 hr5 hg5; obtain ⟨g5, c5, rfl, hge, -⟩ := row_last hr5; have hb5 := hid (below_row hb.out hrow.out hg5 hsz); replace hr5 := hid hr5; clear hg5)
    go_ret2
    have hO : OwnT w.heap.size w5.heap.size w5 (.slice (some ⟨g5, 0, none⟩) (L.length + 1) c5) (uz L (S.length : Nat)) := OwnT.of_row hr5.out
    obtain ⟨A, c, e, hrd, hc, hm, -, -⟩ := hO.read
    rw [uz_len] at e
    injection e with e1 e2 e3
    subst e1 e3
    have hblk : Blk (w5.alloc (.cells #[.slice (some ⟨g5, 0, none⟩) (L.length + 1) c5] PT)) w5.heap.size PT [.slice (some ⟨g5, 0, none⟩) (L.length + 1) c5] := Blk.new w5 PT _
    have hg5 : g5 < w5.heap.size := by
      obtain ⟨ad, e, hlt, -⟩ := hrd (by intro h; have := congrArg List.length h; rw [cellsT_len, uz_len] at this; simp at this)
      cases e; exact hlt
    have hsz5 := hb5.out.size
    refine ⟨hb5.out.alloc hsz5 _, _, g5, c5, rfl, ⟨⟨L.length + 1, c5, by rw [Nat.zero_mul]; exact hblk, by rw [uz_len]; omega, by omega, by omega⟩, ⟨hc, hm⟩, (rd_self hrd).below ((box_below w5 _).mono (by omega)), by omega⟩, hsz5, hge⟩
  · obtain ⟨hL, h0⟩ := hbad.out hneg
    have t1 : decide (0 ≤ bad) = true := decide_eq_true h0
    simp only [if_neg hneg]
    clear hbad hsm hT hL
    go_enter Tryz.func153, Tryz.ntmps153
    go_wp2_with fail
    refine ht.out.mono ?_
    rintro e w2 ⟨r, rfl, ho, hb⟩
    clear ho
    have hb := hid hb
    go_wp2_with fail
    go_ret2
    exact ⟨hb.out, rfl⟩
def NotV (w : World) : Prop := ∃ p, w.cell? ⟨0, 0, none⟩ = some (.iface As.PES (.pointer p))
theorem NotV.lt {w : World} (h : NotV w) : 0 < w.heap.size := by
  obtain ⟨p, h⟩ := h
  rcases Nat.lt_or_ge 0 w.heap.size with h1 | h1
  · exact h1
  · simp [World.cell?, Array.getElem?_eq_none h1] at h
theorem NotV.below {w w' : World} (h : NotV w) (hb : Below w.heap.size w w') : NotV w' := by
  have hlt := h.lt
  obtain ⟨p, h⟩ := h
  exact ⟨p, (hb.cell hlt).trans h⟩
theorem hand_below {w w' : World} (h : As.Handle w) (hb : Below w.heap.size w w') : As.Handle w' := h.below hb h.lt
set_option maxHeartbeats 1000000 in
theorem off_hit (a : Int) (w : World) (hh : As.Handle w) : Calls Tryz.prog 95 #[errV a] w fun e w' => e = .returned (.int .i64 a) ∧ Below w.heap.size w w' := by
  have hB := Blk.new w As.SE [.int .i64 0]
  have hb1 : Below w.heap.size w (w.alloc (.cells #[.int .i64 0] As.SE)) := box_below _ _
  have hc := hid (As.as_hit a w.heap.size _ (hand_below hh hb1) hB)
  have hlt : w.heap.size < (w.alloc (.cells #[.int .i64 0] As.SE)).heap.size := hB.lt
  have hB := hid hB
  have hb1 := hid hb1
  go_enter Tryz.func95, Tryz.ntmps95
  go_wp2_with fail
  generalize (w.alloc (.cells #[.int .i64 0] As.SE)) = w1 at *
  refine hc.out.mono ?_
  rintro e w2 ⟨rfl, hw2⟩
  have b2 : Below w1.heap.size w1 ((((w1.alloc (.cells #[.pointer (some ⟨w.heap.size, 0, none⟩)] As.PSE)).alloc (.cells #[.pointer (some ⟨As.HB, As.PSE, none⟩), .pointer (some ⟨w1.heap.size, 0, none⟩), .int .u64 150] As.VT)).alloc (.cells #[.pointer (some ⟨As.HB, As.PSE, none⟩), .pointer (some ⟨w1.heap.size, 0, none⟩), .int .u64 150] As.VT)).alloc (.cells #[.int .i64 a] As.SE)) :=
    ((((Below.refl _ _).alloc (Nat.le_refl _) _).alloc (by rw [size_alloc']; omega) _).alloc (by rw [size_alloc', size_alloc']; omega) _).alloc (by rw [size_alloc', size_alloc', size_alloc']; omega) _
  have B2 := ((hB.out.below b2 hB.out.lt).set_ 0 (.int .i64 a)).cell 0
  rw [← hw2] at B2
  have b3 : Below w.heap.size w w2 := by
    rw [hw2]
    exact (hb1.out.trans (b2.mono hb1.out.size)).setCell (p := ⟨w.heap.size, 0, none⟩) (Nat.le_refl _) _
  have b3 := hid b3
  have B2 : w2.cell? ⟨w.heap.size, 0, none⟩ = some (.int .i64 a) := B2
  clear hw2 b2 hB hb1 hc hh
  go_wp2_with fail
  go_ret
  exact ⟨rfl, b3.out⟩
set_option maxHeartbeats 1000000 in
theorem off_miss (p : Option Addr) (w : World) (hh : As.Handle w) : Calls Tryz.prog 95 #[.iface As.PES (.pointer p)] w fun e w' => e = .returned (.int .i64 0) ∧ Below w.heap.size w w' := by
  have hB := Blk.new w As.SE [.int .i64 0]
  have hb1 : Below w.heap.size w (w.alloc (.cells #[.int .i64 0] As.SE)) := box_below _ _
  have hc := hid (As.as_miss p w.heap.size _ (hand_below hh hb1) hB)
  have hb1 := hid hb1
  clear hB
  go_enter Tryz.func95, Tryz.ntmps95
  go_wp2_with fail
  generalize (w.alloc (.cells #[.int .i64 0] As.SE)) = w1 at *
  refine hc.out.mono ?_
  rintro e w2 ⟨rfl, hw2⟩
  have b2 : Below w1.heap.size w1 (((w1.alloc (.cells #[.pointer (some ⟨w.heap.size, 0, none⟩)] As.PSE)).alloc (.cells #[.pointer (some ⟨As.HB, As.PSE, none⟩), .pointer (some ⟨w1.heap.size, 0, none⟩), .int .u64 150] As.VT)).alloc (.cells #[.pointer (some ⟨As.HB, As.PSE, none⟩), .pointer (some ⟨w1.heap.size, 0, none⟩), .int .u64 150] As.VT)) :=
    (((Below.refl _ _).alloc (Nat.le_refl _) _).alloc (by rw [size_alloc']; omega) _).alloc (by rw [size_alloc', size_alloc']; omega) _
  rw [← hw2] at b2
  have b3 := hid (hb1.out.trans (b2.mono hb1.out.size))
  clear hw2 b2 hb1 hc hh
  go_wp2_with fail
  go_ret
  exact ⟨rfl, b3.out⟩

theorem ans_fin {w wx : World} {K N : Int} {s : List UInt8} {A : Option Addr} {L cc : Nat} {t : T} {lo hi : Nat} {z0 z1 z2 z3 : Value} (hres : Blk wx w.heap.size ET [z0, z1, z2, z3]) (own : OwnE ET wx lo hi (nv K N s A L cc) t) (hlo : w.heap.size < lo) (hhi : hi ≤ wx.heap.size) (hb : Below w.heap.size w wx) :
    Blk (Dr.setR wx w.heap.size K N s (.slice A L cc)) w.heap.size ET [.int .i64 K, .int .i64 N, sv s, .slice A L cc] ∧ OwnE ET (Dr.setR wx w.heap.size K N s (.slice A L cc)) w.heap.size (Dr.setR wx w.heap.size K N s (.slice A L cc)).heap.size (nv K N s A L cc) t ∧ Below w.heap.size w (Dr.setR wx w.heap.size K N s (.slice A L cc)) := by
  have hch := Dr.setR_chg wx w.heap.size K N s (.slice A L cc)
  refine ⟨Dr.setR_blk hres K N s _, ((own.chg hch (Or.inr (by omega))).mono (by omega) (by have := hch.size; omega)), ?_⟩
  exact ((((hb.setCell (p := ⟨w.heap.size, 0, none⟩) (Nat.le_refl _) (.int .i64 K)).setCell (p := ⟨w.heap.size, 1, none⟩) (Nat.le_refl _) (.int .i64 N)).setCell (p := ⟨w.heap.size, 2, none⟩) (Nat.le_refl _) (sv s)).setCell (p := ⟨w.heap.size, 3, none⟩) (Nat.le_refl _) (.slice A L cc))
theorem good_k {t : Tok} (h : GoodT t) : t.k ≠ 0 := by
  rcases h with ⟨h, _⟩ | ⟨h, _⟩ | ⟨h, _⟩ <;> rw [h] <;> decide
def ParseOk (S : List UInt8) (w : World) (e : Ending) (w' : World) : Prop :=
  ∃ K N s A L cc, e = .returned (.tuple #[nv K N s A L cc, .int .i64 (parseV S).2]) ∧ OwnE ET w' w.heap.size w'.heap.size (nv K N s A L cc) (parseV S).1 ∧ Below w.heap.size w w'
end Go.Proofs.YtjglllpemhkkdaaGreatDoor.Tk
