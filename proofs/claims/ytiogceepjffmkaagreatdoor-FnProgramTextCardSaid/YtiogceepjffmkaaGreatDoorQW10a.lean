/- The program's partsOf by its contract. -/
import Derived.Test.YtiogceepjffmkaaGreatDoorQDr4e
set_option maxHeartbeats 8000000
set_option maxRecDepth 100000
namespace Go.Proofs.YtiogceepjffmkaaGreatDoor.Gp
open Go.RowKit Go.Lib Go.Sort Com Mem YtiogceepjffmkaaGreatDoor.Os Tr Tk Kd Gs Gd
def PtsOk (ps : List Pt) (w : World) (e : Ending) (w' : World) : Prop := ∃ g c spare, e = .returned (.slice (some ⟨g, 0, none⟩) ps.length c) ∧ w.heap.size ≤ g ∧ Blk w' g PT10 (pvs ps ++ spare) ∧ Below w.heap.size w w'
theorem PtsOk.at_ {w' : World} {g : Nat} {ps : List Pt} {spare : List Value} (h : Blk w' g PT10 (pvs ps ++ spare)) : PtsAt w' g ps := fun j x hx => by
 obtain ⟨h1, h2⟩ := pvs_at hx
 have e1 := h.cell (j * 2)
 have e2 := h.cell (j * 2 + 1)
 rw [List.getElem?_append_left (lt_of_get h1)] at e1
 rw [List.getElem?_append_left (lt_of_get h2)] at e2
 exact ⟨e1.trans h1, e2.trans h2⟩
theorem new_cellsP (W : World) (n : Nat) (hn : W.heap.size = n) (cs : List Value) (ty : TypeId) : ∀ j u, cs[j]? = some u → (W.alloc (.cells cs.toArray ty)).cell? ((⟨n, 0, none⟩ : Addr).add j) = some u := by
 subst hn; exact new_cells10 W cs ty
theorem cell_alP {w : World} {a : Addr} {v : Value} (h : w.cell? a = some v) (o : Obj) : (w.alloc o).cell? a = some v := ((box_below w o).cell (block_lt_of_cell h)).trans h
theorem ptsOk_lit {w W : World} (ps : List Pt) (hb : Below w.heap.size w W) : PtsOk ps w (.returned (.slice (some ⟨W.heap.size, 0, none⟩) ps.length ps.length)) (W.alloc (.cells (pvs ps).toArray PT10)) :=
 ⟨W.heap.size, ps.length, [], rfl, hb.size, by rw [List.append_nil]; exact Blk.new W PT10 (pvs ps), hb.trans ((box_below W _).mono hb.size)⟩
theorem ptsOk_row {w W : World} {ps : List Pt} {v : Value} (h : W.ownsRow w.heap.size PT10 2 v ps.length (pvs ps)) (hne : ps ≠ []) (hb : Below w.heap.size w W) : PtsOk ps w (.returned v) W := by
 rcases h.2 with ⟨rfl, hz⟩ | ⟨g, cap, cur, rfl, hg, hblk, _, _, _, ht⟩
 ·exact absurd (List.eq_nil_of_length_eq_zero hz) hne
 ·refine ⟨g, cap, cur.toList.drop (ps.length * 2), rfl, hg, ?_, hb⟩
  unfold Blk
  rw [← ht, List.take_append_drop, Array.toArray_toList]
  exact hblk
theorem iparts (k : Int) (s : List UInt8) (hs : s.length ≤ 1000000000) (e : T) (ek en : Int) (en' : List UInt8) (A : Option Addr) (l c : Nat) (b o : LN St) (w : World) (hp : L1b.Pow w) (hx : Ex w w.heap.size (nv ek en en' A l c) e) :
  Calls Tryz.prog 67 #[.agg #[.int .i64 k, sv s, .int .i64 ek, .int .i64 en, sv en', .slice A l c, slv b, slv o]] w fun e' w' => PtsOk (ptsOf k s (fmtX e) b o) w e' w' := by
 obtain ⟨bA, bc, bs⟩ := b
 obtain ⟨oA, oc, os⟩ := o
 show Calls Tryz.prog 67 #[.agg #[.int .i64 k, sv s, .int .i64 ek, .int .i64 en, sv en', .slice A l c, .slice bA bs.length bc, .slice oA os.length oc]] w fun e' w' => PtsOk (ptsOf k s (fmtX e) ⟨bA, bc, bs⟩ ⟨oA, oc, os⟩) w e' w'
 have b1 := box_below w (.cells #[.int .i64 k, sv s, .int .i64 ek, .int .i64 en, sv en', .slice A l c, .slice bA bs.length bc, .slice oA os.length oc] 60)
 have bx := hid (Blk.new w 60 [.int .i64 k, sv s, .int .i64 ek, .int .i64 en, sv en', .slice A l c, .slice bA bs.length bc, .slice oA os.length oc])
 have cX := hid (iformat_any e _ _ (hp.below b1) (hx.go b1))
 have hb1 := hid b1
 have hX := fmtX_len e
 generalize fmtX e = x at *
 obtain ⟨ps, hps⟩ : ∃ ps, ptsOf k s x ⟨bA, bc, bs⟩ ⟨oA, oc, os⟩ = ps := ⟨_, rfl⟩
 rw [hps]
 unfold ptsOf at hps
 clear hx b1 hp
 go_enter Tryz.func67, Tryz.ntmps67
 obtain ⟨q0, q1, q2, q3, q4, q5, q6, q7⟩ := eight bx.out
 go_wp2_with fail
 refine cX.out.mono ?_
 rintro e2 w2 ⟨rfl, hb⟩
 have bx2 := hid (bx.out.below hb bx.out.lt)
 have hb2 := hid (hb1.out.trans (hb.mono hb1.out.size))
 clear hb cX bx hb1 q0 q1 q2 q3 q4 q5 q6 q7
 obtain ⟨q0, q1, q2, q3, q4, q5, q6, q7⟩ := eight bx2.out
 by_cases h1 : k = 1
 ·subst h1
  rw [if_pos rfl] at hps
  have hf := hid (show (⟨s.toArray⟩ : ByteArray) ++ ⟨#[32, 58, 61, 32]⟩ ++ ⟨x.toArray⟩ ++ ⟨#[32, 59]⟩ = ⟨(s ++ [32, 58, 61, 32] ++ x ++ [32, 59]).toArray⟩ by rw [bapp, bapp, bapp])
  replace hps := hid hps
  clear q2 q3 q4 q5 q6 q7
  go_wp2_with fail
  go_ret
  rw [hf.out, ← hps.out]
  exact ptsOk_lit _ hb2.out
 have e1 : (k == 1) = false := beq_false_of_ne h1
 rw [if_neg h1] at hps
 by_cases h4 : k = 4
 ·subst h4
  rw [if_pos rfl] at hps
  have hf := hid (show (⟨#[101, 109, 105, 116, 32]⟩ : ByteArray) ++ ⟨x.toArray⟩ ++ ⟨#[32, 59]⟩ = ⟨([101, 109, 105, 116, 32] ++ x ++ [32, 59]).toArray⟩ by rw [bapp, bapp])
  replace hps := hid hps
  clear q1 q2 q3 q4 q5 q6 q7 e1 h1
  go_wp2_with fail
  go_ret
  rw [hf.out, ← hps.out]
  exact ptsOk_lit _ hb2.out
 have e4 : (k == 4) = false := beq_false_of_ne h4
 rw [if_neg h4] at hps
 by_cases h3 : k = 3
 ·subst h3
  rw [if_pos rfl] at hps
  have hf := hid (show (⟨#[119, 104, 105, 108, 101, 32]⟩ : ByteArray) ++ ⟨x.toArray⟩ ++ ⟨#[32, 123]⟩ = ⟨([119, 104, 105, 108, 101, 32] ++ x ++ [32, 123]).toArray⟩ by rw [bapp, bapp])
  replace hps := hid hps
  clear q1 q2 q3 q4 q5 q7 e1 h1 e4 h4
  go_wp2_with fail
  go_ret
  rw [hf.out, ← hps.out]
  exact ptsOk_lit _ hb2.out
 have e3 : (k == 3) = false := beq_false_of_ne h3
 rw [if_neg h3] at hps
 by_cases h2 : k = 2
 ·subst h2
  rw [if_pos rfl] at hps
  have hf := hid (show (⟨#[105, 102, 32]⟩ : ByteArray) ++ ⟨x.toArray⟩ ++ ⟨#[32, 123]⟩ = ⟨([105, 102, 32] ++ x ++ [32, 123]).toArray⟩ by rw [bapp, bapp])
  by_cases h0 : 0 < os.length
  ·rw [if_pos h0] at hps
   have t0 : decide (0 < os.length) = true := decide_eq_true h0
   have q7o := fun o => cell_alP q7 o
   obtain ⟨i0, hi, hz0, hz1, hz2⟩ := info_parts infoP10
   have hown := hid (show (w2.alloc (.cells (pvs [([105, 102, 32] ++ x ++ [32, 123], ⟨bA, bc, bs⟩), ([32, 125], nil0)]).toArray PT10)).ownsRow w.heap.size PT10 2 (.slice (some ⟨w2.heap.size, 0, none⟩) 2 2) 2 (pvs [([105, 102, 32] ++ x ++ [32, 123], ⟨bA, bc, bs⟩), ([32, 125], nil0)]) from
    ⟨rfl, Or.inr ⟨w2.heap.size, 2, _, rfl, hb2.out.size, World.alloc_heap_new _ _, Nat.le_refl _, by unfold maxLen; omega, rfl, by simp [pvs, pv]⟩⟩)
   replace hps := hid hps
   clear q1 q2 q3 q4 q5 e1 h1 e4 h4 e3 h3
   go_wp2_with (at_builtin; refine wpList_append_own_at (P := Tryz.prog) _ rfl _ _ SP10 rfl w.heap.size PT10 i0 (.agg #[.string .empty, .slice none 0 0]) 2 40 Tryz.underlying104 hi hz0 hz1 hz2 rfl (by decide) _ 2 _ rfl (hown.out.alloc _) ⟨w2.heap.size + 1, 0, none⟩ 2 2 (pvs [([32, 101, 108, 115, 101, 32, 123], ⟨oA, oc, os⟩), ([32, 125], nil0)]) (by rfl) rfl (new_cellsP _ _ (size_alloc' _ _) _ _) (pvs_one _) (by unfold maxLen; omega) (by omega) (by rw [size_alloc', size_alloc']; have := hb2.out.size; omega) ?_; intro v5 w5 ho5 hg5 _ _; obtain ⟨A5, c5, rfl⟩ := own_form10 ho5; replace ho5 := hid ho5; replace hg5 := hid hg5)
   go_ret
   rw [← hps.out]
   refine ptsOk_row ho5.out (by simp) ?_
   have hz := hb2.out.size
   exact bgb (g := w2.heap.size) ((hb2.out.trans ((box_below w2 _).mono hz)).trans ((box_below _ _).mono (by rw [size_alloc']; omega))) hg5.out (by rw [size_alloc', size_alloc']; omega) hz
  ·rw [if_neg h0] at hps
   have t0 : decide (0 < os.length) = false := decide_eq_false h0
   have q7o := fun o => cell_alP q7 o
   replace hps := hid hps
   clear q1 q2 q3 q4 q5 e1 h1 e4 h4 e3 h3
   go_wp2_with fail
   go_ret
   rw [hf.out, ← hps.out]
   exact ptsOk_lit _ hb2.out
 ·have e2 : (k == 2) = false := beq_false_of_ne h2
  rw [if_neg h2] at hps
  replace hps := hid hps
  clear q1 q2 q3 q4 q5 q6 q7 h1 h4 h3
  go_wp2_with fail
  go_ret
  rw [← hps.out]
  exact ptsOk_lit _ hb2.out
open Ow Im Ag Pl
theorem grow_app {P : Program} {t e : TypeId} {z : Value} {by_ : Nat} {w0 w : World} {v : Value} {xs : List Value} (S : SlT P t e z by_) (h : Grow e w0 w v xs) (g : Nat) (hg : w.heap.size = g) (u : Value) (hu : u.oneCell' = true) (hl : xs.length < 1000000000000) {o : Oper} {a : Act} {ops : Array Oper} {rest : List Oper} {Q : Exit → Act → World → Prop} (hgd : o.guard = none) (s x : Operand)
  (ho : o.op = .call { callee := .builtin .append, args := #[s, x], argTypes := #[t, t] }) (hs : a.eval s = v) (hx : a.eval x = .slice (some ⟨g, 0, none⟩) 1 1)
  (hK : ∀ v' w', Grow e w0 w' v' (xs ++ [u]) → w.grownBy w' v.ownBlock → v' ≠ .slice none 0 0 → wpList P ops Q rest (a.put o.dst v') w') :
  wpList P ops Q (o :: rest) a (w.alloc (.cells #[u] e)) := by
 subst hg; exact h.append S u hu hl hgd s x ho hs hx hK
mutual
def shbSt : St → Prop
 | .mk _ s _ bs es => s.length ≤ 1000000000 ∧ shbL bs ∧ shbL es
def shbL : List St → Prop
 | [] => True
 | a :: r => shbSt a ∧ shbL r
end
theorem shbL_nil : shbL [] := by rw [shbL]; trivial
theorem shbL_get {L : List St} {m : Nat} {t : St} (h : shbL L) (ht : L[m]? = some t) : shbSt t := by
 induction L generalizing m with
 | nil => simp at ht
 | cons a r ih =>
  rw [shbL] at h
  cases m with
  | zero => rw [List.getElem?_cons_zero] at ht; cases ht; exact h.1
  | succ m => rw [List.getElem?_cons_succ] at ht; exact ih h.2 ht
theorem shbL_tail {a : St} {r : List St} (h : shbL (a :: r)) : shbSt a ∧ shbL r := by rw [shbL] at h; exact h
def LAs (w : World) (l : LN St) : Prop := LA (pln w) w.heap.size l ∧ shbL l.ks ∧ l.ks.length ≤ l.c
theorem las_fun {w : World} : Fnl (LAs w) := fun a b h k => la_fun a b h.1 k.1
theorem las_ad {w : World} {l : LN St} (h : LAs w l) (hne : l.ks ≠ []) : ∃ ad, l.A = some ad ∧ IsPl w ad.block ∧ ad.block < w.heap.size := la_ad h.1 hne
theorem las_pt {w : World} {l : LN St} (h : LAs w l) : PtOk w l.key.1 := la_pt h.1
theorem las_nil (w : World) : LAs w nil0 := ⟨⟨fun _ => [], fun j hj => by simp at hj, fun j t ht => by simp at ht, Nat.zero_le _⟩, shbL_nil, Nat.zero_le _⟩
theorem las_node {w wr : World} {l : LN St} {m : Nat} {t : St} (h : LAs w l) (hb : Below w.heap.size w wr) (ht : l.ks[m]? = some t) :
  ∃ (ad : Addr) (nk : Int) (ns : List UInt8) (ek en : Int) (es : List UInt8) (nA : Option Addr) (nl nc : Nat) (qA : Option Addr) (ql qc : Nat) (oA : Option Addr) (ol oc : Nat), l.A = some ad ∧ LdC wr (ad.add (m * 8)) [.int .i64 nk, sv ns, .int .i64 ek, .int .i64 en, sv es, .slice nA nl nc, .slice qA ql qc, .slice oA ol oc] ∧
   (RdN (pln w) w.heap.size [.int .i64 nk, sv ns, .int .i64 ek, .int .i64 en, sv es, .slice nA nl nc, .slice qA ql qc, .slice oA ol oc] t ∧ shbSt t) := by
 obtain ⟨ad, nk, ns, ek, en, es, nA, nl, nc, qA, ql, qc, oA, ol, oc, h1, h2, h3⟩ := la_node h.1 hb ht
 exact ⟨ad, nk, ns, ek, en, es, nA, nl, nc, qA, ql, qc, oA, ol, oc, h1, h2, h3, shbL_get h.2.1 ht⟩
theorem ex_pln {w : World} {B : Nat} {v : Value} {e : T} (h : Ex (pln w) B v e) : Ex w B v e := Ex.cry h (fun _ _ _ hv => (pln_cell hv).1) (Nat.le_refl _)
theorem caps8 {w : World} {B : Nat} {v0 v1 v2 v3 v4 v5 v6 v7 : Value} {k : Int} {s : List UInt8} {e : T} {bs es : List (List D)} (h : Rd8 w B [v0, v1, v2, v3, v4, v5, v6, v7] [.i k, .s s, .x e, .sl 1 bs, .sl 1 es]) : (∃ A c, v6 = .slice A bs.length c ∧ bs.length ≤ c) ∧ ∃ A c, v7 = .slice A es.length c ∧ es.length ≤ c := by
 obtain ⟨r1, e1, h1⟩ := h.i_
 injection e1 with _ e1
 subst e1
 obtain ⟨r2, e2, _, h2⟩ := h1.s_
 injection e2 with _ e2
 subst e2
 obtain ⟨_, _, _, _, _, _, r3, e3, _, h3⟩ := h2.x_
 injection e3 with _ e3; injection e3 with _ e3; injection e3 with _ e3; injection e3 with _ e3
 subst e3
 cases h3 with
 | sl _ hl1 _ _ h4 =>
  cases h4 with
  | sl _ hl2 _ _ h5 => exact ⟨⟨_, _, rfl, hl1.2⟩, _, _, rfl, hl2.2⟩
theorem rdN_parts {w : World} {t : St} {v0 v1 v2 v3 v4 v5 v6 v7 : Value} (h : RdN (pln w) w.heap.size [v0, v1, v2, v3, v4, v5, v6, v7] t) (hs : shbSt t) : ∃ k s e b o ek en en' A l c, t = .mk k s e b.ks o.ks ∧ s.length ≤ 1000000000 ∧ Ex w w.heap.size (nv ek en en' A l c) e ∧ LAs w b ∧ LAs w o ∧
  [v0, v1, v2, v3, v4, v5, v6, v7] = [.int .i64 k, sv s, .int .i64 ek, .int .i64 en, sv en', .slice A l c, slv b, slv o] := by
 obtain ⟨KL, hk, hP, hv⟩ := rdN_kids h
 obtain ⟨k, s, e, bs, es⟩ := t
 rw [shbSt] at hs
 unfold RdN at h
 rw [St.d_mk] at h
 obtain ⟨⟨A6, c6, e6, l6⟩, A7, c7, e7, l7⟩ := caps8 h
 obtain ⟨ek, en, en', A, l, c, Bb, cb, C, cc, rb, rc, e8, _, hx, _⟩ := st_inv h
 match KL, hk with
 | [b, o], hk =>
  have hk : [b.ks, o.ks] = [bs, es] := hk
  injection hk with hk1 hk2
  injection hk2 with hk2 _
  subst hk1 hk2
  have hv : [slv b, slv o] = [v6, v7] := hv
  injection hv with hv1 hv2
  injection hv2 with hv2 _
  subst hv1 hv2
  have k6 : b.ks.length ≤ b.c := by injection e6 with _ e9 e10; simp only [dl, List.length_map] at l6; omega
  have k7 : o.ks.length ≤ o.c := by injection e7 with _ e9 e10; simp only [dl, List.length_map] at l7; omega
  unfold sc at e8
  injection e8 with q0 e8; injection e8 with q1 e8; injection e8 with q2 e8; injection e8 with q3 e8; injection e8 with q4 e8; injection e8 with q5 e8
  subst q0 q1 q2 q3 q4 q5
  exact ⟨k, s, e, b, o, ek, en, en', A, l, c, rfl, hs.1, ex_pln hx, ⟨hP b (by simp), hs.2.1, k6⟩, ⟨hP o (by simp), hs.2.2, k7⟩, rfl⟩
abbrev writtenF : Value := .func (Fn.func 65) #[] #[]
def WrOk (ls : List Value) (n : Nat) (w : World) (e : Ending) (w' : World) : Prop := ∃ g gc spare, e = .returned (.slice (some ⟨g, 0, none⟩) n gc) ∧ w.heap.size ≤ g ∧ Blk w' g RowT (ls ++ spare) ∧ Below w.heap.size w w'
theorem rowT : SlT Tryz.prog 164 25 (.slice none 0 0) 24 := ⟨Tryz.underlying164, by kernel_rfl, rfl, by decide⟩
theorem iwritten (k : Int) (s : List UInt8) (hs : s.length ≤ 1000000000) (e : T) (ek en : Int) (en' : List UInt8) (A : Option Addr) (l c : Nat) (b o : LN St) (w : World) (hp : L1b.Pow w) (hx : Ex w w.heap.size (nv ek en en' A l c) e) :
  Calls Tryz.prog 65 #[.agg #[.int .i64 k, sv s, .int .i64 ek, .int .i64 en, sv en', .slice A l c, slv b, slv o]] w fun e' w' => WrOk ((ptsOf k s (fmtX e) b o).map fun x => slv x.2) (ptsOf k s (fmtX e) b o).length w e' w' := by
 obtain ⟨h1, h4⟩ := ptsOf_len k s (fmtX e) b o
 have b1 := box_below w (.cells #[.int .i64 k, sv s, .int .i64 ek, .int .i64 en, sv en', .slice A l c, slv b, slv o] 60)
 have bx := hid (Blk.new w 60 [.int .i64 k, sv s, .int .i64 ek, .int .i64 en, sv en', .slice A l c, slv b, slv o])
 have hc := iparts k s hs e ek en en' A l c b o _ (hp.below b1) (hx.go b1)
 unfold PtsOk at hc
 generalize ptsOf k s (fmtX e) b o = ps at *
 obtain ⟨bA, bc, bs⟩ := b
 obtain ⟨oA, oc, os⟩ := o
 replace hc := hid (show Calls Tryz.prog 67 #[.agg #[.int .i64 k, sv s, .int .i64 ek, .int .i64 en, sv en', .slice A l c, .slice bA bs.length bc, .slice oA os.length oc]] _ _ from hc)
 have hb1 := hid b1
 obtain ⟨n, hn⟩ : ∃ n, ps.length = n := ⟨_, rfl⟩
 rw [hn] at h1 h4 hc ⊢
 replace hn := hid hn
 clear hx b1 hp
 show Calls Tryz.prog 65 #[.agg #[.int .i64 k, sv s, .int .i64 ek, .int .i64 en, sv en', .slice A l c, .slice bA bs.length bc, .slice oA os.length oc]] w fun e' w' => WrOk (ps.map fun x => slv x.2) n w e' w'
 go_enter Tryz.func65, Tryz.ntmps65
 obtain ⟨q0, q1, q2, q3, q4, q5, q6, q7⟩ := eight bx.out
 go_wp2_with fail
 generalize (w.alloc (.cells #[.int .i64 k, sv s, .int .i64 ek, .int .i64 en, sv en', .slice A l c, .slice bA bs.length bc, .slice oA os.length oc] 60)) = w1 at *
 refine hc.out.mono ?_
 rintro e2 w2 ⟨g, gc, spare, rfl, hg, hB, hb⟩
 have hb2 := hid (hb1.out.trans (hb.mono hb1.out.size))
 have hat := hid hB
 have hg0 : w.heap.size ≤ g := Nat.le_trans hb1.out.size hg
 clear hb hB hc bx hb1 q0 q1 q2 q3 q4 q5 q6 q7
 go_wp2_with fail
 go_loopw [9, 3] (fun i v wr => ∃ m : Nat, m ≤ n ∧ i = .int .i64 (m : Nat) ∧ Grow RowT w wr v ((ps.take m).map fun x => slv x.2) ∧ (v = .slice none 0 0 → m = 0) ∧ Blk wr g PT10 (pvs ps ++ spare)) (fun i _ _ => n - (Go.RowKit.intOf i).toNat)
 case atStart => exact ⟨0, Nat.zero_le _, rfl, by simpa using Grow.nil_ w RowT hb2.out, fun _ => rfl, hat.out⟩
 case round =>
  obtain ⟨m, hm, rfl, hG, hv, hB⟩ := hrel
  obtain ⟨vA, vc, rfl, -, -, -, -⟩ := hG.len
  clear hat
  by_cases hlt : m < n
  ·obtain ⟨x, hx⟩ : ∃ x, ps[m]? = some x := ⟨_, List.getElem?_eq_getElem (by rw [hn.out]; exact hlt)⟩
   obtain ⟨c0, c1⟩ := PtsOk.at_ hB m x hx
   obtain ⟨sx, xA, xc, xs⟩ := x
   have c0 : wr.cell? ⟨g, m * 2, none⟩ = some (sv sx) := c0
   have c1 : wr.cell? ⟨g, m * 2 + 1, none⟩ = some (.slice xA xs.length xc) := c1
   have t1 : (m : Int) < (n : Int) := by omega
   have hbx := box_below wr (.cells #[sv sx, .slice xA xs.length xc] 108)
   have hBx := Blk.new wr 108 [sv sx, .slice xA xs.length xc]
   have hG2 := hid (hG.below hbx (Nat.le_refl _))
   have hB2 := hid (hB.below hbx hB.lt)
   have k1 := hBx.cell 1
   have hst := hid (show (ps.take (m + 1)).map (fun x => slv x.2) = (ps.take m).map (fun x => slv x.2) ++ [.slice xA xs.length xc] by
    rw [List.take_add_one, hx]; simp)
   have hq : ((ps.take m).map fun x => slv x.2).length < 1000000000000 := by rw [List.length_map, List.length_take]; omega
   clear hG hB hBx hbx hv
   go_wp2_with (at_builtin; refine grow_app rowT hG2.out (wr.heap.size + 1) (size_alloc' _ _) (.slice xA xs.length xc) rfl hq rfl _ _ rfl rfl rfl ?_; intro v5 w5 hG5 hgw hne; replace hG5 := hid hG5)
   refine ⟨⟨m + 1, hlt, by go_num, by rw [hst.out]; exact hG5.out, fun e => absurd e hne, ?_⟩, by simp [Go.RowKit.intOf]; omega⟩
   have hgg := hgw
   refine (hgg.block g hB2.out.lt fun e => ?_).trans hB2.out
   rcases hG2.out.1.2 with ⟨hv0, _⟩ | ⟨g', cap, cur, hv0, _, hblk, _⟩
   ·rw [hv0] at e; cases e
   ·rw [hv0] at e; cases e
    have h2 := hB2.out
    unfold Blk at h2
    rw [h2] at hblk
    injection hblk with h3
    injection h3 with _ h4 _
    revert h4; decide
  ·obtain rfl : m = n := by omega
   replace hG := hid hG
   replace hB := hid hB
   have hne : Value.slice vA ((ps.take m).map fun x => slv x.2).length vc ≠ .slice none 0 0 := fun e => by have := hv e; omega
   replace hv := hid hv
   clear hv
   obtain ⟨g2, c2, cur, hv2, h5, h6, h7, h8, h9, h10⟩ := hG.out.some_ hne
   have hln : ((ps.take m).map fun x => slv x.2).length = m := by rw [List.length_map, List.length_take, hn.out, Nat.min_self]
   injection hv2 with hv3 hv4 hv5
   subst hv3 hv5
   rw [hln] at h7 h10 ⊢
   replace h6 := hid h6
   replace h10 := hid h10
   go_wp2_with fail
   go_ret
   refine ⟨g2, vc, cur.toList.drop m, rfl, h5, ?_, hG.out.2⟩
   unfold Blk
   rw [show ps.map (fun x => slv x.2) = (ps.take m).map (fun x => slv x.2) by rw [List.take_of_length_le (by rw [hn.out]; exact Nat.le_refl _)], ← h10.out, List.take_append_drop, Array.toArray_toList]
   exact h6.out
theorem wbelow_any {w : World} {t : St} {v0 v1 v2 v3 v4 v5 v6 v7 : Value} (h : RdN (pln w) w.heap.size [v0, v1, v2, v3, v4, v5, v6, v7] t) (hs : shbSt t) (hp : L1b.Pow w) : ∃ KL : List (LN St),
  (kdW.cntLL (KL.map LN.ks) = kdW.cntLL (kdW.kids t) ∧ (∀ l ∈ KL.map LN.ks, l ∈ kdW.kids t ∨ l = []) ∧ ∀ l ∈ kdW.kids t, l ∈ KL.map LN.ks ∨ l = []) ∧ (∀ l ∈ KL, LAs w l) ∧ KL.length ≤ 4 ∧
  ∀ W, Below w.heap.size w W → Calls Tryz.prog 65 #[.agg #[v0, v1, v2, v3, v4, v5, v6, v7]] W fun e w' => ∃ g gc spare, e = .returned (.slice (some ⟨g, 0, none⟩) KL.length gc) ∧ W.heap.size ≤ g ∧ Blk w' g RowT (KL.map slv ++ spare) ∧ Below W.heap.size W w' := by
 obtain ⟨k, s, e, b, o, ek, en, en', A, l, c, rfl, hsl, hx, hb, ho, hv⟩ := rdN_parts h hs
 refine ⟨(ptsOf k s (fmtX e) b o).map (·.2), ?_, fun y hy => ?_, ?_, fun W hW => ?_⟩
 ·rw [List.map_map]
  exact ptsOf_kids k s (fmtX e) e b o
 ·obtain ⟨x, hx1, rfl⟩ := List.mem_map.1 hy
  rcases ptsOf_in k s (fmtX e) b o x hx1 with h1 | h1 | h1
  ·rw [h1]; exact hb
  ·rw [h1]; exact ho
  ·rw [h1]; exact las_nil w
 ·rw [List.length_map]; exact (ptsOf_len k s (fmtX e) b o).2
 ·injection hv with q0 hv; injection hv with q1 hv; injection hv with q2 hv; injection hv with q3 hv; injection hv with q4 hv; injection hv with q5 hv; injection hv with q6 hv; injection hv with q7 _
  subst q0 q1 q2 q3 q4 q5 q6 q7
  have := iwritten k s hsl e ek en en' A l c b o W (hp.below hW) (hx.go hW)
  rw [List.length_map, List.map_map]
  exact this
end Go.Proofs.YtiogceepjffmkaaGreatDoor.Gp
set_option maxRecDepth 100000
namespace Go.Proofs.YtiogceepjffmkaaGreatDoor.Bld
open Go.RowKit Go.Shelf
def lays167_ren : Go.Shelf.Ren := ⟨fun | 167 => 55 | 240 => 95 | 276 => 134 | n => n, fun | 70 => 89 | 5 => 5 | 75 => 93 | 0 => 0 | 72 => 91 | 37 => 22 | 4 => 4 | 164 => 207 | 80 => 97 | 9 => 9 | 20 => 20 | n => n, fun | n => n⟩
theorem lays167 : Lays.n167 Tryz.prog lays167_ren where
 mixed := by kernel_rfl
 f167 := Tryz.func55.trans (congrArg some (by kernel_rfl))
 f240 := Tryz.func95.trans (congrArg some (by kernel_rfl))
 f276 := Tryz.func134.trans (congrArg some (by kernel_rfl))
 t0 := Tryz.underlying0
 a0 := Tryz.isAgg0
 z0 := Tryz.sizeOf0
 v0 := Tryz.zeroValue0
 t4 := Tryz.underlying4
 a4 := Tryz.isAgg4
 z4 := Tryz.sizeOf4
 v4 := Tryz.zeroValue4
 t5 := Tryz.underlying5
 a5 := Tryz.isAgg5
 z5 := Tryz.sizeOf5
 v5 := Tryz.zeroValue5
 t9 := Tryz.underlying9
 a9 := Tryz.isAgg9
 z9 := Tryz.sizeOf9
 v9 := Tryz.zeroValue9
 t20 := Tryz.underlying20
 a20 := Tryz.isAgg20
 z20 := Tryz.sizeOf20
 v20 := Tryz.zeroValue20
 t37 := Tryz.underlying22
 a37 := Tryz.isAgg22
 z37 := Tryz.sizeOf22
 v37 := Tryz.zeroValue22
 t70 := Tryz.underlying89
 a70 := Tryz.isAgg89
 z70 := Tryz.sizeOf89
 v70 := Tryz.zeroValue89
 t72 := Tryz.underlying91
 a72 := Tryz.isAgg91
 z72 := Tryz.sizeOf91
 v72 := Tryz.zeroValue91
 t75 := Tryz.underlying93
 a75 := Tryz.isAgg93
 z75 := Tryz.sizeOf93
 v75 := Tryz.zeroValue93
 t164 := Tryz.underlying207
 a164 := Tryz.isAgg207
 z164 := Tryz.sizeOf207
 v164 := Tryz.zeroValue207
def lays166_ren : Go.Shelf.Ren := ⟨fun | 166 => 68 | 240 => 95 | 276 => 134 | n => n, fun | 70 => 89 | 9 => 9 | 3 => 3 | 75 => 93 | 0 => 0 | 72 => 91 | 37 => 22 | 4 => 4 | 164 => 207 | 80 => 97 | 5 => 5 | 20 => 20 | n => n, fun | n => n⟩
theorem lays166 : Lays.n166 Tryz.prog lays166_ren where
 mixed := by kernel_rfl
 f166 := Tryz.func68.trans (congrArg some (by kernel_rfl))
 f240 := Tryz.func95.trans (congrArg some (by kernel_rfl))
 f276 := Tryz.func134.trans (congrArg some (by kernel_rfl))
 t0 := Tryz.underlying0
 a0 := Tryz.isAgg0
 z0 := Tryz.sizeOf0
 v0 := Tryz.zeroValue0
 t3 := Tryz.underlying3
 a3 := Tryz.isAgg3
 z3 := Tryz.sizeOf3
 v3 := Tryz.zeroValue3
 t4 := Tryz.underlying4
 a4 := Tryz.isAgg4
 z4 := Tryz.sizeOf4
 v4 := Tryz.zeroValue4
 t9 := Tryz.underlying9
 a9 := Tryz.isAgg9
 z9 := Tryz.sizeOf9
 v9 := Tryz.zeroValue9
 t20 := Tryz.underlying20
 a20 := Tryz.isAgg20
 z20 := Tryz.sizeOf20
 v20 := Tryz.zeroValue20
 t37 := Tryz.underlying22
 a37 := Tryz.isAgg22
 z37 := Tryz.sizeOf22
 v37 := Tryz.zeroValue22
 t70 := Tryz.underlying89
 a70 := Tryz.isAgg89
 z70 := Tryz.sizeOf89
 v70 := Tryz.zeroValue89
 t72 := Tryz.underlying91
 a72 := Tryz.isAgg91
 z72 := Tryz.sizeOf91
 v72 := Tryz.zeroValue91
 t75 := Tryz.underlying93
 a75 := Tryz.isAgg93
 z75 := Tryz.sizeOf93
 v75 := Tryz.zeroValue93
 t164 := Tryz.underlying207
 a164 := Tryz.isAgg207
 z164 := Tryz.sizeOf207
 v164 := Tryz.zeroValue207
def lays168_ren : Go.Shelf.Ren := ⟨fun | 168 => 56 | 240 => 95 | 242 => 96 | 276 => 134 | 278 => 135 | n => n, fun | 70 => 89 | 21 => 21 | 3 => 3 | 75 => 93 | 0 => 0 | 72 => 91 | 37 => 22 | 4 => 4 | 164 => 207 | 51 => 209 | 5 => 5 | 46 => 192 | 80 => 97 | 9 => 9 | 20 => 20 | n => n, fun | n => n⟩
theorem lays168 : Lays.n168 Tryz.prog lays168_ren where
 mixed := by kernel_rfl
 f168 := Tryz.func56.trans (congrArg some (by kernel_rfl))
 f240 := Tryz.func95.trans (congrArg some (by kernel_rfl))
 f242 := Tryz.func96.trans (congrArg some (by kernel_rfl))
 f276 := Tryz.func134.trans (congrArg some (by kernel_rfl))
 f278 := Tryz.func135.trans (congrArg some (by kernel_rfl))
 t0 := Tryz.underlying0
 a0 := Tryz.isAgg0
 z0 := Tryz.sizeOf0
 v0 := Tryz.zeroValue0
 t3 := Tryz.underlying3
 a3 := Tryz.isAgg3
 z3 := Tryz.sizeOf3
 v3 := Tryz.zeroValue3
 t4 := Tryz.underlying4
 a4 := Tryz.isAgg4
 z4 := Tryz.sizeOf4
 v4 := Tryz.zeroValue4
 t5 := Tryz.underlying5
 a5 := Tryz.isAgg5
 z5 := Tryz.sizeOf5
 v5 := Tryz.zeroValue5
 t9 := Tryz.underlying9
 a9 := Tryz.isAgg9
 z9 := Tryz.sizeOf9
 v9 := Tryz.zeroValue9
 t20 := Tryz.underlying20
 a20 := Tryz.isAgg20
 z20 := Tryz.sizeOf20
 v20 := Tryz.zeroValue20
 t21 := Tryz.underlying21
 a21 := Tryz.isAgg21
 z21 := Tryz.sizeOf21
 v21 := Tryz.zeroValue21
 t37 := Tryz.underlying22
 a37 := Tryz.isAgg22
 z37 := Tryz.sizeOf22
 v37 := Tryz.zeroValue22
 t46 := Tryz.underlying192
 a46 := Tryz.isAgg192
 z46 := Tryz.sizeOf192
 v46 := Tryz.zeroValue192
 t51 := Tryz.underlying209
 a51 := Tryz.isAgg209
 z51 := Tryz.sizeOf209
 v51 := Tryz.zeroValue209
 t70 := Tryz.underlying89
 a70 := Tryz.isAgg89
 z70 := Tryz.sizeOf89
 v70 := Tryz.zeroValue89
 t72 := Tryz.underlying91
 a72 := Tryz.isAgg91
 z72 := Tryz.sizeOf91
 v72 := Tryz.zeroValue91
 t75 := Tryz.underlying93
 a75 := Tryz.isAgg93
 z75 := Tryz.sizeOf93
 v75 := Tryz.zeroValue93
 t164 := Tryz.underlying207
 a164 := Tryz.isAgg207
 z164 := Tryz.sizeOf207
 v164 := Tryz.zeroValue207
theorem extra167 : Builder.Extra Tryz.prog lays167_ren where
 sizeBuilder := by kernel_rfl
 liesBuilder := by kernel_rfl
 t5 := Tryz.underlying5
 a5 := Tryz.isAgg5
 z5 := Tryz.sizeOf5
 v5 := Tryz.zeroValue5
 infoByte := by kernel_rfl
 cellsByte := by kernel_rfl
 sizeByte := by kernel_rfl
 neB5 := by decide
theorem extra166 : Builder.Extra Tryz.prog lays166_ren where
 sizeBuilder := by kernel_rfl
 liesBuilder := by kernel_rfl
 t5 := Tryz.underlying5
 a5 := Tryz.isAgg5
 z5 := Tryz.sizeOf5
 v5 := Tryz.zeroValue5
 infoByte := by kernel_rfl
 cellsByte := by kernel_rfl
 sizeByte := by kernel_rfl
 neB5 := by decide
theorem extra168 : Builder.Extra Tryz.prog lays168_ren where
 sizeBuilder := by kernel_rfl
 liesBuilder := by kernel_rfl
 t5 := Tryz.underlying5
 a5 := Tryz.isAgg5
 z5 := Tryz.sizeOf5
 v5 := Tryz.zeroValue5
 infoByte := by kernel_rfl
 cellsByte := by kernel_rfl
 sizeByte := by kernel_rfl
 neB5 := by decide
theorem writeByte (B b : Nat) (bs : List Value) (c : Int) (w : World) (h : Lib.IsBuilderF 91 5 B b bs w) (hlen : bs.length + 1 ≤ 140737488355328) (hBw : B ≤ w.heap.size) :
  Calls Tryz.prog 55 #[.pointer (some ⟨b, 0, none⟩), .int .u8 c] w fun e w' => e = .returned .nilIface ∧ (Lib.BuilderAtF 91 5 B b (.pointer (some ⟨b, 0, none⟩)) (bs ++ [.int .u8 c]) w' ∧ Below B w w' ∧ Lib.OthersKept 5 (some b) w w') := Any.Builder_WriteByte_k lays167 extra167 B b bs c w h hlen hBw
theorem writeString (B b : Nat) (bs : List Value) (s : ByteArray) (w : World) (h : Lib.IsBuilderF 91 5 B b bs w) (hlen : bs.length + s.size ≤ 140737488355328) (hBw : B ≤ w.heap.size) :
  Calls Tryz.prog 68 #[.pointer (some ⟨b, 0, none⟩), .string s] w fun e w' => e = .returned (.tuple #[.int .i64 s.size, .nilIface]) ∧ (Lib.BuilderAtF 91 5 B b (.pointer (some ⟨b, 0, none⟩)) (bs ++ Lib.strCells s) w' ∧ Below B w w' ∧ Lib.OthersKept 5 (some b) w w') := Any.Builder_WriteString_k lays166 extra166 B b bs s w h hlen hBw
theorem writeRune (B b : Nat) (bs : List Value) (r : Int) (hr0 : -2147483648 ≤ r) (hr1 : r ≤ 2147483647) (w : World) (h : Lib.IsBuilderF 91 5 B b bs w) (hlen : bs.length + 4 ≤ 140737488355328) (hBw : B ≤ w.heap.size) :
  Calls Tryz.prog 56 #[.pointer (some ⟨b, 0, none⟩), .int .i32 r] w fun e w' => e = .returned (.tuple #[.int .i64 (Lib.runeCells r).length, .nilIface]) ∧ (Lib.BuilderAtF 91 5 B b (.pointer (some ⟨b, 0, none⟩)) (bs ++ Lib.runeCells r) w' ∧ Below B w w' ∧ Lib.OthersKept 5 (some b) w w') := Any.Builder_WriteRune_k lays168 extra168 B b bs r hr0 hr1 w h hlen hBw
theorem string_ (B b : Nat) (l : List UInt8) (w : World) (h : Lib.IsBuilderF 91 5 B b (Lib.byteCells l) w) (hBw : B ≤ w.heap.size) :
  Calls Tryz.prog 57 #[.pointer (some ⟨b, 0, none⟩)] w fun e w' => e = .returned (.string ⟨l.toArray⟩) ∧ (Lib.IsBuilderF 91 5 B b (Lib.byteCells l) w' ∧ Below B w w' ∧ Lib.OthersKept 5 (some b) w w') := Any.Builder_String_any_k Tryz.lays169 Tryz.Builder_Extra_169 B b l w h hBw
end Go.Proofs.YtiogceepjffmkaaGreatDoor.Bld
