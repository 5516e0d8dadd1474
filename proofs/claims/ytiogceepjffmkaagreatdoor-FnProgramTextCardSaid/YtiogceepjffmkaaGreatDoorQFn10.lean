/- The program's formatStmt by its contract: the walk. -/
import Derived.Test.YtiogceepjffmkaaGreatDoorQFm10
set_option maxHeartbeats 16000000
set_option maxRecDepth 100000
namespace Go.Proofs.YtiogceepjffmkaaGreatDoor.Gp
open Go.RowKit Go.Lib Go.Sort Com Mem Ow YtiogceepjffmkaaGreatDoor.Os Tr Tk Im Ag Pl Kd Gs Gd
theorem rdN_go {w W : World} {cs : List Value} {t : St} (h : RdN (pln w) w.heap.size cs t) (hb : Below w.heap.size w W) : RdN (pln W) W.heap.size cs t := (Rd8.blw h (pln_below hb)).more hb.size
theorem la_oneS {W : World} {g ty : Nat} {cs : List Value} {t : St} (hB : Blk W g ty cs) (h8 : cs.length = 8) (h : RdN (pln W) W.heap.size cs t) : LA (pln W) W.heap.size ⟨some ⟨g, 0, none⟩, 1, [t]⟩ := by
 refine ⟨fun _ => cs, fun j hj => ?_, fun j u hu => ?_, by simp⟩
 ·have hj0 : j = 0 := by have : j < 1 := hj; omega
  subst hj0
  refine ⟨_, rfl, hB.lt, h8, fun i u hu => ?_⟩
  rw [show ((⟨g, 0, none⟩ : Addr).add (0 * 8)).add i = ⟨g, i, none⟩ by rw [Nat.zero_mul, add_zero, add_zero], pln_in (p := ⟨g, i, none⟩) (Blk.pl hB), hB.cell]
  exact hu
 ·have hj : j = 0 := by
   rcases Nat.lt_or_ge j 1 with h1 | h1
   ·omega
   ·rw [List.getElem?_eq_none (by simpa using h1)] at hu; cases hu
  subst hj
  cases hu
  exact h
theorem add_z (a : Addr) : a.add (0 * 8) = a := by rw [Nat.zero_mul]; unfold Addr.add; simp
theorem add_tail (ad : Addr) (j : Nat) : ad.add ((j + 1) * 8) = (⟨ad.block, ad.off + 8, none⟩ : Addr).add (j * 8) := by
 rw [Addr.add_lit]
 unfold Addr.add
 rw [if_neg (by omega)]
 congr 1
 omega
theorem las_tail {w : World} {ad : Addr} {tc : Nat} {a : St} {r : List St} {A5 : Option Addr} (h : LAs w ⟨some ad, tc, a :: r⟩) (hA : (if tc = 1 then some ad else some ⟨ad.block, ad.off + 8, none⟩) = A5) : LAs w ⟨A5, tc - 1, r⟩ := by
 obtain ⟨⟨rows, hr⟩, hs, hc⟩ := h
 have hc : r.length + 1 ≤ tc := hc
 refine ⟨?_, (shbL_tail hs).2, by show r.length ≤ tc - 1; omega⟩
 by_cases h1 : tc = 1
 ·have hr0 : r = [] := List.eq_nil_of_length_eq_zero (by omega)
  subst hr0
  exact ⟨fun _ => [], fun j hj => by simp at hj, fun j t ht => by simp at ht, Nat.zero_le _⟩
 ·rw [if_neg h1] at hA
  subst hA
  refine ⟨fun j => rows (j + 1), fun j hj => ?_, fun j t ht => hr.kid (j + 1) t ht, by have := hr.len; exact Nat.le_trans (Nat.le_succ _) this⟩
  obtain ⟨ad', e, hB, hl⟩ := hr.cell (j + 1) (by show j + 1 < r.length + 1; have hj : j < r.length := hj; omega)
  cases e
  refine ⟨_, rfl, hB, ?_⟩
  rw [← add_tail]; exact hl
theorem own_ty {w : World} {lo e sz n g : Nat} {v : Value} {xs : List Value} (h : w.ownsRow lo e sz v n xs) (hg : v.ownBlock = some g) : ∃ cur fz, w.heap[g]? = some (.cells cur e fz) := by
 obtain ⟨hl, h | ⟨g', cap, cur, hv, _, hblk, _⟩⟩ := h
 ·rw [h.1] at hg; cases hg
 ·rw [hv] at hg; cases hg; exact ⟨cur, _, hblk⟩
theorem pts_las {w : World} {k : Int} {s x : List UInt8} {b o : LN St} (hb : LAs w b) (ho : LAs w o) : ∀ y ∈ ptsOf k s x b o, LAs w y.2 := fun y hy => by
 rcases ptsOf_in k s x b o y hy with h1 | h1 | h1
 ·rw [h1]; exact hb
 ·rw [h1]; exact ho
 ·rw [h1]; exact las_nil w
theorem ext0S (a b : Int) (w : World) : (Instr.field 101 (.agg #[.int .i64 a, .int .i64 b]) 0).run Tryz.prog w = .ok (.int .i64 a) w := by kernel_rfl
theorem iformat1 (t : St) (v0 v1 v2 v3 v4 v5 v6 v7 : Value) (w : World) (h : RdN (pln w) w.heap.size [v0, v1, v2, v3, v4, v5, v6, v7] t) (hs : shbSt t) (hp : L1b.Pow w) (hc : cntSt t ≤ 1100000) (hl : (tSt t).length ≤ 100000000000) :
  Calls Tryz.prog 30 #[.agg #[v0, v1, v2, v3, v4, v5, v6, v7]] w fun e w' => e = .returned (sv (tSt t)) ∧ Below w.heap.size w w' := by
 obtain ⟨k, s, e, bl, ol, ek, en, en', A, l, c, rfl, hsl, hx, hLb, hLo, hv⟩ := rdN_parts h hs
 have hmc := cntL_W (.mk k s e bl.ks ol.ks)
 injection hv with q0 hv; injection hv with q1 hv; injection hv with q2 hv; injection hv with q3 hv; injection hv with q4 hv; injection hv with q5 hv; injection hv with q6 hv; injection hv with q7 _
 subst q0 q1 q2 q3 q4 q5 q6 q7
 have htx := txP_of k s e bl ol
 have hpl := ptsOf_len k s (fmtX e) bl ol
 have hpo := pts_las (k := k) (s := s) (x := fmtX e) hLb hLo
 have hpc := fun (W : World) (hW : Below w.heap.size w W) => iparts k s hsl e ek en en' A l c bl ol W (hp.below hW) (hx.go hW)
 obtain ⟨bA, bc, bs⟩ := bl
 obtain ⟨oA, oc, os⟩ := ol
 have hcs : ([Value.int .i64 k, sv s, .int .i64 ek, .int .i64 en, sv en', .slice A l c, slv ⟨bA, bc, bs⟩, slv ⟨oA, oc, os⟩] : List Value) = [.int .i64 k, sv s, .int .i64 ek, .int .i64 en, sv en', .slice A l c, .slice bA bs.length bc, .slice oA os.length oc] := rfl
 rw [hcs] at h
 generalize htt : St.mk k s e bs os = t at *
 have b1 := box_below w (.cells #[.int .i64 k, sv s, .int .i64 ek, .int .i64 en, sv en', .slice A l c, .slice bA bs.length bc, .slice oA os.length oc] 60)
 have B1 := Blk.new w 60 [.int .i64 k, sv s, .int .i64 ek, .int .i64 en, sv en', .slice A l c, .slice bA bs.length bc, .slice oA os.length oc]
 have b2 := b1.trans ((box_below (w.alloc (.cells #[.int .i64 k, sv s, .int .i64 ek, .int .i64 en, sv en', .slice A l c, .slice bA bs.length bc, .slice oA os.length oc] 60)) (.cells #[.int .i64 k, sv s, .int .i64 ek, .int .i64 en, sv en', .slice A l c, .slice bA bs.length bc, .slice oA os.length oc] 60)).mono b1.size)
 have B2 := Blk.new (w.alloc (.cells #[.int .i64 k, sv s, .int .i64 ek, .int .i64 en, sv en', .slice A l c, .slice bA bs.length bc, .slice oA os.length oc] 60)) 60 [.int .i64 k, sv s, .int .i64 ek, .int .i64 en, sv en', .slice A l c, .slice bA bs.length bc, .slice oA os.length oc]
 rw [size_alloc'] at B2
 have B1' := hid (B1.alloc (.cells #[.int .i64 k, sv s, .int .i64 ek, .int .i64 en, sv en', .slice A l c, .slice bA bs.length bc, .slice oA os.length oc] 60))
 have hme := Gw.imeasureW ⟨some ⟨w.heap.size + 1, 0, none⟩, 1, [t]⟩ _ ⟨la_oneS B2 rfl (rdN_go h b2), by rw [shbL]; exact ⟨hs, shbL_nil⟩, Nat.le_refl _⟩ (hp.below b2) (by show kdW.cntL [t] ≤ _; omega)
 replace hme := hid (show Calls Tryz.prog 64 #[.slice (some ⟨w.heap.size + 1, 0, none⟩) 1 1, writtenF] _ _ from hme)
 have q0 := fun w => ext0S (kdW.cntL [t]) (kdW.depL [t]) w
 have t0 : decide (16777216 < ((kdW.cntL [t] : Nat) : Int)) = false := decide_eq_false (by omega)
 generalize kdW.cntL [t] = N at *
 generalize kdW.depL [t] = D at *
 generalize hps : ptsOf k s (fmtX e) ⟨bA, bc, bs⟩ ⟨oA, oc, os⟩ = ps at *
 have hb2 := hid b2
 obtain ⟨k0, k1, k2, k3, k4, k5, k6, k7⟩ := eight B1
 replace hpc := hid (fun (W : World) (hW : Below w.heap.size w W) => show Calls Tryz.prog 67 #[.agg #[.int .i64 k, sv s, .int .i64 ek, .int .i64 en, sv en', .slice A l c, .slice bA bs.length bc, .slice oA os.length oc]] W fun e' w' => PtsOk ps W e' w' from hpc W hW)
 generalize htot : tSt t = tot at *
 clear h hs hx hLb hLo b1 b2 B1 B2 hmc hcs hc htt hps
 go_enter Tryz.func30, Tryz.ntmps30
 go_wp2_with fail
 refine hme.out.mono ?_
 rintro e1 w3 ⟨rfl, hb⟩
 have hb3 := hid (hb2.out.trans (hb.mono hb2.out.size))
 have B3 := hid (B1'.out.below hb B1'.out.lt)
 have b4 := box_below w3 (.cells #[.pointer none, .slice none 0 0] BT)
 have hb4 := hid (hb3.out.trans (b4.mono hb3.out.size))
 have B4 := hid (B3.out.below b4 B3.out.lt)
 have hI4 := hid (Lib.IsBuilderF.of (Lib.fresh_isBuilder BT UT w3))
 clear hb hme k0 k1 k2 k3 k4 k5 k6 k7 B1' b4 hb2
 obtain ⟨k0, k1, k2, k3, k4, k5, k6, k7⟩ := eight B4.out
 have hge : w.heap.size ≤ w3.heap.size := hb3.out.size
 have hcl := hid (hpc.out _ hb4.out)
 go_wp2_with fail
 refine hcl.out.mono ?_
 rintro e5 w5 ⟨g, gc, spare, rfl, hg5, hB5, hb5⟩
 have hat5 := PtsOk.at_ hB5
 have hl5 := hB5.lt
 have z5 := hb5.size
 have z4 := size_alloc' w3 (.cells #[.pointer none, .slice none 0 0] BT)
 have hI5 := hid (bld_below hI4.out hb5)
 have hb6 := hid (hb4.out.trans (hb5.mono hb4.out.size))
 have hbk := hid (iback (.slice none 0 0) (w3.heap.size + 1) [] g gc ps (by omega) (by simp) w5 (by omega) (World.ownsRow_nil _ _ _ _) hl5 (by intro e; cases e) hat5)
 clear hB5 hb5 hat5 hcl hI4 hb4 B4 B3 k0 k1 k2 k3 k4 k5 k6 k7
 go_wp2_with fail
 refine hbk.out.mono ?_
 rintro e6 w6 ⟨v6, rfl, ho6, hw6, hg6⟩
 have hI6 := hid (bld_keep hI5.out hg6 fun q e => by cases e)
 have hb7 := hid (hb6.out.trans (Below.mono ⟨hg6.os, hg6.tape, hg6.output, hg6.size, fun q hq => hg6.block q hq (by intro e; cases e)⟩ hb6.out.size))
 have hF0 := hid (show FmS w w6 w3.heap.size v6 ps.reverse [] tot from ⟨hb7.out, hge, hI6.out, by simpa using ho6, by rw [List.reverse_reverse]; exact htx, fun x hx => hpo x (List.mem_reverse.1 hx), by rw [List.length_reverse, List.length_nil]; omega⟩)
 obtain ⟨A6, c6, rfl⟩ := own_form10 ho6
 obtain ⟨b, hb⟩ : ∃ b, w3.heap.size = b := ⟨_, rfl⟩
 rw [hb] at hF0 hge
 replace hp := hid hp
 clear hpc hb3 hb6 hbk hI5 ho6 hw6 hg6 hI6 hb7 hl5 hg5 z5 z4 hpo htx q0 t0
 go_wp2_with fail
 go_loopw [4] (fun v wr => ∃ stk acc, FmS w wr b v stk acc tot) (fun v wr => 5 * (tot.length - bldLen wr b) + sLen v)
 case atStart => exact ⟨ps.reverse, [], by simpa using hF0.out⟩
 case round =>
  obtain ⟨stk, acc, hF⟩ := hrel
  clear hF0 hb
  have hblt := bld_lt hF.bld
  rcases (show stk = [] ∨ ∃ init top, stk = init ++ [top] by
   rcases List.eq_nil_or_concat stk with h | ⟨i, x, h⟩
   ·exact Or.inl h
   ·exact Or.inr ⟨i, x, by rw [h, List.concat_eq_append]⟩) with rfl | ⟨init, top, rfl⟩
  ·obtain ⟨vA, vc, rfl⟩ := own_form10 hF.row
   have htx := hF.txt
   rw [List.reverse_nil, show txP [] = [] from rfl, List.append_nil] at htx
   subst htx
   have hst := hid (Bld.string_ b b acc _ hF.bld (by omega))
   have hlow := hid hF.low
   have hge2 := hF.ge
   clear hF
   go_wp2_with fail
   refine hst.out.mono ?_
   rintro e8 w8 ⟨rfl, -, hb8, -⟩
   have hb9 := hid (hlow.out.trans (hb8.mono hge2))
   clear hst hb8 hlow
   go_wp2_with fail
   go_ret
   exact ⟨rfl, hb9.out⟩
  ·obtain ⟨g, gc, rfl, hgge, hglt, hnc, ⟨cur, hblk⟩, hcell⟩ := own_at hF.row (by simp)
   obtain ⟨src, tA, tc, ks⟩ := top
   have hlen : (init ++ [(src, (⟨tA, tc, ks⟩ : LN St))]).length = init.length + 1 := by simp
   have hat := pvs_at (l := init ++ [(src, (⟨tA, tc, ks⟩ : LN St))]) (j := init.length) (x := (src, ⟨tA, tc, ks⟩)) (by simp)
   have c0 : wr.cell? ⟨g, init.length * 2, none⟩ = some (sv src) := hcell _ _ hat.1
   have c1 : wr.cell? ⟨g, init.length * 2 + 1, none⟩ = some (.slice tA ks.length tc) := hcell _ _ hat.2
   have hfew := hF.few
   have htx := hF.txt
   rw [List.reverse_append, show [(src, (⟨tA, tc, ks⟩ : LN St))].reverse ++ init.reverse = (src, (⟨tA, tc, ks⟩ : LN St)) :: init.reverse from rfl, txP_cons] at htx
   have htl := congrArg List.length htx
   simp only [List.length_append] at htl
   have hok := hF.ok (src, ⟨tA, tc, ks⟩) (by simp)
   have hoki := fun x (hx : x ∈ init) => hF.ok x (List.mem_append_left _ hx)
   have hrow0 := own_cut hF.row (m := init.length) (by simp)
   rw [← pvs_take, List.take_left] at hrow0
   rw [hlen] at hfew hnc ⊢
   obtain ⟨m, hm⟩ : ∃ m, init.length = m := ⟨_, rfl⟩
   rw [hm] at c0 c1 hfew hnc ⊢
   have q1 : IntKind.i64.wrap (m : Int) = (m : Int) := IntWalk.i64_in _ (by omega)
   have t1 : decide (0 < m + 1) = true := decide_eq_true (by omega)
   have t2 : decide ((0 : Int) < (m : Int) + 1) = true := decide_eq_true (by omega)
   have t3 : (m : Int) < (m : Int) + 1 := by omega
   rw [hm] at hrow0
   have hbx := box_below wr (.cells #[sv src, .slice tA ks.length tc] PT10)
   have hBx := hid (Blk.new wr PT10 [sv src, .slice tA ks.length tc])
   have hrow1 := hid (hrow0.alloc (.cells #[sv src, .slice tA ks.length tc] PT10))
   have hws := hid (Bld.writeString b b _ ⟨src.toArray⟩ _ (hF.bld.alloc (.cells #[sv src, .slice tA ks.length tc] PT10)) (by rw [Lib.byteCells_length]; show acc.length + src.toArray.size ≤ _; rw [List.size_toArray]; omega) (by rw [size_alloc']; omega))
   have hlow1 := hid (hF.low.trans (hbx.mono hF.low.size))
   have hbl0 := bldLen_is hF.bld
   have hge2 := hF.ge
   have z1 := size_alloc' wr (.cells #[sv src, .slice tA ks.length tc] PT10)
   clear hF hrow0 hbx hcell hat hblk
   replace hbl0 := hid hbl0
   replace htx := hid htx
   replace htl := hid htl
   replace hok := hid hok
   replace hoki := hid hoki
   go_wp2_with fail
   refine hws.out.mono ?_
   rintro e8 w8 ⟨rfl, hA8, hb8, hk8⟩
   have hI8 : Lib.IsBuilderF BT UT b b (Lib.byteCells (acc ++ src)) w8 := by
    rw [show Lib.byteCells (acc ++ src) = Lib.byteCells acc ++ Lib.strCells ⟨src.toArray⟩ by simp [Lib.byteCells, Lib.strCells]]
    exact Or.inr hA8
   have hrow8 := own_others hrow1.out hk8 (by intro e; have e : some g = some b := e; cases e; omega)
   have hBx8 := blk_others hBx.out hk8 (by omega)
   have hlow8 := hid (hlow1.out.trans (hb8.mono hge2))
   have z8 := hb8.size
   have k1 := hBx8.cell 1
   clear hws hA8 hb8 hk8 hrow1 hlow1 hBx c0 c1
   rcases ks with _ | ⟨a, r⟩
   ·have hF' := hid (show FmS w w8 b (.slice (some ⟨g, 0, none⟩) m gc) init (acc ++ src) tot from ⟨hlow8.out, hge2, hI8, by rw [hm]; exact hrow8, by rw [← htx.out, tJ_nil]; simp, hoki.out, by rw [hm, List.length_append]; omega⟩)
    have hbl8 := hid (bldLen_is hI8)
    clear hI8 hrow8 hBx8
    go_wp2_with fail
    refine ⟨⟨_, _, hF'.out⟩, ?_⟩
    rw [hbl0.out, hbl8.out]
    have := htl.out
    simp only [sLen, List.length_append]
    omega
   ·obtain ⟨ad, hA, -, hadB⟩ := las_ad hok.out (by simp)
    have hA : tA = some ad := hA
    subst hA
    have hcap : r.length + 1 ≤ tc := hok.out.2.2
    replace hI8 := hid hI8
    replace hrow8 := hid hrow8
    have t4 : decide (0 < r.length + 1) = true := decide_eq_true (by omega)
    have t5 : decide ((0 : Int) < (r.length : Int) + 1) = true := decide_eq_true (by omega)
    rw [List.length_cons] at k1
    obtain ⟨i0, hi, hz0, hz1, hz2⟩ := info_parts infoP10
    have hmx : m + 1 ≤ 400000000004 := by have := htl.out; omega
    have hsz8 : b + 1 ≤ w8.heap.size := by omega
    have hbxl : wr.heap.size < w8.heap.size := hBx8.lt
    replace hBx8 := hid hBx8
    have hty8 := hid (own_ty hrow8.out (g := g) rfl)
    have hdw := hid (fun (W : World) (hW : Below w.heap.size w W) => las_node hok.out hW (m := 0) (t := a) rfl)
    go_wp2_with (at_builtin; generalize hA5 : (if tc = 1 then some ad else some ⟨ad.block, ad.off + 8, none⟩ : Option Addr) = A5; refine wpList_append_own_at (P := Tryz.prog) _ rfl _ _ SP10 rfl (b + 1) PT10 i0 (.agg #[.string .empty, .slice none 0 0]) 2 40 Tryz.underlying104 hi hz0 hz1 hz2 rfl (by decide) _ m _ rfl (hrow8.out.alloc _) ⟨w8.heap.size, 0, none⟩ 1 1 (pvs [([], ⟨A5, tc - 1, r⟩)]) rfl (by rfl) (new_cellsP _ _ rfl _ _) (pvs_one _) (by unfold maxLen; omega) (by omega) (by rw [size_alloc']; omega) ?_; intro v9 w9 ho9 hg9 _ _; have hLt := hid (las_tail hok.out hA5); replace hA5 := hid hA5; rw [← pvs_app, show m + 1 = (init ++ [(([] : List UInt8), (⟨A5, tc - 1, r⟩ : LN St))]).length by rw [List.length_append, List.length_singleton, hm]] at ho9; generalize hs9 : init ++ [(([] : List UInt8), (⟨A5, tc - 1, r⟩ : LN St))] = stk9 at ho9; obtain ⟨A9, c9, rfl⟩ := own_form10 ho9; have hgg9 := gb_trans (World.grownBy_alloc w8 _ (some g)) hg9; have hBx9 := hid (hBx8.out.gb hgg9 (by omega)); have k9 : w9.cell? ⟨wr.heap.size, 1, none⟩ = some (.slice (some ad) (r.length + 1) tc) := hBx9.out.cell 1; have hlow9 := hid (bgb hlow8.out hgg9 (by omega) (by omega)); have hI9 := hid (bld_keep hI8.out hgg9 (fun q e => by cases e; exact hty8.out)); obtain ⟨ad', nk, ns, nek, nen, nes, nA, nl, nc, qA, ql, qc, oA', ol', oc', had, hld, hrd, hsh⟩ := hdw.out w9 hlow9.out; obtain rfl : ad = ad' := Option.some.inj had; rw [add_z] at hld; obtain ⟨p0, p1, p2, p3, p4, p5, p6, p7⟩ := ldC_at hld; replace hrd := hid hrd; replace ho9 := hid ho9; clear had hld)
    obtain ⟨k', s', e', bl', ol', ek', en1', en2', A', l', c', hta, hsl', hx', hLb', hLo', hv'⟩ := rdN_parts hrd.out hsh
    injection hv' with q0 hv'; injection hv' with q1 hv'; injection hv' with q2 hv'; injection hv' with q3 hv'; injection hv' with q4 hv'; injection hv' with q5 hv'; injection hv' with q6 hv'; injection hv' with q7 _
    have hz9 := hgg9.size
    have hpc := iparts k' s' hsl' e' ek' en1' en2' A' l' c' bl' ol' w9 (hp.out.below hlow9.out) (hx'.go hlow9.out)
    rw [← q0, ← q1, ← q2, ← q3, ← q4, ← q5, ← q6, ← q7] at hpc
    have htx' := txP_of k' s' e' bl' ol'
    rw [← hta] at htx'
    have hpl' := ptsOf_len k' s' (fmtX e') bl' ol'
    have hpo' := pts_las (k := k') (s := s') (x := fmtX e') hLb' hLo'
    generalize ptsOf k' s' (fmtX e') bl' ol' = ps2 at *
    replace hpc := hid hpc
    clear q0 q1 q2 q3 q4 q5 q6 q7 hta hx' hLb' hLo' hrd hsh hty8 hdw hBx8 hrow8 hI8 hg9 hgg9 hBx9
    refine hpc.out.mono ?_
    rintro e10 w10 ⟨g10, gc10, spare10, rfl, hg10, hB10, hb10⟩
    have hat10 := PtsOk.at_ hB10
    have hl10 := hB10.lt
    have z10 := hb10.size
    have ho10 := own_keep ho9.out fun q e => hb10.block q (own_ge ho9.out e).2
    have hI10 := hid (bld_below hI9.out hb10)
    have hlow10 := hid (hlow9.out.trans (hb10.mono hlow9.out.size))
    have hv9 : ∀ q, (Value.slice A9 stk9.length c9).ownBlock = some q → b + 1 ≤ q ∧ q < w9.heap.size := fun q e => own_ge ho9.out e
    have hsl9 : stk9.length = m + 1 := by rw [← hs9, List.length_append, List.length_singleton, hm]
    have hbk := hid (iback (.slice A9 stk9.length c9) (b + 1) stk9 g10 gc10 ps2 (by omega) (by omega) w10 (by omega) ho10 hl10 (fun e => by have := (hv9 _ e).2; omega) hat10)
    have hty10 := hid (fun q (e : (Value.slice A9 stk9.length c9).ownBlock = some q) => own_ty ho10 e)
    replace hv9 := hid hv9
    replace hsl9 := hid hsl9
    replace hs9 := hid hs9
    replace hm := hid hm
    replace htx' := hid htx'
    clear hB10 hb10 hat10 ho10 hI9 hlow9 hpc ho9 p0 p1 p2 p3 p4 p5 p6 p7 k9 k1
    go_wp2_with fail
    refine hbk.out.mono ?_
    rintro e11 w11 ⟨v11, rfl, ho11, hw11, hg11⟩
    have hI11 := bld_keep hI10.out hg11 fun q e => hty10.out q e
    have hlow11 := hid (hlow10.out.grown hg11 hlow10.out.size fun q e => by have := (hv9.out q e).1; omega)
    have hz11 := hg11.size
    obtain ⟨n11, hn11⟩ : ∃ n, (stk9 ++ ps2.reverse).length = n := ⟨_, rfl⟩
    rw [hn11] at ho11
    replace hn11 := hid hn11
    obtain ⟨A11, c11, rfl⟩ := own_form10 ho11
    have hbnd := htl.out
    rw [tJ, List.length_cons] at hbnd
    have hwb := hid (Bld.writeByte b b _ 32 w11 hI11 (by rw [Lib.byteCells_length, List.length_append]; omega) (by omega))
    replace ho11 := hid ho11
    replace hbnd := hid hbnd
    clear hI10 hlow10 hI11 hg11 hw11 hbk hty10 hv9
    go_wp2_with fail
    refine hwb.out.mono ?_
    rintro e12 w12 ⟨rfl, hA12, hb12, hk12⟩
    have hI12 : Lib.IsBuilderF BT UT b b (Lib.byteCells (acc ++ src ++ [32])) w12 := by
     rw [show Lib.byteCells (acc ++ src ++ [32]) = Lib.byteCells (acc ++ src) ++ [.int .u8 32] by simp [Lib.byteCells]]
     exact Or.inr hA12
    have ho12 := own_others ho11.out hk12 (fun e => by have := (own_ge ho11.out e).1; omega)
    have hlow12 := hlow11.out.trans (hb12.mono hge2)
    have hF' := hid (show FmS w w12 b (.slice A11 n11 c11) (stk9 ++ ps2.reverse) (acc ++ src ++ [32]) tot from ⟨hlow12, hge2, hI12, by rw [hn11.out]; exact ho12, by
      rw [← htx.out, ← hs9.out, List.reverse_append, List.reverse_reverse, List.reverse_append, txP_app, show [(([] : List UInt8), (⟨A5, tc - 1, r⟩ : LN St))].reverse ++ init.reverse = (([] : List UInt8), (⟨A5, tc - 1, r⟩ : LN St)) :: init.reverse from rfl, txP_cons, htx'.out, tJ]
      simp, fun x hx => by
      rcases List.mem_append.1 hx with h1 | h1
      ·rw [← hs9.out] at h1
       rcases List.mem_append.1 h1 with h2 | h2
       ·exact hoki.out x h2
       ·rw [List.mem_singleton] at h2; subst h2; exact hLt.out
      ·exact hpo' x (List.mem_reverse.1 h1), by
      rw [List.length_append, hsl9.out, List.length_reverse]
      simp only [List.length_append, List.length_cons, List.length_nil]
      omega⟩)
    have hbl12 := hid (bldLen_is hI12)
    clear hI12 ho12 hlow12 hA12 hb12 hk12 hlow11 hwb ho11
    go_wp2_with fail
    refine ⟨⟨_, _, hF'.out⟩, ?_⟩
    have h1 := hbnd.out
    have h2 := hn11.out
    rw [List.length_append, hsl9.out, List.length_reverse] at h2
    rw [hbl0.out, hbl12.out]
    simp only [sLen, List.length_append, List.length_cons, List.length_nil]
    omega
theorem own_rowG {e lo : Nat} {w : World} {v : Value} {xs : List Value} (h : w.ownsRow lo e 1 v xs.length xs) : Os.Own e lo w.heap.size w v xs := by
 rcases h.2 with ⟨hv, hn⟩ | ⟨g, c, cur, hv, hb, hblk, hnc, hcm, _, ht⟩
 ·have hx := List.eq_nil_of_length_eq_zero hn
  subst hx
  exact ⟨none, 0, [], hv, Nat.le_refl _, Nat.zero_le _, fun _ => ⟨rfl, rfl⟩, (fun ad e => by cases e), rfl⟩
 ·refine ⟨some ⟨g, 0, none⟩, c, cur.toList, hv, hnc, hcm, (fun e => by cases e), (fun ad e => ?_), by simpa using ht⟩
  cases e
  exact ⟨rfl, hb, (Array.getElem?_eq_some_iff.1 hblk).1, by unfold Blk; rw [Array.toArray_toList]; exact hblk⟩
theorem tJ_mem {L : List St} {m : Nat} {t : St} (h : L[m]? = some t) : (tSt t).length ≤ (tJ L).length := by
 obtain ⟨hm, rfl⟩ := List.getElem?_eq_some_iff.1 h
 have := tJ_le hm
 omega
theorem iformatL (A : Option Addr) (c : Nat) (L : List St) (w : World) (h : LA (pln w) w.heap.size ⟨A, c, L⟩) (hs : shbL L) (hp : L1b.Pow w) (hc : cntL L ≤ 1100000) (hl : (tJ L).length ≤ 100000000000) :
  Calls Tryz.prog 11 #[.slice A L.length c] w fun e w' => ∃ v, e = .returned v ∧ Grow 9 w w' v ((tL L).map sv) := by
 have hln := len_cntL L
 have hnode := hid (fun (m : Nat) (t : St) (hm : L[m]? = some t) (W : World) (hW : Below w.heap.size w W) => la_node h hW hm)
 have hfm := hid (fun (m : Nat) (t : St) (hm : L[m]? = some t) v0 v1 v2 v3 v4 v5 v6 v7 (W : World) (hr : RdN (pln W) W.heap.size [v0, v1, v2, v3, v4, v5, v6, v7] t) (hW : Below w.heap.size w W) => iformat1 t v0 v1 v2 v3 v4 v5 v6 v7 W hr (shbL_get hs hm) (hp.below hW) (by have := cntSt_mem (List.mem_of_getElem? hm); omega) (by have := tJ_mem hm; omega))
 obtain ⟨n, hn⟩ : ∃ n, L.length = n := ⟨_, rfl⟩
 rw [hn] at hln ⊢
 replace hn := hid hn
 clear h hs hp hl
 go_enter Tryz.func11, Tryz.ntmps11
 go_wp2_with fail
 go_loopw [8, 3] (fun i v wr => ∃ m : Nat, m ≤ n ∧ i = .int .i64 (m : Nat) ∧ Grow 9 w wr v ((tL (L.take m)).map sv)) (fun i _ _ => n - (Go.RowKit.intOf i).toNat)
 case atStart => exact ⟨0, Nat.zero_le _, rfl, by simpa [tL] using Grow.nil_ w 9 (Below.refl _ _)⟩
 case round =>
  obtain ⟨m, hm, rfl, hG⟩ := hrel
  by_cases hlt : m < n
  ·obtain ⟨t, ht⟩ : ∃ t, L[m]? = some t := ⟨_, List.getElem?_eq_getElem (by rw [hn.out]; exact hlt)⟩
   obtain ⟨ad, nk, ns, ek, en, es, nA, nl, nc, qA, ql, qc, oA, ol, oc, hA, hld, hrd⟩ := hnode.out m t ht wr hG.2
   have hA : A = some ad := hA
   subst hA
   obtain ⟨p0, p1, p2, p3, p4, p5, p6, p7⟩ := ldC_at hld
   have t1 : (m : Int) < (n : Int) := by omega
   have hbx := box_below wr (.cells #[.int .i64 nk, sv ns, .int .i64 ek, .int .i64 en, sv es, .slice nA nl nc, .slice qA ql qc, .slice oA ol oc] 60)
   have hBx := hid (Blk.new wr 60 [.int .i64 nk, sv ns, .int .i64 ek, .int .i64 en, sv es, .slice nA nl nc, .slice qA ql qc, .slice oA ol oc])
   have hG2 := hG.below hbx (Nat.le_refl _)
   have hcl := hid (hfm.out m t ht _ _ _ _ _ _ _ _ _ (rdN_go hrd hG2.2) hG2.2)
   have hst := hid (show (tL (L.take (m + 1))).map sv = (tL (L.take m)).map sv ++ [sv (tSt t)] by
    rw [List.take_add_one, ht]; simp [tL])
   have hq : ((tL (L.take m)).map sv).length < 1000000000000 := by have := List.length_take_le m L; rw [List.length_map, tL_len]; omega
   obtain ⟨k0, k1, k2, k3, k4, k5, k6, k7⟩ := eight hBx.out
   replace hG2 := hid hG2
   generalize tSt t = x at *
   clear hG hld hrd hbx
   go_wp2_with fail
   generalize (wr.alloc (.cells #[.int .i64 nk, sv ns, .int .i64 ek, .int .i64 en, sv es, .slice nA nl nc, .slice qA ql qc, .slice oA ol oc] 60)) = w1 at *
   refine hcl.out.mono ?_
   rintro e2 w2 ⟨rfl, hb2⟩
   have hG3 := hid (hG2.out.below hb2 (Nat.le_refl _))
   clear hb2 hcl k0 k1 k2 k3 k4 k5 k6 k7 p0 p1 p2 p3 p4 p5 p6 p7 hG2
   go_wp2_with (at_builtin; refine hG3.out.append strT (sv x) rfl hq rfl _ _ rfl rfl rfl ?_; intro v5 w5 hG5 _ _; replace hG5 := hid hG5)
   exact ⟨⟨m + 1, hlt, by go_num, by rw [hst.out]; exact hG5.out⟩, by simp [Go.RowKit.intOf]; omega⟩
  ·obtain rfl : m = n := by omega
   have hfin := hid (show tL (L.take m) = tL L by rw [List.take_of_length_le (by rw [hn.out]; exact Nat.le_refl _)])
   replace hG := hid hG
   go_wp2_with fail
   go_ret
   exact ⟨_, rfl, by rw [← hfin.out]; exact hG.out⟩
end Go.Proofs.YtiogceepjffmkaaGreatDoor.Gp
set_option maxRecDepth 100000
namespace Go.Proofs.YtiogceepjffmkaaGreatDoor.Gd
open Go.RowKit Go.Lib Go.Sort Com Mem YtiogceepjffmkaaGreatDoor.Os Tr
section
variable {a b d w w' : World} {R R' : Nat → Prop}
theorem OwnD.sl_inv {A : Option Addr} {l c n : Nat} {L : List (List D)} {cs : List Value} {ds : List D} (h : OwnD w R (.slice A l c :: cs) (.sl n L :: ds)) : l = L.length ∧ L.length ≤ c ∧ c ≤ maxLen ∧ (A = none → c = 0) ∧
  ∃ (R2 : Nat → Prop) (rows : Nat → List Value) (Rs : Nat → Nat → Prop), (∀ ad, A = some ad → ∃ g cs0, ad = ⟨g, 0, none⟩ ∧ R g ∧ ¬ R2 g ∧ Blk w g (tyI n) cs0 ∧ RowsN (wd n) cs0 L.length rows ∧ ∀ j, j < L.length → ¬ Rs j g) ∧
   (∀ j e, L[j]? = some e → OwnD w (Rs j) (rows j) e) ∧ (∀ j g, j < L.length → Rs j g → R g ∧ ¬ R2 g) ∧ (∀ i j g, i < j → j < L.length → Rs i g → ¬ Rs j g) ∧ (∀ g, R2 g → R g) ∧ OwnD w R2 cs ds := by
 cases h with
 | sl rows Rs hl hc h0 hA hk hR' hd' h2' r => exact ⟨rfl, hl, hc, h0, _, rows, Rs, hA, hk, hR', hd', h2', r⟩
theorem OwnD.sl_split {A : Option Addr} {l c n : Nat} {L : List (List D)} {cs : List Value} {ds : List D} (h : OwnD w R (.slice A l c :: cs) (.sl n L :: ds)) :
  ∃ R1 R2 : Nat → Prop, OwnD w R1 [.slice A l c] [.sl n L] ∧ OwnD w R2 cs ds ∧ (∀ g, R1 g → R g ∧ ¬ R2 g) ∧ ∀ g, R2 g → R g := by
 obtain ⟨rfl, hl, hc, h0, R2, rows, Rs, hA, hk, hR', hd', h2', r⟩ := h.sl_inv
 refine ⟨fun g => R g ∧ ¬ R2 g, R2, .sl (R2 := fun _ => False) rows Rs hl hc h0 (fun ad e => ?_) hk (fun j g hj hg => ⟨hR' j g hj hg, fun h => h⟩) hd' (fun g h => h.elim) .nil, r, fun g h => h, h2'⟩
 obtain ⟨g, cs0, e1, h3, h4, h5, h6, h7⟩ := hA ad e
 exact ⟨g, cs0, e1, ⟨h3, h4⟩, fun h => h, h5, h6, h7⟩
theorem own_st_inv {cs : List Value} {k : Int} {s : List UInt8} {e : T} {bs es : List St} (h : OwnD w R cs (St.mk k s e bs es).d) :
  ∃ ek en en' A l c Bb cb C cc lo hi, ∃ R2 R3 : Nat → Prop, cs = sc k s ek en en' A l c Bb bs.length cb C es.length cc ∧ s.length ≤ maxI ∧ OwnX lo hi w (nv ek en en' A l c) e ∧ OwnD w R2 [.slice Bb bs.length cb] [.sl 1 (dl bs)] ∧ OwnD w R3 [.slice C es.length cc] [.sl 1 (dl es)] ∧
   (∀ g, Iv lo hi g → R g ∧ ¬ R2 g ∧ ¬ R3 g) ∧ (∀ g, R2 g → R g ∧ ¬ R3 g) ∧ ∀ g, R3 g → R g := by
 rw [St.d_mk] at h
 obtain ⟨ek, en, en', A, l, c, Bb, cb, C, cc, e8⟩ := own_st8 h
 subst e8
 cases h with
 | i h =>
  generalize hs' : sv s = vs at h
  cases h with
  | s hs h =>
   cases h with
   | x hx h1 h2 h =>
    obtain ⟨R1, R2, o1, h, d1, d2⟩ := h.sl_split
    obtain ⟨R3, R4, o2, h, d3, d4⟩ := h.sl_split
    refine ⟨ek, en, en', A, l, c, Bb, cb, C, cc, _, _, R1, R3, ?_, hs, hx, ?_, ?_, fun g hg => ⟨(h1 g hg).1, fun h => (h1 g hg).2 (d1 g h).1, fun h => (h1 g hg).2 (d2 g (d3 g h).1)⟩, fun g hg => ⟨h2 g (d1 g hg).1, fun h => (d1 g hg).2 (d3 g h).1⟩, fun g hg => h2 g (d2 g (d3 g hg).1)⟩
    ·simp [dl, sc]
    ·simpa [dl] using o1
    ·simpa [dl] using o2
theorem own_st_mk {k ek en : Int} {s en' : List UInt8} {A Bb C : Option Addr} {l c lb cb lc cc lo hi : Nat} {R2 R3 : Nat → Prop} {e : T} {bs es : List St} (hs : s.length ≤ maxI) (h1 : OwnX lo hi w (nv ek en en' A l c) e) (h2 : OwnD w R2 [.slice Bb lb cb] [.sl 1 (dl bs)]) (h3 : OwnD w R3 [.slice C lc cc] [.sl 1 (dl es)])
  (d1 : ∀ g, Iv lo hi g → R g ∧ ¬ R2 g ∧ ¬ R3 g) (d2 : ∀ g, R2 g → R g ∧ ¬ R3 g) (d3 : ∀ g, R3 g → R g) : OwnD w R (sc k s ek en en' A l c Bb lb cb C lc cc) (St.mk k s e bs es).d := by
 rw [St.d_mk]
 exact .i (.s hs (.x (R2 := fun g => R2 g ∨ R3 g) h1 (fun g hg => ⟨(d1 g hg).1, fun h => h.elim (d1 g hg).2.1 (d1 g hg).2.2⟩) (fun g hg => hg.elim (fun h => (d2 g h).1) (d3 g))
  (OwnD.app_sl (R1 := R2) (R2 := R3) h2 (OwnD.app_sl (R1 := R3) (R2 := fun _ => False) h3 .nil (fun g hg => ⟨hg, fun h => h⟩) (fun g hg => hg.elim)) (fun g hg => ⟨.inl hg, (d2 g hg).2⟩) (fun g hg => .inr hg))))
end
end Go.Proofs.YtiogceepjffmkaaGreatDoor.Gd
