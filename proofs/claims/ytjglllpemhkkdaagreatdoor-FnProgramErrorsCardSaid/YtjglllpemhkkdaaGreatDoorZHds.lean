/- Two nodes compared, without what is below them; two lists of nodes compared so. -/
import Derived.Test.YtjglllpemhkkdaaGreatDoorZSt4
import Derived.Test.YtjglllpemhkkdaaGreatDoorZKs
import Derived.Test.YtjglllpemhkkdaaGreatDoorZNix
set_option maxRecDepth 100000
namespace Go.Proofs.YtjglllpemhkkdaaGreatDoor.Gs
open Go.RowKit Go.Lib Go.Sort Com Mem Tr Im Ag Pl Kd

def ROk : Gd.St → Prop
  | .mk _ _ e _ _ => cntT e ≤ 4000000
abbrev rootF : Value := .func (Fn.func 67) #[] #[]
set_option maxHeartbeats 8000000 in
theorem roots_any (k : Int) (s : List UInt8) (ek en : Int) (es : List UInt8) (A : Option Addr) (l c : Nat) (B : Option Addr) (lb cb : Nat) (C : Option Addr) (lc cc : Nat) (k' : Int) (s' : List UInt8) (ek' en' : Int) (es' : List UInt8) (A' : Option Addr) (l' c' : Nat) (B' : Option Addr) (lb' cb' : Nat) (C' : Option Addr) (lc' cc' : Nat) (t t' : T) (w : World) (h : Ex (pln w) w.heap.size (nv ek en es A l c) t) (h' : Ex (pln w) w.heap.size (nv ek' en' es' A' l' c') t') (hbd : cntT t ≤ 4000000) :
    Calls Tryz.prog 67 #[.agg #[.int .i64 k, sv s, .int .i64 ek, .int .i64 en, sv es, .slice A l c, .slice B lb cb, .slice C lc cc], .agg #[.int .i64 k', sv s', .int .i64 ek', .int .i64 en', sv es', .slice A' l' c', .slice B' lb' cb', .slice C' lc' cc']] w
      fun e w' => e = .returned (.bool ((k == k') && ((s == s') && eqT t t'))) ∧ Below w.heap.size w w' := by
  have hb := (box_below w (.cells #[.int .i64 k, sv s, .int .i64 ek, .int .i64 en, sv es, .slice A l c, .slice B lb cb, .slice C lc cc] 87)).trans ((box_below _ (.cells #[.int .i64 k', sv s', .int .i64 ek', .int .i64 en', sv es', .slice A' l' c', .slice B' lb' cb', .slice C' lc' cc'] 87)).mono (by rw [size_alloc']; omega))
  obtain ⟨R, hR⟩ : ∃ R, R = ((k == k') && ((s == s') && eqT t t')) := ⟨_, rfl⟩
  rw [← hR]
  have hf := hid hR
  clear hR
  have hcall := hid (fun (W : World) (hW : Below w.heap.size w W) => iequalE t t' _ _ W ((h.blw (pln_below hW)).more hW.size) ((h'.blw (pln_below hW)).more hW.size) hbd)
  have hb := hid hb
  clear h h' hbd
  cases t1 : (k == k')
  · rw [t1] at hf
    clear hcall
    go_enter Tryz.func67, Tryz.ntmps67
    go_wp2_with fail
    go_ret
    exact ⟨by rw [hf.out]; rfl, hb.out⟩
  · cases t2 : (s == s')
    · rw [t1, t2] at hf
      clear hcall
      go_enter Tryz.func67, Tryz.ntmps67
      go_wp2_with fail
      go_ret
      exact ⟨by rw [hf.out]; rfl, hb.out⟩
    · rw [t1, t2] at hf
      go_enter Tryz.func67, Tryz.ntmps67
      go_wp2_with fail
      refine (hcall.out _ hb.out).mono ?_
      rintro e w2 ⟨rfl, hb2⟩
      have hb3 := hid (hb.out.trans (hb2.mono hb.out.size))
      clear hb2
      go_wp2_with fail
      go_ret
      exact ⟨by rw [hf.out]; simp, hb3.out⟩
theorem root_any {w : World} {nk : Int} {ns : List UInt8} {ek en : Int} {es : List UInt8} {nA : Option Addr} {nl nc : Nat} {qA : Option Addr} {ql qc : Nat} {oA : Option Addr} {ol oc : Nat} {nk' : Int} {ns' : List UInt8} {ek' en' : Int} {es' : List UInt8} {nA' : Option Addr} {nl' nc' : Nat} {qA' : Option Addr} {ql' qc' : Nat} {oA' : Option Addr} {ol' oc' : Nat} {t t' : Gd.St}
    (h : RdN (pln w) w.heap.size [.int .i64 nk, sv ns, .int .i64 ek, .int .i64 en, sv es, .slice nA nl nc, .slice qA ql qc, .slice oA ol oc] t) (h' : RdN (pln w) w.heap.size [.int .i64 nk', sv ns', .int .i64 ek', .int .i64 en', sv es', .slice nA' nl' nc', .slice qA' ql' qc', .slice oA' ol' oc'] t') (hk : ROk t) (W : World) (hW : Below w.heap.size w W) :
    Calls Tryz.prog 67 #[.agg #[.int .i64 nk, sv ns, .int .i64 ek, .int .i64 en, sv es, .slice nA nl nc, .slice qA ql qc, .slice oA ol oc], .agg #[.int .i64 nk', sv ns', .int .i64 ek', .int .i64 en', sv es', .slice nA' nl' nc', .slice qA' ql' qc', .slice oA' ol' oc']] W fun e w' => e = .returned (.bool (kqS.root t t')) ∧ Below W.heap.size W w' := by
  obtain ⟨k, s, e, bs, ss⟩ := t
  obtain ⟨k', s', e', bs', ss'⟩ := t'
  unfold RdN at h h'
  rw [Gd.St.d_mk] at h h'
  obtain ⟨_, _, _, _, _, _, _, _, _, _, _, _, q, _, hx, _⟩ := Gd.st_inv h
  obtain ⟨_, _, _, _, _, _, _, _, _, _, _, _, q', _, hx', _⟩ := Gd.st_inv h'
  unfold Gd.sc at q q'
  injection q with a0 q; injection q with a1 q; injection q with a2 q; injection q with a3 q; injection q with a4 q; injection q with a5 q
  injection q' with b0 q'; injection q' with b1 q'; injection q' with b2 q'; injection q' with b3 q'; injection q' with b4 q'; injection q' with b5 q'
  injection a0 with _ a0; injection a2 with _ a2; injection a3 with _ a3
  injection b0 with _ b0; injection b2 with _ b2; injection b3 with _ b3
  have a1 := sv_inj a1
  have b1 := sv_inj b1
  have a4 := sv_inj a4
  have b4 := sv_inj b4
  injection a5 with a5 a6 a7; injection b5 with b5 b6 b7
  subst a0; subst a1; subst a2; subst a3; subst a4; subst a5; subst a6; subst a7
  subst b0; subst b1; subst b2; subst b3; subst b4; subst b5; subst b6; subst b7
  exact roots_any _ _ _ _ _ _ _ _ _ _ _ _ _ _ _ _ _ _ _ _ _ _ _ _ _ _ _ _ e e' W ((hx.blw (pln_below hW)).more hW.size) ((hx'.blw (pln_below hW)).more hW.size) hk
set_option maxHeartbeats 8000000 in
theorem eqfunc_any (l r : LN Gd.St) (w : World) (hl : LA (pln w) w.heap.size l) (hr : LA (pln w) w.heap.size r) (hok : ∀ t ∈ l.ks, ROk t) :
    Calls Tryz.prog 116 #[slv l, slv r, rootF] w fun e w' => e = .returned (.bool (eqLs kqS.root l.ks r.ks)) ∧ Below w.heap.size w w' := by
  obtain ⟨lA, nL, lc, hlA, hnL, hsl⟩ : ∃ A n c, l.A = A ∧ l.ks.length = n ∧ slv l = .slice A n c := ⟨_, _, _, rfl, rfl, rfl⟩
  obtain ⟨rA, nR, rc, hrA, hnR, hsr⟩ : ∃ A n c, r.A = A ∧ r.ks.length = n ∧ slv r = .slice A n c := ⟨_, _, _, rfl, rfl, rfl⟩
  have hlb : nL ≤ 9223372036854775807 := by obtain ⟨_, h⟩ := hl; have := h.len; omega
  rw [hsl, hsr]
  obtain ⟨R, hR⟩ : ∃ R, R = eqLs kqS.root l.ks r.ks := ⟨_, rfl⟩
  rw [← hR]
  replace hl := hid hl
  replace hr := hid hr
  replace hlA := hid hlA
  replace hrA := hid hrA
  replace hok := hid hok
  clear hsl hsr
  by_cases hn : nL = nR
  · subst hn
    have t0 : ((nL : Int) != (nL : Int)) = false := by simp
    have hyes : (∀ (i : Nat) (a b : Gd.St), l.ks[i]? = some a → r.ks[i]? = some b → kqS.root a b = true) → R = true := fun h => by rw [hR]; exact eqLs_iff.2 ⟨by rw [hnL, hnR], h⟩
    have hno : ∀ (i : Nat) (a b : Gd.St), l.ks[i]? = some a → r.ks[i]? = some b → kqS.root a b = false → R = false := fun i a b ha hb hc => by
      rw [hR]
      cases hq : eqLs kqS.root l.ks r.ks
      · rfl
      · rw [(eqLs_iff.1 hq).2 i a b ha hb] at hc; cases hc
    replace hyes := hid hyes
    replace hno := hid hno
    replace hnL := hid hnL
    replace hnR := hid hnR
    clear hR
    go_enter Tryz.func116, Tryz.ntmps116
    go_wp2_with fail
    go_loopw [17] (fun i wr => ∃ m : Nat, i = .int .i64 (m : Nat) ∧ m ≤ nL ∧ Below w.heap.size w wr ∧ ∀ (j : Nat) (a b : Gd.St), j < m → l.ks[j]? = some a → r.ks[j]? = some b → kqS.root a b = true) (fun i _ => nL - (Go.RowKit.intOf i).toNat)
    case atStart => exact ⟨0, rfl, Nat.zero_le _, Below.refl _ _, fun j a b hj => absurd hj (Nat.not_lt_zero _)⟩
    case round =>
      obtain ⟨m, rfl, hm, hb, hall⟩ := hrel
      replace hall := hid hall
      by_cases hlt : m < nL
      · have q0 : decide ((m : Int) < (nL : Int)) = true := decide_eq_true (by omega)
        have q1 : (m : Int) < (nL : Int) := by omega
        have hml : m < l.ks.length := by rw [hnL.out]; exact hlt
        have hmr : m < r.ks.length := by rw [hnR.out]; exact hlt
        obtain ⟨ta, hta⟩ : ∃ ta, l.ks[m]? = some ta := ⟨_, List.getElem?_eq_getElem hml⟩
        obtain ⟨tb, htb⟩ : ∃ tb, r.ks[m]? = some tb := ⟨_, List.getElem?_eq_getElem hmr⟩
        obtain ⟨ad, nk, ns, ek, en, es, nA, nl, nc, qA, ql, qc, oA, ol, oc, hA1, hld, hrd⟩ := la_node hl.out hb hta
        obtain ⟨ad', nk', ns', ek', en', es', nA', nl', nc', qA', ql', qc', oA', ol', oc', hA2, hld', hrd'⟩ := la_node hr.out hb htb
        obtain rfl : lA = some ad := hlA.out.symm.trans hA1
        obtain rfl : rA = some ad' := hrA.out.symm.trans hA2
        have hroot := hid (root_any hrd hrd' (hok.out ta (List.mem_of_getElem? hta)))
        have hb1 := box_below wr (.cells #[.int .i64 nk, sv ns, .int .i64 ek, .int .i64 en, sv es, .slice nA nl nc, .slice qA ql qc, .slice oA ol oc] 87)
        have hld2 := ldC_go hld' hb1
        obtain ⟨c0, c1, c2, c3, c4, c5, c6, c7⟩ := ldC_at hld
        obtain ⟨d0, d1, d2, d3, d4, d5, d6, d7⟩ := ldC_at hld2
        have s1 := size_alloc' wr (.cells #[.int .i64 nk, sv ns, .int .i64 ek, .int .i64 en, sv es, .slice nA nl nc, .slice qA ql qc, .slice oA ol oc] 87)
        have hB1 := (Blk.new wr 87 [.int .i64 nk, sv ns, .int .i64 ek, .int .i64 en, sv es, .slice nA nl nc, .slice qA ql qc, .slice oA ol oc]).alloc (.cells #[.int .i64 nk', sv ns', .int .i64 ek', .int .i64 en', sv es', .slice nA' nl' nc', .slice qA' ql' qc', .slice oA' ol' oc'] 87)
        have hB2 := Blk.new (wr.alloc (.cells #[.int .i64 nk, sv ns, .int .i64 ek, .int .i64 en, sv es, .slice nA nl nc, .slice qA ql qc, .slice oA ol oc] 87)) 87 [.int .i64 nk', sv ns', .int .i64 ek', .int .i64 en', sv es', .slice nA' nl' nc', .slice qA' ql' qc', .slice oA' ol' oc']
        rw [s1] at hB2
        have hW2 := hid (hb.trans ((hb1.trans ((box_below _ (.cells #[.int .i64 nk', sv ns', .int .i64 ek', .int .i64 en', sv es', .slice nA' nl' nc', .slice qA' ql' qc', .slice oA' ol' oc'] 87)).mono hb1.size)).mono hb.size))
        have p0 := hB1.cell 0
        have p1 := hB1.cell 1
        have p2 := hB1.cell 2
        have p3 := hB1.cell 3
        have r0 := hB2.cell 0
        have r1 := hB2.cell 1
        have r2 := hB2.cell 2
        have r3 := hB2.cell 3
        have p4 := hB1.cell 4
        have p5 := hB1.cell 5
        have p6 := hB1.cell 6
        have p7 := hB1.cell 7
        have r4 := hB2.cell 4
        have r5 := hB2.cell 5
        have r6 := hB2.cell 6
        have r7 := hB2.cell 7
        have hnext := hid (fun (hq : kqS.root ta tb = true) (j : Nat) (a b : Gd.St) (hj : j < m + 1) (ha : l.ks[j]? = some a) (hb : r.ks[j]? = some b) => show kqS.root a b = true by
          by_cases e : j = m
          · subst e
            rw [hta] at ha; rw [htb] at hb
            cases ha; cases hb; exact hq
          · exact hall.out j a b (by omega) ha hb)
        have hstop := hid (hno.out m ta tb hta htb)
        clear hb hb1 hld hld' hld2 hB1 hB2 hrd hrd' s1 hta htb hml hmr hA1 hA2
        cases hq : kqS.root ta tb with
        | true =>
          have hn2 := hid (hnext.out hq)
          rw [hq] at hroot
          clear hq hnext hstop
          go_wp2_with fail
          refine (hroot.out _ hW2.out).mono ?_
          rintro e w2 ⟨rfl, hb2⟩
          have hb3 := hid (hW2.out.trans (hb2.mono hW2.out.size))
          clear hb2
          go_wp2_with fail
          exact ⟨⟨m + 1, by go_num, by omega, hb3.out, hn2.out⟩, by simp [Go.RowKit.intOf]; omega⟩
        | false =>
          have hf := hid (hstop.out hq)
          rw [hq] at hroot
          clear hq hnext hstop
          go_wp2_with fail
          refine (hroot.out _ hW2.out).mono ?_
          rintro e w2 ⟨rfl, hb2⟩
          have hb3 := hid (hW2.out.trans (hb2.mono hW2.out.size))
          clear hb2
          go_wp2_with fail
          go_ret
          exact ⟨by rw [hf.out]; rfl, hb3.out⟩
      · obtain rfl : m = nL := by omega
        have q0 : decide ((m : Int) < (m : Int)) = false := decide_eq_false (by omega)
        have hf := hid (hyes.out fun i a b ha hb => hall.out i a b (by
          rcases Nat.lt_or_ge i m with h | h
          · exact h
          · rw [List.getElem?_eq_none (by rw [hnL.out]; exact h)] at ha; cases ha) ha hb)
        have hb := hid hb
        go_wp2_with fail
        go_ret
        exact ⟨by rw [hf.out]; rfl, hb.out⟩
  · have t0 : ((nL : Int) != (nR : Int)) = true := by
      have : ((nL : Int) == (nR : Int)) = false := beq_false_of_ne (by omega)
      unfold bne; rw [this]; rfl
    have hf : R = false := by
      rw [hR]
      cases hq : eqLs kqS.root l.ks r.ks
      · rfl
      · exact absurd ((hnL.symm.trans (eqLs_iff.1 hq).1).trans hnR) hn
    replace hf := hid hf
    clear hR
    go_enter Tryz.func116, Tryz.ntmps116
    go_wp2_with fail
    go_ret
    exact ⟨by rw [hf.out]; rfl, Below.refl _ _⟩
end Go.Proofs.YtjglllpemhkkdaaGreatDoor.Gs
