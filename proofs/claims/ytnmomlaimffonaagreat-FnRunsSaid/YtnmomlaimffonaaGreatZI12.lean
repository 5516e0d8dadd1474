/- The program's executions: statements. -/
import Derived.Test.YtnmomlaimffonaaGreatZI11
import Derived.Test.YtnmomlaimffonaaGreatZM12
set_option maxHeartbeats 8000000
set_option maxRecDepth 100000
namespace Go.Proofs.YtnmomlaimffonaaGreat.Rn
open Go.RowKit Go.Lib Go.Sort Com Mem YtnmomlaimffonaaGreat.Os Ow Tr Gd C2
section
variable (V : List (List UInt8)) (AV : Option Addr) (cV f base g lo hi : Nat)
def ISt (n : Nat) : Prop := ∀ (t : St) (z : Ex1) (cs : List Value) (vS vO : Value) (w : World), okSt V t = true → z.st = 0 → z.co ≤ f → f - z.co ≤ n → z.sg.length = V.length → z.ou.length ≤ z.co → XAt (layI (.slice AV V.length cV) f) RI w g lo hi z vS vO → Rd8 w base cs t.d → Rd w base AV (V.map sv) →
  Calls Tryz.prog 62 #[.pointer (some ⟨g, 0, none⟩), .agg cs.toArray] w fun x w' => x = .returned (.bool (goB (runZ V f [t] z))) ∧ XTo (layI (.slice AV V.length cV) f) RI base g lo hi vS w (runZ V f [t] z) w'
def ISts (n : Nat) : Prop := ∀ (L : List St) (z : Ex1) (A : Option Addr) (c : Nat) (rows : Nat → List Value) (vS vO : Value) (w : World), okSts V L = true → L.length ≤ maxI → z.st = 0 → z.co ≤ f → f - z.co ≤ n → z.sg.length = V.length → z.ou.length ≤ z.co → XAt (layI (.slice AV V.length cV) f) RI w g lo hi z vS vO → Row w base 1 A (dl L) rows → Rd w base AV (V.map sv) →
  Calls Tryz.prog 33 #[.pointer (some ⟨g, 0, none⟩), .slice A L.length c] w fun x w' => x = .returned (.bool (goB (runZ V f L z))) ∧ XTo (layI (.slice AV V.length cV) f) RI base g lo hi vS w (runZ V f L z) w'
end
theorem goB_t {z : Ex1} (h : goB z = true) : z.st = 0 := of_decide_eq_true h
theorem goB_f {z : Ex1} (h : goB z = false) : z.st ≠ 0 := of_decide_eq_false h
theorem goB_0 {z : Ex1} (h : z.st = 0) : goB z = true := decide_eq_true h
theorem iStmts {V : List (List UInt8)} {AV : Option Addr} {cV f base g lo hi n : Nat} (hbg : base ≤ g) (hS : ISt V AV cV f base g lo hi n) : ISts V AV cV f base g lo hi n := by
  intro L z A c rows vS vO w hok hl hz hco hn hsl hou hX hrow hV
  have hl' : L.length ≤ 9223372036854775807 := hl
  have h0 := hid (show runZ V f (L.take 0) z = z by rw [List.take_zero, runZ_nil])
  have hS := hid hS
  replace hz := hid hz
  go_enter Tryz.func33, Tryz.ntmps33
  go_wp2_with fail
  go_loopw [9] (fun i wr => ∃ (m : Nat) (vO' : Value), m ≤ L.length ∧ i = .int .i64 m ∧ Hid ((runZ V f (L.take m) z).st = 0) ∧ XAt (layI (.slice AV V.length cV) f) RI wr g lo hi (runZ V f (L.take m) z) vS vO' ∧ Below base w wr ∧ Keep g w wr) (fun i _ => L.length - (Go.RowKit.intOf i).toNat)
  case atStart => exact ⟨0, vO, Nat.zero_le _, rfl, hid (by rw [h0.out]; exact hz.out), by rw [h0.out]; exact hX, Below.refl _ _, Keep.refl _ _⟩
  case round =>
    obtain ⟨m, vO', hm, rfl, hst, hXm, hb, hkp⟩ := hrel
    have hkp := hid hkp
    obtain ⟨hc1, hc2⟩ := runZ_co (V := V) (L := L.take m) hco
    by_cases hlt : m < L.length
    · have t0 : decide ((m : Int) < (L.length : Int)) = true := decide_eq_true (by omega)
      have t1 : (m : Int) < (L.length : Int) := by omega
      have hnx := hid (runZ_next (V := V) (f := f) hlt z)
      have hr := row_blw hrow hb
      obtain ⟨_, ad, rfl, hadb, hld⟩ := hr.cell m (by rw [dl_len]; exact hlt)
      have hld : LdN wr (ad.add (m * 8)) (rows m) := hld
      have hkid := hr.kid m L[m].d (by rw [List.getElem?_map, List.getElem?_eq_getElem hlt]; rfl)
      have hou2 := runZ_ou (V := V) (f := f) (L := L.take m) hou
      have hcl := fun w2 (hb2 : Below base wr w2) (hX2 : XAt (layI (.slice AV V.length cV) f) RI w2 g lo hi (runZ V f (L.take m) z) vS vO') => hS.out L[m] (runZ V f (L.take m) z) (rows m) vS vO' w2 (okSts_at hok hlt) hst.out hc2 (by omega) (by rw [runZ_len]; exact hsl) hou2 hX2 (hkid.blw hb2) ((hV.below hb).below hb2)
      rw [← hnx.out] at hcl
      have htk := hid (fun h : (runZ V f (L.take (m + 1)) z).st ≠ 0 => runZ_take (V := V) (f := f) (L := L) (m := m + 1) (z := z) h)
      have hgl := hXm.lt
      generalize L[m] = u at *
      obtain ⟨k, s, e, bs, es⟩ := u
      rw [St.d_mk] at hkid
      obtain ⟨ek, en, en', A1, l1, c1, Bb, cb, C1, cc, rb, rc, e8, -, -, -, -, -, -⟩ := st_inv hkid
      rw [e8, dl_len, dl_len] at hcl hld
      obtain ⟨k0, k1, k2, k3, k4, k5, k6, k7⟩ := ld8 hld
      have hbA := box_below wr (.cells (sc k s ek en en' A1 l1 c1 Bb bs.length cb C1 es.length cc).toArray 94)
      have hBn := hid (Blk.new wr 94 (sc k s ek en en' A1 l1 c1 Bb bs.length cb C1 es.length cc))
      have hcl := hid (hcl _ (hbA.mono (by omega)) (hXm.below hbA))
      have hb := hid (hb.trans (hbA.mono (by omega)))
      have hkp := hid (hkp.out.trans (Keep.below (g := g) hbA))
      obtain ⟨b0, b1, b2, b3, b4, b5, b6, b7⟩ := eight hBn.out
      generalize hzz : runZ V f (L.take (m + 1)) z = zz at *
      clear hr hld hkid e8 hbA hXm
      cases hgo : goB zz with
      | true =>
        rw [hgo] at hcl
        have hz0 := hid (goB_t hgo)
        clear hgo htk
        go_wp2_with fail
        refine hcl.out.mono ?_
        rintro x w2 ⟨rfl, ⟨vO2, hX2⟩, hb2, hk2⟩
        have hX2 := hid hX2
        have hk2 := hid (hkp.out.trans hk2)
        have hb2 := hid (hb.out.trans hb2)
        clear hcl k0 k1 k2 k3 k4 k5 k6 k7 b0 b1 b2 b3 b4 b5 b6 b7
        subst hzz
        go_wp2_with fail
        exact ⟨⟨m + 1, vO2, hlt, by go_num, hz0, hX2.out, hb2.out, hk2.out⟩, by simp [Go.RowKit.intOf]; omega⟩
      | false =>
        rw [hgo] at hcl
        have hf := hid (htk.out (goB_f hgo))
        have hgo := hid hgo
        clear htk
        go_wp2_with fail
        refine hcl.out.mono ?_
        rintro x w2 ⟨rfl, ⟨vO2, hX2⟩, hb2, hk2⟩
        have hX2 := hid hX2
        have hk2 := hid (hkp.out.trans hk2)
        have hb2 := hid (hb.out.trans hb2)
        clear hcl k0 k1 k2 k3 k4 k5 k6 k7 b0 b1 b2 b3 b4 b5 b6 b7
        go_wp2_with fail
        go_ret
        exact ⟨by rw [hf.out, hgo.out]; rfl, ⟨vO2, by rw [hf.out]; exact hX2.out⟩, hb2.out, hk2.out⟩
    · obtain rfl : m = L.length := by omega
      have t0 : decide ((L.length : Int) < (L.length : Int)) = false := decide_eq_false (by omega)
      have hf := hid (show runZ V f L z = runZ V f (L.take L.length) z by rw [List.take_length])
      replace hXm := hid hXm
      go_wp2_with fail
      go_ret
      exact ⟨by rw [hf.out, goB_0 hst.out]; rfl, ⟨vO', by rw [hf.out]; exact hXm.out⟩, hb, hkp.out⟩
theorem loopZ_go {V : List (List UInt8)} {f : Nat} {w : St} {bs : List St} {z : Ex1} {v : Int} (h : z.st = 0) (hv : v ≠ 0) : loopZ V f w bs v z = runZ V f [w] (runZ V f bs z) := by
  unfold loopZ
  rw [if_pos h, if_neg hv]
structure MidI (V : List (List UInt8)) (AV : Option Addr) (cV f base g lo hi b : Nat) (cs : List Value) (vS vO : Value) (z : Ex1) (w0 w : World) : Prop where
  box : Blk w b ST cs
  run : XAt (layI (.slice AV V.length cV) f) RI w g lo hi z vS vO
  old : Below base w0 w
  vars : Rd w base AV (V.map sv)
  keep : Keep g w0 w
section
variable {V : List (List UInt8)} {AV : Option Addr} {cV f base g lo hi b : Nat} {cs : List Value} {vS vO : Value} {z : Ex1} {w0 w w' : World}
theorem MidI.to (h : MidI V AV cV f base g lo hi b cs vS vO z w0 w) {z' : Ex1} {vO' : Value} (hx : XAt (layI (.slice AV V.length cV) f) RI w' g lo hi z' vS vO') (hb : Below base w w') (hk : Keep g w w') (hbg : b ≠ g) : MidI V AV cV f base g lo hi b cs vS vO' z' w0 w' :=
  ⟨hk _ _ _ (by decide) hbg h.box, hx, h.old.trans hb, h.vars.below hb, h.keep.trans hk⟩
theorem MidI.fin (h : MidI V AV cV f base g lo hi b cs vS vO z w0 w) {z' : Ex1} (e : z' = z) : XTo (layI (.slice AV V.length cV) f) RI base g lo hi vS w0 z' w := by
  subst e
  exact ⟨⟨vO, h.run⟩, h.old, h.keep⟩
theorem MidI.eval (h : MidI V AV cV f base g lo hi b cs vS vO z w0 w) (hbg : base ≤ g) (hne : b ≠ g) (hz : z.st = 0) (hf : f ≤ 400) {v : Value} {e : T} (hv : Ex w base v e) (hA : Base AV) (hn : V.length ≤ maxI) :
    Calls Tryz.prog 85 #[.pointer (some ⟨g, 0, none⟩), v] w fun x w' => x = .returned (.tuple #[.int .i64 (evZ V f e z).2, .bool (goB (evZ V f e z).1)]) ∧ MidI V AV cV f base g lo hi b cs vS vO (evZ V f e z).1 w0 w' :=
  (iEval V AV cV f base g lo hi z e v vS vO w h.run hz hf hbg hv h.vars hA hn).mono fun x w' ⟨h1, h2, h3⟩ =>
    ⟨h1, h.to h2 (bgb (Below.refl base w) h3 (by have := h.run.lt; omega) hbg) (Keep.gb h3) hne⟩
end
theorem iStmt {V : List (List UInt8)} {AV : Option Addr} {cV f base g lo hi n : Nat} (hbg : base ≤ g) (hbl : base ≤ lo) (hbh : base ≤ hi) (hf : f ≤ 400) (hnv : V.length ≤ maxI) (hA : Base AV) (ih1 : ∀ m, m < n → ISt V AV cV f base g lo hi m) : ISt V AV cV f base g lo hi n := by
  have ih : ∀ m, m < n → ISts V AV cV f base g lo hi m := fun m hm => iStmts hbg (ih1 m hm)
  intro t z cs vS vO w hok hz hco hfn hsl hou hX hr hV
  have hok0 := hid hok
  obtain ⟨k, s, e, bs, es⟩ := t
  rw [okSt, Bool.and_eq_true, Bool.and_eq_true, Bool.and_eq_true] at hok
  obtain ⟨hoe, hobs, hoes, hkind⟩ := hok
  have hr0 := hid (fun w' (h : Below base w w') => hr.blw h)
  rw [St.d_mk] at hr
  obtain ⟨ek, en, en', A1, l1, c1, Bb, cb, C1, cc, rb, rc, rfl, hsl2, hx, hrb, hlb, hrc, hlc⟩ := st_inv hr
  rw [dl_len] at hlb hlc
  rw [dl_len, dl_len] at hr0 ⊢
  have hgl := hX.lt
  have hW : Below w.heap.size w (w.alloc (.cells (sc k s ek en en' A1 l1 c1 Bb bs.length cb C1 es.length cc).toArray ST)) := box8
  have hbx := Blk.new w ST (sc k s ek en en' A1 l1 c1 Bb bs.length cb C1 es.length cc)
  have hWb := hW.mono (show base ≤ w.heap.size by omega)
  have hne : w.heap.size ≠ g := by omega
  have hM1 : MidI V AV cV f base g lo hi w.heap.size (sc k s ek en en' A1 l1 c1 Bb bs.length cb C1 es.length cc) vS vO z w _ := ⟨hbx, hX.below hW, hWb, hV.below hWb, Keep.below hW⟩
  have hcl := hM1.eval hbg hne hz hf (hx.blw hWb) hA hnv
  have hoff := fun (h : (evZ V f e z).1.st ≠ 0) => evZ_off (V := V) h (k := k) (s := s) (bs := bs) (es := es) hz
  have hon := fun (h : (evZ V f e z).1.st = 0) => evZ_on (V := V) h
  have hlen : (evZ V f e z).1.sg.length = V.length := by rw [evZ_len]; exact hsl
  have hous := evZ_ou (V := V) (f := f) (e := e) hou
  have hcos := (evZ_co (V := V) (e := e) hco).2
  have hasg := fun h : (evZ V f e z).1.st = 0 => runZ_asg (s := s) (bs := bs) (es := es) hz h
  have hemi := fun h : (evZ V f e z).1.st = 0 => runZ_emit (s := s) (bs := bs) (es := es) hz h
  have hif := fun h : (evZ V f e z).1.st = 0 => runZ_if (s := s) (bs := bs) (es := es) hz h
  have hwh := runZ_while (V := V) (f := f) (s := s) (e := e) (bs := bs) (es := es) hz
  obtain ⟨k0, k1, k2, k3, k4, k5, k6, k7⟩ := eight hbx
  have hrb' := hid (fun w' (h : Below base w w') => row_blw hrb h)
  have hrc' := hid (fun w' (h : Below base w w') => row_blw hrc h)
  replace hcl := hid hcl
  clear hX hr hV hW hbx hWb hx hrb hrc hoe hM1
  generalize hEq : evZ V f e z = Z at *
  obtain ⟨y, vv⟩ := Z
  dsimp only at hcl hoff hon hlen hous hcos hasg hemi hif hwh
  by_cases hst : y.st = 0
  case neg =>
    have hf1 := hid (hoff hst)
    have hgo : goB y = false := decide_eq_false hst
    rw [hgo] at hcl
    replace hgo := hid hgo
    clear hoff hon hasg hemi hif hwh hEq ih ih1 hst hr0
    go_enter Tryz.func62, Tryz.ntmps62
    go_wp2_with fail
    refine hcl.out.mono ?_
    rintro x w2 ⟨rfl, hM⟩
    have hM := hid hM
    clear hcl k0 k1 k2 k3 k4 k5 k6 k7
    go_wp2_with fail
    go_ret
    exact ⟨by rw [hf1.out, hgo.out]; rfl, hM.out.fin hf1.out⟩
  have hgo : goB y = true := decide_eq_true hst
  rw [hgo] at hcl
  clear hgo
  obtain ⟨hy, hvv, hzf⟩ := hon hst
  replace hvv := hid hvv
  replace hEq := hid hEq
  subst hy
  dsimp only at hst hcl hlen hous hcos hasg hemi hif hwh
  replace hsl := hid hsl
  replace hlen := hid hlen
  clear hoff hon
  rcases kind_cases hkind with ⟨rfl, hix⟩ | rfl | rfl | rfl
  · have hf1 := hasg hst
    obtain ⟨i, hi⟩ : ∃ i : Nat, ixOf V s = i := ⟨(ixOf V s).toNat, by omega⟩
    have hil : i < V.length := by have := (ixOf_bd V s).2; omega
    rw [hi, Int.toNat_natCast] at hf1
    replace hf1 := hid hf1
    have hI := fun W (hW : Rd W base AV (V.map sv)) => L2a.index_any AV cV base V s W hW hA hnv
    rw [hi] at hI
    replace hI := hid hI
    clear hasg hemi hif hwh ih ih1 hkind hix hi hr0
    go_enter Tryz.func62, Tryz.ntmps62
    go_wp2_with fail
    refine hcl.out.mono ?_
    rintro x w2 ⟨rfl, hM⟩
    clear k0 k1 k2 k3 k4 k5 k6 k7
    obtain ⟨p0, p1, p2, p3, p4, p5⟩ := six hM.run.blk
    obtain ⟨k0, k1, k2, k3, k4, k5, k6, k7⟩ := eight hM.box
    have hM := hid hM
    clear hcl
    obtain ⟨b, c, rfl, q1, q2, q3, q4, ⟨cs, q6⟩, q5⟩ := hM.out.run.set (i := i) (by rw [hlen.out]; exact hil) vv
    have hbd := hid (show Below w2.heap.size w2 w2.drew from (Below.refl _ _).drew)
    have hbs := (Below.refl base w2).setCell (p := ⟨b, i, none⟩) (show base ≤ b by omega) (.int .i64 vv)
    have hM5 := hid (hM.out.to q5 hbs (Keep.set q6 _) hne)
    have hz5 : base ≤ (w2.setCell ⟨b, i, none⟩ (.int .i64 vv)).heap.size := Nat.le_trans hbg (Nat.le_of_lt hM5.out.run.lt)
    have hbd5 := hid (show Below (w2.setCell ⟨b, i, none⟩ (.int .i64 vv)).heap.size _ (w2.setCell ⟨b, i, none⟩ (.int .i64 vv)).drew from (Below.refl _ _).drew)
    have hfin := hid (hM5.out.to (hM5.out.run.below hbd5.out) (hbd5.out.mono hz5) (Keep.below hbd5.out) hne)
    clear q5 q6 hbs hM5 hbd5 hz5
    have hil2 : i < z.sg.length := by rw [hlen.out]; exact hil
    go_wp2_with fail
    go_region_with (first | (go_at_call 86; refine (hI.out _ (hM.out.vars.below (hbd.out.mono (by have := hM.out.run.lt; omega)))).mono ?_; rintro x w3 ⟨rfl, rfl⟩))
    all_goals
      clear p0 p1 p2 p3 p4 p5 k0 k1 k2 k3 k4 k5 k6 k7 q3 q4 hM hbd hI
      go_wp2_with fail
      go_ret
      exact ⟨by rw [hf1.out]; rfl, hfin.out.fin hf1.out⟩
  · have hf1 := hid (hemi hst)
    have hyo : z.ou.length ≤ 400 := by omega
    clear hasg hemi hif hwh ih ih1 hkind hr0
    go_enter Tryz.func62, Tryz.ntmps62
    go_wp2_with fail
    refine hcl.out.mono ?_
    rintro x w2 ⟨rfl, hM⟩
    clear k0 k1 k2 k3 k4 k5 k6 k7
    obtain ⟨p0, p1, p2, p3, p4, p5⟩ := six hM.run.blk
    obtain ⟨k0, k1, k2, k3, k4, k5, k6, k7⟩ := eight hM.box
    have hM := hid hM
    have hO := hid (show w2.ownsRow hi 3 1 vO (z.ou.map iv).length (z.ou.map iv) by rw [List.length_map]; exact hM.out.run.ou)
    have htop := hM.out.run.top
    have hw2 : base ≤ w2.heap.size := Nat.le_trans hbg (Nat.le_of_lt hM.out.run.lt)
    have holen : (z.ou.map iv).length < 1000000000000 := by rw [List.length_map]; omega
    clear hcl
    go_wp2_with (at_builtin; go_loud (refine own_append intR hO.out htop (iv vv) rfl holen rfl _ _ rfl rfl rfl ?_; intro v' w3 ho hg hne'; obtain ⟨A9, n9, c9, rfl⟩ := own_form ho; obtain ⟨a1, a2, a3⟩ := hM.out.run.app vv ho hg 2 rfl; replace a1 : w3.cell? ⟨g, 2, none⟩ = some vO := a1; have hk3 := hid (hM.out.to a3 (((Below.refl base w2).grown hg hw2 (fun k hk => by have := (own_ge hM.out.run.ou hk).1; omega)).setCell (p := ⟨g, 2, none⟩) hbg _) ((Keep.own hM.out.run.ou hg).trans (fun k ty cs' _ hkg hB => hB.far (p := ⟨g, 2, none⟩) hkg _)) hne); clear a3 ho hg hne' hO p0 p1 p2 p3 p4 p5 k0 k1 k2 k3 k4 k5 k6 k7))
    go_wp2_with fail
    go_ret
    exact ⟨by rw [hf1.out]; rfl, hk3.out.fin hf1.out⟩
  · have hf1 := hif hst
    clear hasg hemi hif hwh hkind ih1 hr0
    by_cases hv0 : vv = 0
    · rw [if_pos hv0] at hf1
      subst hv0
      have hcI := hid (fun w2 (hM : MidI V AV cV f base g lo hi w.heap.size (sc 2 s ek en en' A1 l1 c1 Bb bs.length cb C1 es.length cc) vS vO ⟨0, z.sg, z.ou, z.co + 1⟩ w w2) => ih (n - 1) (by omega) es ⟨0, z.sg, z.ou, z.co + 1⟩ C1 cc rc vS vO w2 hoes hlc rfl hcos (by dsimp only; omega) hlen.out hous hM.run (hrc'.out _ hM.old) hM.vars)
      rw [← hf1] at hcI
      replace hf1 := hid hf1
      generalize hRR : runZ V f [St.mk 2 s e bs es] z = RR at *
      go_enter Tryz.func62, Tryz.ntmps62
      go_wp2_with fail
      refine hcl.out.mono ?_
      rintro x w2 ⟨rfl, hM⟩
      clear k0 k1 k2 k3 k4 k5 k6 k7
      obtain ⟨k0, k1, k2, k3, k4, k5, k6, k7⟩ := eight hM.box
      have hM := hid hM
      have hc3 := hid (hcI.out _ hM.out)
      clear hcl hcI
      go_wp2_with fail
      refine hc3.out.mono ?_
      rintro x w3 ⟨rfl, hT⟩
      have hT := hid (XTo.trans hM.out.old hM.out.keep hT)
      clear k0 k1 k2 k3 k4 k5 k6 k7 hc3
      go_wp2_with fail
      go_ret
      exact ⟨rfl, hT.out⟩
    · rw [if_neg hv0] at hf1
      have t2 : (vv == 0) = false := beq_false_of_ne hv0
      have hcI := hid (fun w2 (hM : MidI V AV cV f base g lo hi w.heap.size (sc 2 s ek en en' A1 l1 c1 Bb bs.length cb C1 es.length cc) vS vO ⟨0, z.sg, z.ou, z.co + 1⟩ w w2) => ih (n - 1) (by omega) bs ⟨0, z.sg, z.ou, z.co + 1⟩ Bb cb rb vS vO w2 hobs hlb rfl hcos (by dsimp only; omega) hlen.out hous hM.run (hrb'.out _ hM.old) hM.vars)
      rw [← hf1] at hcI
      replace hf1 := hid hf1
      generalize hRR : runZ V f [St.mk 2 s e bs es] z = RR at *
      go_enter Tryz.func62, Tryz.ntmps62
      go_wp2_with fail
      refine hcl.out.mono ?_
      rintro x w2 ⟨rfl, hM⟩
      clear k0 k1 k2 k3 k4 k5 k6 k7
      obtain ⟨k0, k1, k2, k3, k4, k5, k6, k7⟩ := eight hM.box
      have hM := hid hM
      have hc3 := hid (hcI.out _ hM.out)
      clear hcl hcI
      go_wp2_with fail
      refine hc3.out.mono ?_
      rintro x w3 ⟨rfl, hT⟩
      have hT := hid (XTo.trans hM.out.old hM.out.keep hT)
      clear k0 k1 k2 k3 k4 k5 k6 k7 hc3
      go_wp2_with fail
      go_ret
      exact ⟨rfl, hT.out⟩
  · clear hasg hemi hif hkind
    by_cases hv0 : vv = 0
    · subst hv0
      have hf1 := hid (hwh.trans loopZ_end)
      clear ih ih1 hwh hr0
      go_enter Tryz.func62, Tryz.ntmps62
      go_wp2_with fail
      refine hcl.out.mono ?_
      rintro x w2 ⟨rfl, hM⟩
      clear k0 k1 k2 k3 k4 k5 k6 k7
      obtain ⟨k0, k1, k2, k3, k4, k5, k6, k7⟩ := eight hM.box
      have hM := hid hM
      clear hcl
      go_wp2_with fail
      go_ret
      exact ⟨by rw [hf1.out]; rfl, hM.out.fin hf1.out⟩
    · have t2 : (vv == 0) = false := beq_false_of_ne hv0
      have hgo2 := hid (hwh.trans (loopZ_go rfl hv0))
      have hstop := hid (fun h1 => hwh.trans (loopZ_stop (V := V) (f := f) (s := s) (e := e) (bs := bs) (es := es) (z := ⟨0, z.sg, z.ou, z.co + 1⟩) rfl hv0 h1))
      have hcI := hid (fun w2 (hM : MidI V AV cV f base g lo hi w.heap.size (sc 3 s ek en en' A1 l1 c1 Bb bs.length cb C1 es.length cc) vS vO ⟨0, z.sg, z.ou, z.co + 1⟩ w w2) => (ih (n - 1) (by omega) bs ⟨0, z.sg, z.ou, z.co + 1⟩ Bb cb rb vS vO w2 hobs hlb rfl hcos (by dsimp only; omega) hlen.out hous hM.run (hrb'.out _ hM.old) hM.vars).mono
        (R' := fun x w' => x = .returned (.bool (goB (runZ V f bs ⟨0, z.sg, z.ou, z.co + 1⟩))) ∧ ∃ vO2, MidI V AV cV f base g lo hi w.heap.size (sc 3 s ek en en' A1 l1 c1 Bb bs.length cb C1 es.length cc) vS vO2 (runZ V f bs ⟨0, z.sg, z.ou, z.co + 1⟩) w w')
        fun x w' ⟨q1, ⟨vO2, q2⟩, q3, q4⟩ => ⟨q1, vO2, hM.to q2 q3 q4 hne⟩)
      have hco3 := runZ_co (V := V) (L := bs) (z := ⟨0, z.sg, z.ou, z.co + 1⟩) hcos
      have hln3 := hid ((runZ_len (V := V) (f := f) bs ⟨0, z.sg, z.ou, z.co + 1⟩).trans hlen.out)
      have hou3 := runZ_ou (V := V) (f := f) (L := bs) (z := ⟨0, z.sg, z.ou, z.co + 1⟩) hous
      dsimp only at hco3
      generalize hz3 : runZ V f bs ⟨0, z.sg, z.ou, z.co + 1⟩ = z3 at *
      have hc1 := hid (fun w3 vO2 (hM : MidI V AV cV f base g lo hi w.heap.size (sc 3 s ek en en' A1 l1 c1 Bb bs.length cb C1 es.length cc) vS vO2 z3 w w3) (h0 : z3.st = 0) => ih1 (n - 1) (by omega) (.mk 3 s e bs es) z3 (sc 3 s ek en en' A1 l1 c1 Bb bs.length cb C1 es.length cc) vS vO2 w3 hok0.out h0 hco3.2 (by omega) hln3.out hou3 hM.run (hr0.out _ hM.old) hM.vars)
      rw [← hgo2.out] at hc1
      generalize hRR : runZ V f [St.mk 3 s e bs es] z = RR at *
      clear ih ih1 hwh hr0 hrb' hrc' hgo2 hz3
      cases hg3 : goB z3 with
      | false =>
        have hf1 := hid (hstop.out (goB_f hg3))
        rw [hg3] at hcI
        have hg3 := hid hg3
        clear hc1 hstop
        go_enter Tryz.func62, Tryz.ntmps62
        go_wp2_with fail
        refine hcl.out.mono ?_
        rintro x w2 ⟨rfl, hM⟩
        clear k0 k1 k2 k3 k4 k5 k6 k7
        obtain ⟨k0, k1, k2, k3, k4, k5, k6, k7⟩ := eight hM.box
        have hM := hid hM
        have hc3 := hid (hcI.out _ hM.out)
        clear hcl hcI
        go_wp2_with fail
        refine hc3.out.mono ?_
        rintro x w3 ⟨rfl, vO3, hM3⟩
        have hM3 := hid hM3
        clear k0 k1 k2 k3 k4 k5 k6 k7 hc3 hM
        go_wp2_with fail
        go_ret
        exact ⟨by rw [hf1.out, hg3.out]; rfl, hM3.out.fin hf1.out⟩
      | true =>
        have h30 := hid (goB_t hg3)
        rw [hg3] at hcI
        clear hstop hg3
        go_enter Tryz.func62, Tryz.ntmps62
        go_wp2_with fail
        refine hcl.out.mono ?_
        rintro x w2 ⟨rfl, hM⟩
        clear k0 k1 k2 k3 k4 k5 k6 k7
        obtain ⟨k0, k1, k2, k3, k4, k5, k6, k7⟩ := eight hM.box
        have hM := hid hM
        have hc3 := hid (hcI.out _ hM.out)
        clear hcl hcI
        go_wp2_with fail
        refine hc3.out.mono ?_
        rintro x w3 ⟨rfl, vO3, hM3⟩
        clear k0 k1 k2 k3 k4 k5 k6 k7 hc3 hM
        obtain ⟨k0, k1, k2, k3, k4, k5, k6, k7⟩ := eight hM3.box
        have hM3 := hid hM3
        have hc4 := hid (hc1.out _ _ hM3.out h30.out)
        clear hc1
        go_wp2_with fail
        refine hc4.out.mono ?_
        rintro x w4 ⟨rfl, hT⟩
        have hT := hid (XTo.trans hM3.out.old hM3.out.keep hT)
        clear k0 k1 k2 k3 k4 k5 k6 k7 hc4 hM3
        cases hgR : goB RR
        all_goals
          go_wp2_with fail
          go_ret
          exact ⟨by rw [hgR]; rfl, hT.out⟩
end Go.Proofs.YtnmomlaimffonaaGreat.Rn
