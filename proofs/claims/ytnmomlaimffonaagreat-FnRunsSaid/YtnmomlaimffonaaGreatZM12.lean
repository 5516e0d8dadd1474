/- The model's executions: statements. -/
import Derived.Test.YtnmomlaimffonaaGreatZM11
set_option maxHeartbeats 8000000
set_option maxRecDepth 100000
namespace Go.Proofs.YtnmomlaimffonaaGreat.Rn
open Go.RowKit Go.Lib Go.Sort Com Mem YtnmomlaimffonaaGreat.Os Ow Tr Gd C2
section
variable (V : List (List UInt8)) (AV : Option Addr) (cV f base g lo hi : Nat)
def MSt (n : Nat) : Prop := ∀ (t : St) (z : Ex1) (cs : List Value) (vS vO : Value) (w : World), okSt V t = true → z.st = 0 → z.co ≤ f → f - z.co ≤ n → z.sg.length = V.length → z.ou.length ≤ z.co → XAt (layM (.slice AV V.length cV) f) RM w g lo hi z vS vO → Rd8 w base cs t.d → Rd w base AV (V.map sv) →
  Calls Tryz.prog 68 #[.pointer (some ⟨g, 0, none⟩), .agg cs.toArray] w fun x w' => x = .returned (.tuple #[]) ∧ XTo (layM (.slice AV V.length cV) f) RM base g lo hi vS w (runZ V f [t] z) w'
def MSts (n : Nat) : Prop := ∀ (L : List St) (z : Ex1) (A : Option Addr) (c : Nat) (rows : Nat → List Value) (vS vO : Value) (w : World), okSts V L = true → L.length ≤ maxI → z.co ≤ f → f - z.co ≤ n → z.sg.length = V.length → z.ou.length ≤ z.co → XAt (layM (.slice AV V.length cV) f) RM w g lo hi z vS vO → Row w base 1 A (dl L) rows → Rd w base AV (V.map sv) →
  Calls Tryz.prog 38 #[.pointer (some ⟨g, 0, none⟩), .slice A L.length c] w fun x w' => x = .returned (.tuple #[]) ∧ XTo (layM (.slice AV V.length cV) f) RM base g lo hi vS w (runZ V f L z) w'
end
theorem okSts_at {V : List (List UInt8)} {L : List St} (h : okSts V L = true) {m : Nat} (hm : m < L.length) : okSt V L[m] = true := by
  induction L generalizing m with
  | nil => simp at hm
  | cons a r ih =>
    rw [okSts, Bool.and_eq_true] at h
    cases m with
    | zero => exact h.1
    | succ m => exact ih h.2 (by simpa using hm)
theorem row_blw {w w' : World} {B n : Nat} {A : Option Addr} {l : List (List D)} {rows : Nat → List Value} (h : Row w B n A l rows) (hb : Below B w w') : Row w' B n A l rows :=
  h.cry (Cry.of_below hb) (Nat.le_refl _)
theorem mStmts {V : List (List UInt8)} {AV : Option Addr} {cV f base g lo hi n : Nat} (hS : MSt V AV cV f base g lo hi n) : MSts V AV cV f base g lo hi n := by
  intro L z A c rows vS vO w hok hl hco hn hsl hou hX hrow hV
  have hl' : L.length ≤ 9223372036854775807 := hl
  have h0 := hid (show runZ V f (L.take 0) z = z by rw [List.take_zero, runZ_nil])
  have hS := hid hS
  go_enter Tryz.func38, Tryz.ntmps38
  go_wp2_with fail
  go_loopw [4] (fun i wr => ∃ (m : Nat) (vO' : Value), m ≤ L.length ∧ i = .int .i64 m ∧ XAt (layM (.slice AV V.length cV) f) RM wr g lo hi (runZ V f (L.take m) z) vS vO' ∧ Below base w wr ∧ Keep g w wr) (fun i _ => L.length - (Go.RowKit.intOf i).toNat)
  case atStart => exact ⟨0, vO, Nat.zero_le _, rfl, by rw [h0.out]; exact hX, Below.refl _ _, Keep.refl _ _⟩
  case round =>
    obtain ⟨m, vO', hm, rfl, hXm, hb, hkp⟩ := hrel
    have hkp := hid hkp
    obtain ⟨hc1, hc2⟩ := runZ_co (V := V) (L := L.take m) hco
    obtain ⟨p0, p1, p2, p3, p4, p5⟩ := six hXm.blk
    by_cases hlt : m < L.length
    · by_cases hst : (runZ V f (L.take m) z).st = 0
      · have t1 : ((runZ V f (L.take m) z).st == 0) = true := beq_iff_eq.2 hst
        have hnx := hid (runZ_next (V := V) (f := f) hlt z)
        have hr := row_blw hrow hb
        obtain ⟨_, ad, rfl, _, hld⟩ := hr.cell m (by rw [dl_len]; exact hlt)
        have hld : LdN wr (ad.add (m * 8)) (rows m) := hld
        have hkid := hr.kid m L[m].d (by rw [List.getElem?_map, List.getElem?_eq_getElem hlt]; rfl)
        have hcl := hS.out L[m] (runZ V f (L.take m) z) (rows m) vS vO' wr (okSts_at hok hlt) hst hc2 (by omega) (by rw [runZ_len]; exact hsl) (runZ_ou hou) hXm hkid (hV.below hb)
        generalize L[m] = u at *
        obtain ⟨k, s, e, bs, es⟩ := u
        rw [St.d_mk] at hkid
        obtain ⟨ek, en, en', A1, l1, c1, Bb, cb, C1, cc, rb, rc, e8, -, -, -, -, -, -⟩ := st_inv hkid
        rw [e8, dl_len, dl_len] at hcl hld
        obtain ⟨k0, k1, k2, k3, k4, k5, k6, k7⟩ := ld8 hld
        rw [← hnx.out] at hcl
        replace hcl := hid hcl
        have hb := hid hb
        replace hXm := hid hXm
        clear hr hld hkid e8 hnx
        go_wp2_with fail
        refine hcl.out.mono ?_
        rintro x w2 ⟨rfl, ⟨vO2, hX2⟩, hb2, hk2⟩
        have hX2 := hid hX2
        have hk2 := hid (hkp.out.trans hk2)
        have hb2 := hid (hb.out.trans hb2)
        clear hcl p0 p1 p2 p3 p4 p5 k0 k1 k2 k3 k4 k5 k6 k7
        go_wp2_with fail
        exact ⟨⟨m + 1, vO2, hlt, by go_num, hX2.out, hb2.out, hk2.out⟩, by simp [Go.RowKit.intOf]; omega⟩
      · have t1 : ((runZ V f (L.take m) z).st == 0) = false := beq_false_of_ne hst
        have hf := hid (runZ_take hst)
        replace hXm := hid hXm
        clear hst
        go_wp2_with fail
        go_end0
        exact ⟨rfl, ⟨vO', by rw [hf.out]; exact hXm.out⟩, hb, hkp.out⟩
    · obtain rfl : m = L.length := by omega
      have hf := hid (show runZ V f L z = runZ V f (L.take L.length) z by rw [List.take_length])
      replace hXm := hid hXm
      go_wp2_with fail
      go_end0
      exact ⟨rfl, ⟨vO', by rw [hf.out]; exact hXm.out⟩, hb, hkp.out⟩
theorem kind_cases {V : List (List UInt8)} {k : Int} {s : List UInt8} {nb ne : Bool} (h : kindB V k s nb ne = true) : (k = 1 ∧ 0 ≤ ixOf V s) ∨ k = 4 ∨ k = 2 ∨ k = 3 := by
  unfold kindB at h
  by_cases h1 : k = 1
  · rw [if_pos h1, Bool.and_eq_true] at h
    exact Or.inl ⟨h1, of_decide_eq_true h.1⟩
  by_cases h2 : k = 2
  · exact Or.inr (Or.inr (Or.inl h2))
  by_cases h3 : k = 3
  · exact Or.inr (Or.inr (Or.inr h3))
  by_cases h4 : k = 4
  · exact Or.inr (Or.inl h4)
  rw [if_neg h1, if_neg h2, if_neg h3, if_neg h4] at h
  cases h
theorem okE8_cnt {V : List (List UInt8)} {e : T} (h : okE8 V e = true) : cntT e ≤ 12 := by
  unfold okE8 okT at h
  simp only [Bool.and_eq_true, decide_eq_true_eq] at h
  exact h.1.1
theorem intR : SlT Tryz.prog 28 3 (.int .i64 0) 8 := ⟨Tryz.underlying28, by kernel_rfl, rfl, by decide⟩
abbrev ST : TypeId := 94
structure MidM (V : List (List UInt8)) (AV : Option Addr) (cV f base g lo hi b : Nat) (cs : List Value) (vS vO : Value) (z : Ex1) (w0 w : World) : Prop where
  box : Blk w b ST cs
  run : XAt (layM (.slice AV V.length cV) f) RM w g lo hi z vS vO
  old : Below base w0 w
  vars : Rd w base AV (V.map sv)
  keep : Keep g w0 w
section
variable {V : List (List UInt8)} {AV : Option Addr} {cV f base g lo hi b : Nat} {cs : List Value} {vS vO : Value} {z : Ex1} {w0 w w' : World}
theorem MidM.to (h : MidM V AV cV f base g lo hi b cs vS vO z w0 w) {z' : Ex1} {vO' : Value} (hx : XAt (layM (.slice AV V.length cV) f) RM w' g lo hi z' vS vO') (hb : Below base w w') (hk : Keep g w w') (hbg : b ≠ g) : MidM V AV cV f base g lo hi b cs vS vO' z' w0 w' :=
  ⟨hk _ _ _ (by decide) hbg h.box, hx, h.old.trans hb, h.vars.below hb, h.keep.trans hk⟩
theorem MidM.fin (h : MidM V AV cV f base g lo hi b cs vS vO z w0 w) {z' : Ex1} (e : z' = z) : XTo (layM (.slice AV V.length cV) f) RM base g lo hi vS w0 z' w := by
  subst e
  exact ⟨⟨vO, h.run⟩, h.old, h.keep⟩
theorem MidM.eval (h : MidM V AV cV f base g lo hi b cs vS vO z w0 w) (hbg : base ≤ g) (hne : b ≠ g) (hz : z.st = 0) (hf : f ≤ 400) {v : Value} {e : T} (hv : Ex w base v e) (hc : cntT e ≤ 2000000) (hn : V.length ≤ maxI) :
    Calls Tryz.prog 91 #[.pointer (some ⟨g, 0, none⟩), v] w fun x w' => x = .returned (.int .i64 (evZ V f e z).2) ∧ MidM V AV cV f base g lo hi b cs vS vO (evZ V f e z).1 w0 w' :=
  (mEval V AV cV f base g lo hi z e v vS vO w h.run hz hf hbg hv hc h.vars hn).mono fun x w' ⟨h1, h2, h3⟩ =>
    ⟨h1, h.to h2 (bgb (Below.refl base w) h3 (by have := h.run.lt; omega) hbg) (Keep.gb h3) hne⟩
end
def leftM (w : World) (g f : Nat) : Nat := 2 * (f - (match w.cell? ⟨g, 5, none⟩ with | some (.int _ n) => n.toNat | _ => 0)) + (match w.cell? ⟨g, 2, none⟩ with | some (.int _ n) => if n = 0 then 1 else 0 | _ => 0)
theorem leftM_of {V : List (List UInt8)} {AV : Option Addr} {cV f g lo hi : Nat} {vS vO : Value} {z : Ex1} {w : World} (h : XAt (layM (.slice AV V.length cV) f) RM w g lo hi z vS vO) : leftM w g f = 2 * (f - z.co) + (if z.st = 0 then 1 else 0) := by
  obtain ⟨p0, p1, p2, p3, p4, p5⟩ := six h.blk
  unfold leftM
  rw [p2, p5]
  rfl
theorem mStmt {V : List (List UInt8)} {AV : Option Addr} {cV f base g lo hi n : Nat} (hbg : base ≤ g) (hbl : base ≤ lo) (hbh : base ≤ hi) (hf : f ≤ 400) (hnv : V.length ≤ maxI) (ih : ∀ m, m < n → MSts V AV cV f base g lo hi m) : MSt V AV cV f base g lo hi n := by
  intro t z cs vS vO w hok hz hco hfn hsl hou hX hr hV
  obtain ⟨k, s, e, bs, es⟩ := t
  rw [okSt, Bool.and_eq_true, Bool.and_eq_true, Bool.and_eq_true] at hok
  obtain ⟨hoe, hobs, hoes, hkind⟩ := hok
  rw [St.d_mk] at hr
  obtain ⟨ek, en, en', A1, l1, c1, Bb, cb, C1, cc, rb, rc, rfl, hsl2, hx, hrb, hlb, hrc, hlc⟩ := st_inv hr
  rw [dl_len] at hlb hlc
  rw [dl_len, dl_len]
  have hgl := hX.lt
  have hW : Below w.heap.size w (w.alloc (.cells (sc k s ek en en' A1 l1 c1 Bb bs.length cb C1 es.length cc).toArray ST)) := box8
  have hbx := Blk.new w ST (sc k s ek en en' A1 l1 c1 Bb bs.length cb C1 es.length cc)
  have hWb := hW.mono (show base ≤ w.heap.size by omega)
  have hce : cntT e ≤ 2000000 := by have := okE8_cnt hoe; omega
  have hne : w.heap.size ≠ g := by omega
  have hM1 : MidM V AV cV f base g lo hi w.heap.size (sc k s ek en en' A1 l1 c1 Bb bs.length cb C1 es.length cc) vS vO z w _ := ⟨hbx, hX.below hW, hWb, hV.below hWb, Keep.below hW⟩
  have hcl := hM1.eval hbg hne hz hf (hx.blw hWb) hce hnv
  have hoff := fun (h : (evZ V f e z).1.st ≠ 0) => evZ_off (V := V) h (k := k) (s := s) (bs := bs) (es := es) hz
  have hon := fun (h : (evZ V f e z).1.st = 0) => evZ_on (V := V) h
  have hlen : (evZ V f e z).1.sg.length = V.length := by rw [evZ_len]; exact hsl
  have hous := evZ_ou (V := V) (f := f) (e := e) hou
  have hcos := (evZ_co (V := V) (e := e) hco).2
  have hasg := fun h : (evZ V f e z).1.st = 0 => runZ_asg (s := s) (bs := bs) (es := es) hz h
  have hemi := fun h : (evZ V f e z).1.st = 0 => runZ_emit (s := s) (bs := bs) (es := es) hz h
  have hif := fun h : (evZ V f e z).1.st = 0 => runZ_if (s := s) (bs := bs) (es := es) hz h
  have hwh := runZ_while (V := V) (f := f) (s := s) (e := e) (bs := bs) (es := es) hz
  obtain ⟨k0, k1, k2, k3, k4, k5, k6, k7⟩ := eight hbx
  have hrb' := hid (fun w' (h : Below base w w') => row_blw hrb h)
  have hrc' := hid (fun w' (h : Below base w w') => row_blw hrc h)
  have hx' := hid (fun w' (h : Below base w w') => hx.blw h)
  replace hcl := hid hcl
  clear hX hr hV hW hbx hWb hx hrb hrc hoe hM1
  generalize hEq : evZ V f e z = Z at *
  obtain ⟨y, vv⟩ := Z
  dsimp only at hcl hoff hon hlen hous hcos hasg hemi hif hwh
  by_cases hst : y.st = 0
  case neg =>
    have hf1 := hid (hoff hst)
    have t0 : (y.st != 0) = true := bne_iff_ne.2 hst
    clear hoff hon hasg hemi hif hwh hEq ih hst
    go_enter Tryz.func68, Tryz.ntmps68
    go_wp2_with fail
    refine hcl.out.mono ?_
    rintro x w2 ⟨rfl, hM⟩
    obtain ⟨p0, p1, p2, p3, p4, p5⟩ := six hM.run.blk
    have hM := hid hM
    clear hcl k0 k1 k2 k3 k4 k5 k6 k7
    go_wp2_with fail
    refine bodyPost_ret (results_none rfl _ _ _) rfl ?_
    exact ⟨rfl, hM.out.fin hf1.out⟩
  obtain ⟨hy, hvv, hzf⟩ := hon hst
  replace hvv := hid hvv
  replace hEq := hid hEq
  subst hy
  dsimp only at hst hcl hlen hous hcos hasg hemi hif hwh
  have t0 : ((0 : Int) != 0) = false := rfl
  replace hsl := hid hsl
  replace hlen := hid hlen
  clear hoff hon
  rcases kind_cases hkind with ⟨rfl, hix⟩ | rfl | rfl | rfl
  · have hf1 := hasg hst
    obtain ⟨i, hi⟩ : ∃ i : Nat, ixOf V s = i := ⟨(ixOf V s).toNat, by omega⟩
    have hil : i < V.length := by have := (ixOf_bd V s).2; omega
    rw [hi, Int.toNat_natCast] at hf1
    replace hf1 := hid hf1
    have hI := fun W (hW : Rd W base AV (V.map sv)) => sindex_any AV cV V s W base hW hnv
    rw [hi] at hI
    replace hI := hid hI
    clear hasg hemi hif hwh ih hkind hix hi
    go_enter Tryz.func68, Tryz.ntmps68
    go_wp2_with fail
    refine hcl.out.mono ?_
    rintro x w2 ⟨rfl, hM⟩
    clear k0 k1 k2 k3 k4 k5 k6 k7
    obtain ⟨p0, p1, p2, p3, p4, p5⟩ := six hM.run.blk
    obtain ⟨k0, k1, k2, k3, k4, k5, k6, k7⟩ := eight hM.box
    have hM := hid hM
    clear hcl
    obtain ⟨b, c, rfl, q1, q2, q3, q4, ⟨cs, q6⟩, q5⟩ := hM.out.run.set (i := i) (by rw [hlen.out]; exact hil) vv
    have hbd := hid (show Below w2.heap.size w2 w2.drew from (Below.refl _ _).drew)
    have hbs := (Below.refl base w2).setCell (p := ⟨b, i, none⟩) (show base ≤ b by omega) (.int .i64 vv)
    have hM5 := hid (hM.out.to q5 hbs (Keep.set q6 _) hne)
    have hz5 : base ≤ (w2.setCell ⟨b, i, none⟩ (.int .i64 vv)).heap.size := Nat.le_trans hbg (Nat.le_of_lt hM5.out.run.lt)
    have hbd5 := hid (show Below (w2.setCell ⟨b, i, none⟩ (.int .i64 vv)).heap.size _ (w2.setCell ⟨b, i, none⟩ (.int .i64 vv)).drew from (Below.refl _ _).drew)
    have hfin := hid (hM5.out.to (hM5.out.run.below hbd5.out) (hbd5.out.mono hz5) (Keep.below hbd5.out) hne)
    clear q5 q6 hbs hM5 hbd5 hz5
    have hil2 : i < z.sg.length := by rw [hlen.out]; exact hil
    go_wp2_with fail
    go_region_with (first | (go_at_call 92; refine (hI.out _ (hM.out.vars.below (hbd.out.mono (by have := hM.out.run.lt; omega)))).mono ?_; rintro x w3 ⟨rfl, rfl⟩))
    all_goals
      clear p0 p1 p2 p3 p4 p5 k0 k1 k2 k3 k4 k5 k6 k7 q3 q4 hM hbd hI
      go_wp2_with fail
      go_end0
      exact ⟨rfl, hfin.out.fin hf1.out⟩
  · have hf1 := hid (hemi hst)
    clear hasg hemi hif hwh ih hkind
    go_enter Tryz.func68, Tryz.ntmps68
    go_wp2_with fail
    refine hcl.out.mono ?_
    rintro x w2 ⟨rfl, hM⟩
    clear k0 k1 k2 k3 k4 k5 k6 k7
    obtain ⟨p0, p1, p2, p3, p4, p5⟩ := six hM.run.blk
    obtain ⟨k0, k1, k2, k3, k4, k5, k6, k7⟩ := eight hM.box
    have hM := hid hM
    have hO := hid (show w2.ownsRow hi 3 1 vO (z.ou.map iv).length (z.ou.map iv) by rw [List.length_map]; exact hM.out.run.ou)
    have htop := hM.out.run.top
    have hw2 : base ≤ w2.heap.size := Nat.le_trans hbg (Nat.le_of_lt hM.out.run.lt)
    have holen : (z.ou.map iv).length < 1000000000000 := by rw [List.length_map]; omega
    clear hcl
    go_wp2_with (at_builtin; go_loud (refine own_append intR hO.out htop (iv vv) rfl holen rfl _ _ rfl rfl rfl ?_; intro v' w3 ho hg hne'; obtain ⟨A9, n9, c9, rfl⟩ := own_form ho; obtain ⟨a1, a2, a3⟩ := hM.out.run.app vv ho hg 4 rfl; replace a1 : w3.cell? ⟨g, 4, none⟩ = some vO := a1; have hk3 := hid (hM.out.to a3 (((Below.refl base w2).grown hg hw2 (fun k hk => by have := (own_ge hM.out.run.ou hk).1; omega)).setCell (p := ⟨g, 4, none⟩) hbg _) ((Keep.own hM.out.run.ou hg).trans (fun k ty cs' _ hkg hB => hB.far (p := ⟨g, 4, none⟩) hkg _)) hne); clear a3 ho hg hne' hO p0 p1 p2 p3 p4 p5 k0 k1 k2 k3 k4 k5 k6 k7))
    go_wp2_with fail
    go_end0
    exact ⟨rfl, hk3.out.fin hf1.out⟩
  · have hf1 := hif hst
    clear hasg hemi hif hwh hkind
    by_cases hv0 : vv = 0
    · rw [if_pos hv0] at hf1
      subst hv0
      have hcI := hid (fun w2 (hM : MidM V AV cV f base g lo hi w.heap.size (sc 2 s ek en en' A1 l1 c1 Bb bs.length cb C1 es.length cc) vS vO ⟨0, z.sg, z.ou, z.co + 1⟩ w w2) => ih (n - 1) (by omega) es ⟨0, z.sg, z.ou, z.co + 1⟩ C1 cc rc vS vO w2 hoes hlc hcos (by dsimp only; omega) hlen.out hous hM.run (hrc'.out _ hM.old) hM.vars)
      rw [← hf1] at hcI
      replace hf1 := hid hf1
      go_enter Tryz.func68, Tryz.ntmps68
      go_wp2_with fail
      refine hcl.out.mono ?_
      rintro x w2 ⟨rfl, hM⟩
      clear k0 k1 k2 k3 k4 k5 k6 k7
      obtain ⟨p0, p1, p2, p3, p4, p5⟩ := six hM.run.blk
      obtain ⟨k0, k1, k2, k3, k4, k5, k6, k7⟩ := eight hM.box
      have hM := hid hM
      have hc3 := hid (hcI.out _ hM.out)
      clear hcl hcI
      go_wp2_with fail
      refine hc3.out.mono ?_
      rintro x w3 ⟨rfl, hT⟩
      have hT := hid (XTo.trans hM.out.old hM.out.keep hT)
      clear p0 p1 p2 p3 p4 p5 k0 k1 k2 k3 k4 k5 k6 k7 hc3
      go_wp2_with fail
      go_end0
      exact ⟨rfl, hT.out⟩
    · rw [if_neg hv0] at hf1
      have t2 : (vv != 0) = true := bne_iff_ne.2 hv0
      have hcI := hid (fun w2 (hM : MidM V AV cV f base g lo hi w.heap.size (sc 2 s ek en en' A1 l1 c1 Bb bs.length cb C1 es.length cc) vS vO ⟨0, z.sg, z.ou, z.co + 1⟩ w w2) => ih (n - 1) (by omega) bs ⟨0, z.sg, z.ou, z.co + 1⟩ Bb cb rb vS vO w2 hobs hlb hcos (by dsimp only; omega) hlen.out hous hM.run (hrb'.out _ hM.old) hM.vars)
      rw [← hf1] at hcI
      replace hf1 := hid hf1
      go_enter Tryz.func68, Tryz.ntmps68
      go_wp2_with fail
      refine hcl.out.mono ?_
      rintro x w2 ⟨rfl, hM⟩
      clear k0 k1 k2 k3 k4 k5 k6 k7
      obtain ⟨p0, p1, p2, p3, p4, p5⟩ := six hM.run.blk
      obtain ⟨k0, k1, k2, k3, k4, k5, k6, k7⟩ := eight hM.box
      have hM := hid hM
      have hc3 := hid (hcI.out _ hM.out)
      clear hcl hcI
      go_wp2_with fail
      refine hc3.out.mono ?_
      rintro x w3 ⟨rfl, hT⟩
      have hT := hid (XTo.trans hM.out.old hM.out.keep hT)
      clear p0 p1 p2 p3 p4 p5 k0 k1 k2 k3 k4 k5 k6 k7 hc3
      go_wp2_with fail
      go_end0
      exact ⟨rfl, hT.out⟩
  · replace hwh := hid hwh
    clear hasg hemi hif hkind
    have hbody := hid (fun (zz : Ex1) (vO' : Value) (w2 : World) (hM : MidM V AV cV f base g lo hi w.heap.size (sc 3 s ek en en' A1 l1 c1 Bb bs.length cb C1 es.length cc) vS vO' zz w w2) (h1 : zz.co ≤ f) (h2 : f - zz.co ≤ n - 1) (h3 : zz.sg.length = V.length) (h4 : zz.ou.length ≤ zz.co) =>
      (ih (n - 1) (by omega) bs zz Bb cb rb vS vO' w2 hobs hlb h1 h2 h3 h4 hM.run (hrb'.out _ hM.old) hM.vars).mono
        (R' := fun x w' => x = .returned (.tuple #[]) ∧ ∃ vO2, MidM V AV cV f base g lo hi w.heap.size (sc 3 s ek en en' A1 l1 c1 Bb bs.length cb C1 es.length cc) vS vO2 (runZ V f bs zz) w w')
        fun x w' ⟨q1, ⟨vO2, q2⟩, q3, q4⟩ => ⟨q1, vO2, hM.to q2 q3 q4 hne⟩)
    have heval := hid (fun (zz : Ex1) (vO' : Value) (w2 : World) (hM : MidM V AV cV f base g lo hi w.heap.size (sc 3 s ek en en' A1 l1 c1 Bb bs.length cb C1 es.length cc) vS vO' zz w w2) (h0 : zz.st = 0) =>
      hM.eval hbg hne h0 hf (hx'.out _ hM.old) hce hnv)
    obtain ⟨F, hF⟩ : ∃ F, F = runZ V f [St.mk 3 s e bs es] z := ⟨_, rfl⟩
    rw [← hF] at hwh ⊢
    replace hF := hid hF
    have hn1 : f - (z.co + 1) ≤ n - 1 := by omega
    clear ih
    go_enter Tryz.func68, Tryz.ntmps68
    go_wp2_with fail
    refine hcl.out.mono ?_
    rintro x w2 ⟨rfl, hM⟩
    clear k0 k1 k2 k3 k4 k5 k6 k7
    obtain ⟨p0, p1, p2, p3, p4, p5⟩ := six hM.run.blk
    obtain ⟨k0, k1, k2, k3, k4, k5, k6, k7⟩ := eight hM.box
    have hM := hid hM
    clear hcl
    go_wp2_with fail
    go_loopw [4] (fun u wr => ∃ (zz : Ex1) (val : Int) (vO' : Value), u = .int .i64 val ∧ Hid (F = loopZ V f (.mk 3 s e bs es) bs val zz) ∧ zz.co ≤ f ∧ f - zz.co ≤ n - 1 ∧ Hid (zz.sg.length = V.length) ∧ zz.ou.length ≤ zz.co ∧ MidM V AV cV f base g lo hi w.heap.size (sc 3 s ek en en' A1 l1 c1 Bb bs.length cb C1 es.length cc) vS vO' zz w wr) (fun _ wr => leftM wr g f)
    case atStart => exact ⟨_, vv, vO, rfl, hwh, hcos, hn1, hlen, hous, hM.out⟩
    case round =>
      obtain ⟨zz, val, vO', rfl, hFz, hc1, hc2, hc3, hc4, hMz⟩ := hrel
      clear p0 p1 p2 p3 p4 p5 k0 k1 k2 k3 k4 k5 k6 k7 hwh hcos hn1 hlen hous hM hst hF hzf hEq hvv
      obtain ⟨p0, p1, p2, p3, p4, p5⟩ := six hMz.run.blk
      obtain ⟨k0, k1, k2, k3, k4, k5, k6, k7⟩ := eight hMz.box
      by_cases hv0 : val = 0
      · subst hv0
        have hfin := hid (hFz.out.trans loopZ_end)
        have hMz := hid hMz
        clear hbody heval hFz
        go_wp2_with fail
        go_end0
        exact ⟨rfl, hMz.out.fin hfin.out⟩
      have t1 : (val != 0) = true := bne_iff_ne.2 hv0
      by_cases hz0 : zz.st = 0
      · have t2 : (zz.st == 0) = true := beq_iff_eq.2 hz0
        have hb := hid (hbody.out zz vO' wr hMz hc1 hc2 hc3.out hc4)
        have hm0 := hid (leftM_of hMz.run)
        have hco3 := runZ_co (V := V) (L := bs) hc1
        have hln3 := hid ((runZ_len (V := V) (f := f) bs zz).trans hc3.out)
        have hou3 := runZ_ou (V := V) (f := f) (L := bs) hc4
        have hstep := hid (fun h1 => loopZ_step (V := V) (f := f) (s := s) (e := e) (bs := bs) (es := es) hz0 hv0 h1)
        have hstop := hid (fun h1 => loopZ_stop (V := V) (f := f) (s := s) (e := e) (bs := bs) (es := es) hz0 hv0 h1)
        replace hz0 := hid hz0
        replace hMz := hid hMz
        clear hbody
        generalize hz3 : runZ V f bs zz = z3 at *
        go_wp2_with fail
        refine hb.out.mono ?_
        rintro x w3 ⟨rfl, vO2, hM3⟩
        clear p0 p1 p2 p3 p4 p5 k0 k1 k2 k3 k4 k5 k6 k7 hb hz3
        obtain ⟨p0, p1, p2, p3, p4, p5⟩ := six hM3.run.blk
        obtain ⟨k0, k1, k2, k3, k4, k5, k6, k7⟩ := eight hM3.box
        by_cases hs3 : z3.st = 0
        · have t3 : (z3.st == 0) = true := beq_iff_eq.2 hs3
          have hev := hid (heval.out z3 vO2 w3 hM3 hs3)
          have hco4 := evZ_co (V := V) (e := e) hco3.2
          have hln4 := hid ((evZ_len (V := V) (f := f) e z3).trans hln3.out)
          have hou4 := evZ_ou (V := V) (f := f) (e := e) hou3
          have hon4 := hid (fun h => evZ_on (V := V) (f := f) (e := e) (z := z3) h)
          have hF4 := hid (hFz.out.trans (hstep.out hs3))
          replace hs3 := hid hs3
          replace hM3 := hid hM3
          clear heval hstep hstop
          generalize evZ V f e z3 = Y at *
          obtain ⟨y4, v4⟩ := Y
          dsimp only at hev hco4 hln4 hou4 hF4 hon4
          go_wp2_with fail
          refine hev.out.mono ?_
          rintro x w4 ⟨rfl, hM4⟩
          have hm4 := hid (leftM_of hM4.run)
          replace hM4 := hid hM4
          clear p0 p1 p2 p3 p4 p5 k0 k1 k2 k3 k4 k5 k6 k7 hev
          go_wp2_with fail
          refine ⟨⟨y4, v4, vO2, rfl, hF4, hco4.2, by omega, hln4, hou4, hM4.out⟩, ?_⟩
          rw [hm4.out, hm0.out, if_pos hz0.out]
          by_cases h4 : y4.st = 0
          · obtain ⟨q1, -, q3⟩ := hon4.out h4
            rw [if_pos h4, q1]
            dsimp only
            omega
          · rw [if_neg h4]; omega
        · have t3 : (z3.st == 0) = false := beq_false_of_ne hs3
          have hF4 := hid (show F = loopZ V f (.mk 3 s e bs es) bs val z3 by rw [loopZ_off hs3, hFz.out, hstop.out hs3])
          have hm4 := hid (leftM_of hM3.run)
          replace hs3 := hid hs3
          replace hM3 := hid hM3
          clear heval hstep hstop
          go_wp2_with fail
          refine ⟨⟨z3, val, vO2, rfl, hF4, hco3.2, by omega, hln3, hou3, hM3.out⟩, ?_⟩
          rw [hm4.out, hm0.out, if_pos hz0.out, if_neg hs3.out]
          omega
      · have t2 : (zz.st == 0) = false := beq_false_of_ne hz0
        have hfin := hid (hFz.out.trans (loopZ_off hz0))
        have hMz := hid hMz
        clear hbody heval hFz hz0
        go_wp2_with fail
        go_end0
        exact ⟨rfl, hMz.out.fin hfin.out⟩
end Go.Proofs.YtnmomlaimffonaaGreat.Rn
