/- FnRuns: more fuel changes nothing after the end, and the output of a run with less fuel is a prefix: the walk. -/
import Derived.Test.YtnmomlaimffonaaGreatZDr22
import Derived.Test.YtnmomlaimffonaaGreatZI13
import Derived.Deep.CutRange
set_option maxHeartbeats 8000000
set_option maxRecDepth 100000
namespace Go.Proofs.YtnmomlaimffonaaGreat.FnRuns
open Go.RowKit Go.Lib Go.Sort Com Mem YtnmomlaimffonaaGreat.Os Ow Tr Pl Gd Gs Oc Rn Dr
theorem same_any (V : List Int) (A A' : Option Addr) (c c' : Nat) (w : World) (hV : V.length ≤ I63) (hr : Rd w w.heap.size A (V.map iv)) (hr' : Rd w w.heap.size A' (V.map iv)) :
    Calls Tryz.prog 13 #[.slice A V.length c, .slice A' V.length c'] w fun e w' => e = .returned (.bool true) ∧ Below w.heap.size w w' := by
  have hl63 : V.length ≤ 9223372036854775807 := hV
  generalize hL : V.length = n at *
  have hcmp : ((n : Int) != (n : Int)) = false := bne_self_eq_false _
  go_enter Tryz.func13, Tryz.ntmps13
  go_wp2_with fail
  go_loopw [5] (fun i wr => ∃ m : Nat, m ≤ n ∧ i = .int .i64 m ∧ Below w.heap.size w wr) (fun i _ => n - (Go.RowKit.intOf i).toNat)
  case atStart => exact ⟨0, Nat.zero_le _, rfl, Below.refl _ _⟩
  case round =>
    obtain ⟨m, hm, rfl, hb⟩ := hrel
    by_cases hlt : m < n
    · have hm1 : m < V.length := by omega
      obtain ⟨ad1, rfl, hc1⟩ := rd_i (hr.below hb) hm1
      obtain ⟨ad2, rfl, hc2⟩ := rd_i (hr'.below hb) hm1
      have n1 : (V[m] != V[m]) = false := bne_self_eq_false _
      generalize V[m] = x at *
      go_wp2_with fail
      go_quiet (fail)
      go_wp2_with fail
      exact ⟨⟨m + 1, hlt, by go_num, bdr hb nq⟩, by simp [Go.RowKit.intOf]; omega⟩
    · obtain rfl : m = n := by omega
      go_wp2_with fail
      go_ret
      exact ⟨rfl, hb⟩
theorem ieq_true (o : Oc) (v v' : Value) (w : World) (h : OcAt w w.heap.size v o) (h' : OcAt w w.heap.size v' o) :
    Calls Tryz.prog 10 #[v, v'] w fun e w' => e = .returned (.bool true) ∧ Below w.heap.size w w' := by
  have := iEqO o o v v' w h h'
  rw [eqOB_self] at this
  exact this
theorem seq_true (o : Oc) (v v' : Value) (w : World) (h : OcAt w w.heap.size v o) (h' : OcAt w w.heap.size v' o) :
    Calls Tryz.prog 12 #[v, v'] w fun e w' => e = .returned (.bool true) ∧ Below w.heap.size w w' := by
  have := sEqO o o v v' w h h'
  rw [eqOB_self] at this
  exact this
theorem own_cap {lo hi : Nat} {w : World} {v : Value} {o : Oc} (h : OwnOc lo hi w v o) : ∃ A c A' c', v = ov o.st A o.sg.length c A' o.ou.length c' o.co ∧ Rd w w.heap.size A (o.sg.map iv) ∧ o.sg.length ≤ I63 ∧ Rd w w.heap.size A' (o.ou.map iv) ∧ o.ou.length ≤ I63 ∧ o.ou.length ≤ c' ∧ ∀ ad, A' = some ad → ad = ⟨ad.block, 0, none⟩ := by
  obtain ⟨vS, vO, m, e, h1, h2, h3, h4⟩ := h
  obtain ⟨A, c, rfl, r1, l1, m1, _⟩ := h3.read_
  obtain ⟨A', c', rfl, r2, l2, m2, l3⟩ := h4.read_
  exact ⟨A, c, A', c', e, r1, by unfold maxLen at m1; unfold I63; omega, r2, by unfold maxLen at m2; unfold I63; omega, l2, l3.2⟩
theorem oc_ou {w : World} {B : Nat} {st : Int} {A : Option Addr} {l c : Nat} {A' : Option Addr} {l' c' : Nat} {co : Int} {o : Oc} (h : OcAt w B (ov st A l c A' l' c' co) o) : Rd w B A' (o.ou.map iv) ∧ o.ou.length ≤ I63 := by
  obtain ⟨A1, c1, A2, c2, e, h1, h2, h3, h4⟩ := h
  cases e
  exact ⟨h3, h4⟩
theorem rd_pre {w : World} {B : Nat} {A : Option Addr} {xs ys : List Value} (h : Rd w B A (xs ++ ys)) : Rd w B A xs := by
  intro hne
  obtain ⟨ad, h1, h2, h3⟩ := h (by simp [hne])
  exact ⟨ad, h1, h2, fun j u hj => h3 j u (by rw [List.getElem?_append_left (List.getElem?_eq_some_iff.mp hj).1]; exact hj)⟩
structure AtR (w1 : World) (pb qb : Nat) (p0 p1 : Value) (st : Int) (A : Option Addr) (l c : Nat) (A' : Option Addr) (l' c' : Nat) (co : Int) (RO : Oc) (W : World) : Prop where
  pp : Blk W pb PI [p0, p1]
  qq : Blk W qb 32 [.int .i64 st, .slice A l c, .slice A' l' c', .int .i64 co]
  cc : Below w1.heap.size w1 W
  hh : OcAt W W.heap.size (ov st A l c A' l' c' co) RO
theorem AtR.go {w1 : World} {pb qb : Nat} {p0 p1 : Value} {st : Int} {A : Option Addr} {l c : Nat} {A' : Option Addr} {l' c' : Nat} {co : Int} {RO : Oc} {W W' : World} (h : AtR w1 pb qb p0 p1 st A l c A' l' c' co RO W) (hb : Below W.heap.size W W') : AtR w1 pb qb p0 p1 st A l c A' l' c' co RO W' :=
  ⟨h.pp.below hb h.pp.lt, h.qq.below hb h.qq.lt, h.cc.trans (hb.mono h.cc.size), h.hh.go hb⟩
set_option maxRecDepth 100000 in
theorem walk (w : World) (A : Option Addr) (k : Nat) (xs : List UInt8) (hr : Rd w w.heap.size A (xs.map bv)) (_ : xs.length ≤ 9223372036854775807) :
    Calls Tryz.prog 3 #[.slice A xs.length k] w fun e w' => e = .returned (.bool true) ∧ Below w.heap.size w w' := by
  have hbig := hid (Big.big_any A xs.length k w)
  by_cases hb : 1048576 < xs.length
  · rw [decide_eq_true (show 1048576 < (xs.length : Int) by omega)] at hbig
    go_enter Tryz.func3, Tryz.ntmps3
    go_wp2_with fail
    refine hbig.out.mono ?_
    rintro e w1 ⟨rfl, rfl⟩
    go_wp2_with fail
    go_ret
    exact ⟨rfl, Below.refl _ _⟩
  rw [decide_eq_false (show ¬ 1048576 < (xs.length : Int) by omega)] at hbig
  have hd1 := hid (drawRun11 A k xs w hr (by omega))
  clear hb hr
  go_enter Tryz.func3, Tryz.ntmps3
  go_wp2_with fail
  refine hbig.out.mono ?_
  rintro e w1 ⟨rfl, rfl⟩
  go_wp2_with fail
  refine hd1.out.mono ?_
  rintro e w1 ⟨v, V, L, vi, S, f, rfl, hO, n1, n2, n3, n4, hI, n5, hfu, hb1⟩
  obtain ⟨VA, vc, B, bc, rfl, f1, f2, f3, f4, hF⟩ := hO.form
  obtain ⟨AS, cS, rfl, hN, hSr⟩ := hI.rd
  have hVm : V.length ≤ maxI := by unfold maxI; omega
  have hVs : ∀ x ∈ V, x.length ≤ maxI := fun x hx => by have := n2 x hx; unfold maxI; omega
  have hex := ex_nx L
  have hbx := box_below w1 (.cells #[.slice VA V.length vc, .slice B L.length bc] PI)
  have P2 := hid (Blk.new w1 PI [.slice VA V.length vc, .slice B L.length bc])
  have C2 := hid hbx
  have B0 := hid (fun (W : World) (h : Below w1.heap.size w1 W) => hb1.trans (h.mono hb1.size))
  have hSl : S.length ≤ I63 := by unfold I63; omega
  have hfr : -1 ≤ f ∧ f ≤ 401 := by
    unfold fuels11 at hfu
    simp at hfu
    omega
  have cR := hid (fun (f : Int) (W : World) (h : Below w1.heap.size w1 W) => irun_any ⟨V, L⟩ VA vc B bc S AS cS f W (hF W h).1 f4 hVm hVs (hF W h).2.2 f3 (by show cntL L ≤ 4000000; omega) (by show exL L ≤ 1048576; omega) (hSr W h) hSl hN)
  have cT := hid (fun (W : World) (h : Below w1.heap.size w1 W) => show Calls Tryz.prog 11 #[.agg #[.slice VA V.length vc, .slice B L.length bc], .slice AS S.length cS, .int .i64 f] W _ from by
    obtain ⟨r1, ⟨rows, r2⟩, -⟩ := hF W h
    exact srun_any ⟨V, L⟩ _ S AS cS f W (rd_pg r1 hVs hVm f1 r2 f3 f2) (by show cntL L ≤ 1900000; omega) (by show exL L ≤ 1900000; omega) (hSr W h) hSl hN)
  have hend := hid (runs_end (p := ⟨V, L⟩) (S := S) (fuel := f))
  have hless := hid (runs_less (p := ⟨V, L⟩) (S := S) (fuel := f))
  have hzero := hid (runO_zero (p := ⟨V, L⟩) (S := S) (fuel := f))
  have cZ := hid (fun (W : World) (h : Below w1.heap.size w1 W) (h0 : (runO ⟨V, L⟩ S f).st = 0) => show Calls Tryz.prog 11 #[.agg #[.slice VA V.length vc, .slice B L.length bc], .slice AS S.length cS, .int .i64 f] W _ from by
    obtain ⟨r1, ⟨rows, r2⟩, -⟩ := hF W h
    exact srun_bad ⟨V, L⟩ _ S AS cS f W (rd_pg r1 hVs hVm f1 r2 f3 f2) (by show cntL L ≤ 1900000; omega) (by show exL L ≤ 1900000; omega) (hSr W h) hSl hN h0)
  have cA := hid (cR.out f)
  have cB := hid (cR.out (f + 1))
  dsimp only at cA cB cT
  generalize runO ⟨V, L⟩ S f = RO at *
  generalize runO ⟨V, L⟩ S (f + 1) = RP at *
  clear hO hI hb1 hbx hbig hd1 hF hSr hVm hVs hex n1 n2 n3 n4 n5 f1 f2 f3 f4 hN hSl cR hfu
  generalize V.length = vl at *
  generalize L.length = ll at *
  generalize S.length = sl at *
  obtain ⟨x0, x1⟩ := two P2.out
  go_wp2_with fail
  generalize (w1.alloc (.cells #[.slice VA vl vc, .slice B ll bc] PI)) = w2 at *
  refine (cA.out w2 C2.out).mono ?_
  rintro e w3 ⟨r, rfl, hO, hb⟩
  have hat := hO.at_
  obtain ⟨A5, c5, A6, c6, rfl, ra1, ra2, ra3, ra4⟩ := hat
  have hat : OcAt w3 w3.heap.size (ov RO.st A5 RO.sg.length c5 A6 RO.ou.length c6 RO.co) RO := ⟨A5, c5, A6, c6, rfl, ra1, ra2, ra3, ra4⟩
  have b4 := bxb w3 (.cells #[.int .i64 RO.st, .slice A5 RO.sg.length c5, .slice A6 RO.ou.length c6, .int .i64 RO.co] 32)
  have R4 := hid (show AtR w1 w1.heap.size w3.heap.size (.slice VA vl vc) (.slice B ll bc) RO.st A5 RO.sg.length c5 A6 RO.ou.length c6 RO.co RO (w3.alloc (.cells #[.int .i64 RO.st, .slice A5 RO.sg.length c5, .slice A6 RO.ou.length c6, .int .i64 RO.co] 32)) from
    ⟨(P2.out.below hb P2.out.lt).below b4 (P2.out.below hb P2.out.lt).lt, box_blkO w3 RO.st A5 RO.sg.length c5 A6 RO.ou.length c6 RO.co 32, (C2.out.trans (hb.mono C2.out.size)).trans (b4.mono (C2.out.trans (hb.mono C2.out.size)).size), hat.go b4⟩)
  clear hb hO hat b4 P2 C2 cA x0 x1 ra1 ra2 ra3 ra4
  go_wp2_with fail
  generalize (w3.alloc (.cells #[.int .i64 RO.st, .slice A5 RO.sg.length c5, .slice A6 RO.ou.length c6, .int .i64 RO.co] 32)) = w4 at *
  have RD := hid (show AtR w1 w1.heap.size w3.heap.size (.slice VA vl vc) (.slice B ll bc) RO.st A5 RO.sg.length c5 A6 RO.ou.length c6 RO.co RO w4.drew from R4.out.go (Below.refl _ _).drew)
  obtain ⟨x0, x1⟩ := two R4.out.pp
  obtain ⟨y0, y1, y2, y3⟩ := fourO R4.out.qq
  by_cases h0 : RO.st = 0
  · obtain rfl : RO = ⟨0, [], [], 0⟩ := hzero.out h0
    clear hend hless hzero cT cB x0 x1 y0 y1 y2 y3 RD
    have hzw := fun (W : World) => (show OcAt W W.heap.size (.agg #[.int .i64 0, .slice none 0 0, .slice none 0 0, .int .i64 0]) ⟨0, [], [], 0⟩ from ⟨none, 0, none, 0, rfl, Rd.nil_, by simp, Rd.nil_, by simp⟩)
    have stepQ := hid (fun (W : World) (R : AtR w1 w1.heap.size w3.heap.size (.slice VA vl vc) (.slice B ll bc) 0 A5 0 c5 A6 0 c6 0 ⟨0, [], [], 0⟩ W) (d : Nat) (os : Array Obj) => show AtR w1 w1.heap.size w3.heap.size (.slice VA vl vc) (.slice B ll bc) 0 A5 0 c5 A6 0 c6 0 ⟨0, [], [], 0⟩ (grow (redrawn W d) os) from R.go (below_regrown W d os))
    have q1 := hid (fun (W : World) (R : AtR w1 w1.heap.size w3.heap.size (.slice VA vl vc) (.slice B ll bc) 0 A5 0 c5 A6 0 c6 0 ⟨0, [], [], 0⟩ W) (d : Nat) (os : Array Obj) => Calls.regrown_of (d := d) (os := os) (cZ.out (grow (redrawn W d) os) (stepQ.out W R d os).cc rfl))
    have q2 := hid (fun (W : World) (R : AtR w1 w1.heap.size w3.heap.size (.slice VA vl vc) (.slice B ll bc) 0 A5 0 c5 A6 0 c6 0 ⟨0, [], [], 0⟩ W) (d : Nat) (os : Array Obj) => Calls.regrown_of (d := d) (os := os) (ieq_true ⟨0, [], [], 0⟩ (ov 0 A5 0 c5 A6 0 c6 0) (.agg #[.int .i64 0, .slice none 0 0, .slice none 0 0, .int .i64 0]) (grow (redrawn W d) os) (stepQ.out W R d os).hh (hzw _)))
    have R4 : Hid (AtR w1 w1.heap.size w3.heap.size (.slice VA vl vc) (.slice B ll bc) 0 A5 0 c5 A6 0 c6 0 ⟨0, [], [], 0⟩ w4) := R4
    have s1 := hid (q1.out w4 R4.out)
    have s2 := hid (q2.out w4 R4.out)
    obtain ⟨x0, x1⟩ := two R4.out.pp
    obtain ⟨y0, y1, y2, y3⟩ := fourO R4.out.qq
    replace x0 := cell_regrown x0
    replace x1 := cell_regrown x1
    replace y0 := cell_regrown y0
    replace y1 := cell_regrown y1
    replace y2 := cell_regrown y2
    replace y3 := cell_regrown y3
    clear h0 cZ hzw
    refine wp_region_quiet_below (by kernel_rfl) (by kernel_rfl) ?_
    repeat (go_big_quiet_step (first | (with_reducible exact s1.out _ _) | (with_reducible exact s2.out _ _)))
    refine wpQuiet_nil ?_
    intro _ hw'
    obtain ⟨⟨dq, osq⟩, hw''⟩ := hw'
    subst hw''
    have R5 := hid (stepQ.out w4 R4.out dq osq)
    clear x0 x1 y0 y1 y2 y3 s1 s2 R4
    generalize grow (redrawn w4 dq) osq = w5 at *
    have s1 := hid (q1.out w5 R5.out)
    have s2 := hid (q2.out w5 R5.out)
    obtain ⟨x0, x1⟩ := two R5.out.pp
    obtain ⟨y0, y1, y2, y3⟩ := fourO R5.out.qq
    replace x0 := cell_regrown x0
    replace x1 := cell_regrown x1
    replace y0 := cell_regrown y0
    replace y1 := cell_regrown y1
    replace y2 := cell_regrown y2
    replace y3 := cell_regrown y3
    clear q1 q2
    go_wp2_with fail
    refine wp_region_quiet_below (by kernel_rfl) (by kernel_rfl) ?_
    repeat (go_big_quiet_step (first | (with_reducible exact s1.out _ _) | (with_reducible exact s2.out _ _)))
    refine wpQuiet_nil ?_
    intro _ hw'
    obtain ⟨⟨dq2, osq2⟩, hw''⟩ := hw'
    subst hw''
    have R6 := hid (stepQ.out w5 R5.out dq2 osq2)
    clear x0 x1 y0 y1 y2 y3 s1 s2 R5
    generalize grow (redrawn w5 dq2) osq2 = w6 at *
    go_wp2_with fail
    go_ret
    exact ⟨rfl, B0.out _ R6.out.cc⟩
  · have t0 : (RO.st == 0) = false := beq_false_of_ne h0
    clear cZ hzero
    obtain ⟨b4, hb4⟩ : ∃ b4, (f == 400) = b4 := ⟨_, rfl⟩
    go_cut [35] from 20 to 35 (fun s35 wx => s35 = .bool b4 ∧ AtR w1 w1.heap.size w3.heap.size (.slice VA vl vc) (.slice B ll bc) RO.st A5 RO.sg.length c5 A6 RO.ou.length c6 RO.co RO wx)
    case first =>
      clear hend hless cB
      go_region_law (go_simp; first
        | (go_at_call 11; refine (cT.out _ RD.out.cc).mono ?_; rintro e w5 ⟨r, rfl, o, hb⟩; have R5 := hid (RD.out.go hb); have o := o.at_; obtain ⟨A7, c7, A8, c8, rfl, o1, o2, o3, o4⟩ := o; have K5 := hid (show OcAt w5 w5.heap.size (ov RO.st A7 RO.sg.length c7 A8 RO.ou.length c8 RO.co) RO from ⟨A7, c7, A8, c8, rfl, o1, o2, o3, o4⟩); clear hb o1 o2 o3 o4; obtain ⟨i0, i1⟩ := two R5.out.pp; obtain ⟨j0, j1, j2, j3⟩ := fourO R5.out.qq)
        | (go_at_call 10; refine (ieq_true RO _ _ w5 R5.out.hh K5.out).mono ?_; rintro e w6 ⟨rfl, hb⟩; have R6 := hid (R5.out.go hb); clear hb; obtain ⟨m0, m1⟩ := two R6.out.pp; obtain ⟨n0, n1, n2, n3⟩ := fourO R6.out.qq))
      all_goals
        have R6 := hid R6
        clear x0 x1 y0 y1 y2 y3 i0 i1 j0 j1 j2 j3 m0 m1 n0 n1 n2 n3
        go_wp2_with fail
        go_meet
        exact ⟨rfl, R6.out.out⟩
    case rest =>
      obtain ⟨rfl, hR⟩ := hcut
      clear R4 RD x0 x1 y0 y1 y2 y3
      have R6 := hid hR
      clear hR
      cases b4 with
      | true =>
        have RD := hid (R6.out.go (Below.refl _ _).drew)
        obtain ⟨x0, x1⟩ := two R6.out.pp
        obtain ⟨y0, y1, y2, y3⟩ := fourO R6.out.qq
        clear hend hless cB
        go_wp2_with fail
        go_region_law (go_simp; first
          | (go_at_call 11; refine (cT.out _ RD.out.cc).mono ?_; rintro e w5 ⟨r, rfl, o, hb⟩; have R5 := hid (RD.out.go hb); have o := o.at_; obtain ⟨A7, c7, A8, c8, rfl, o1, o2, o3, o4⟩ := o; have K5 := hid (show OcAt w5 w5.heap.size (ov RO.st A7 RO.sg.length c7 A8 RO.ou.length c8 RO.co) RO from ⟨A7, c7, A8, c8, rfl, o1, o2, o3, o4⟩); clear hb o1 o2 o3 o4; obtain ⟨i0, i1⟩ := two R5.out.pp; obtain ⟨j0, j1, j2, j3⟩ := fourO R5.out.qq)
          | (go_at_call 10; refine (ieq_true RO _ _ w5 R5.out.hh K5.out).mono ?_; rintro e w6 ⟨rfl, hb⟩; have R6 := hid (R5.out.go hb); clear hb; obtain ⟨m0, m1⟩ := two R6.out.pp; obtain ⟨n0, n1, n2, n3⟩ := fourO R6.out.qq))
        all_goals
          have R7 := hid R6
          clear x0 x1 y0 y1 y2 y3 i0 i1 j0 j1 j2 j3 m0 m1 n0 n1 n2 n3
          go_wp2_with fail
          go_ret
          exact ⟨rfl, B0.out _ R7.out.out.cc⟩
      | false =>
        have hf4 : f ≠ 400 := by simpa using hb4
        obtain ⟨x0, x1⟩ := two R6.out.pp
        obtain ⟨y0, y1, y2, y3⟩ := fourO R6.out.qq
        clear cT
        go_wp2_with fail
        refine (cB.out wc R6.out.cc).mono ?_
        rintro e w7 ⟨r, rfl, hO, hb⟩
        obtain ⟨A7, c7, A8, c8, rfl, o1, o2, o3, o4, o5, o6⟩ := own_cap hO
        have K7 := hid (show OcAt w7 w7.heap.size (ov RP.st A7 RP.sg.length c7 A8 RP.ou.length c8 RP.co) RP from ⟨A7, c7, A8, c8, rfl, o1, o2, o3, o4⟩)
        have R7 := hid (R6.out.go hb)
        have b8 := bxb w7 (.cells #[.int .i64 RP.st, .slice A7 RP.sg.length c7, .slice A8 RP.ou.length c8, .int .i64 RP.co] 32)
        have R8 := hid (R7.out.go b8)
        have K8 := hid (K7.out.go b8)
        have Q8 := hid (box_blkO w7 RP.st A7 RP.sg.length c7 A8 RP.ou.length c8 RP.co 32)
        clear hb hO b8 cB x0 x1 y0 y1 y2 y3 o1 o2 o3 o4
        obtain ⟨y0, y1, y2, y3⟩ := fourO R8.out.qq
        obtain ⟨z0, z1, z2, z3⟩ := fourO Q8.out
        by_cases h3 : RO.st = 3
        · have d3 : (RO.st != 3) = false := by simp [h3]
          have hE := hid (hless.out hf4 h3)
          clear hless hend h3
          go_wp2_with fail
          generalize (w7.alloc (.cells #[.int .i64 RP.st, .slice A7 RP.sg.length c7, .slice A8 RP.ou.length c8, .int .i64 RP.co] 32)) = w8 at *
          obtain ⟨e1, e2, t, e3⟩ := hE.out
          clear hE
          have hm : RO.ou.length ≤ RP.ou.length := by rw [e3, List.length_append]; omega
          have r6 := (oc_ou R8.out.hh).1
          have r8 := (oc_ou K8.out).1
          have hl8 := (oc_ou K8.out).2
          have r8' : Rd w8 w8.heap.size A8 (RO.ou.map iv) := by
            rw [e3, List.map_append] at r8
            exact rd_pre r8
          have stepQ := hid (fun (d : Nat) (os : Array Obj) => show Below w1.heap.size w1 (grow (redrawn w8 d) os) from (R8.out.go (below_regrown w8 d os)).cc)
          have hl6 : RO.ou.length ≤ I63 := by unfold I63 at hl8 ⊢; omega
          have q1 := hid (fun (d : Nat) (os : Array Obj) => Calls.regrown_of (d := d) (os := os) (same_any RO.ou A8 A6 c8 c6 (grow (redrawn w8 d) os) hl6 (rd_go r8' (below_regrown w8 d os)) (rd_go r6 (below_regrown w8 d os))))
          clear r6 r8 r8' e3 K7 R7 R8 K8 Q8 R6
          generalize RP.ou.length = n8 at *
          generalize RO.ou.length = n6 at *
          rw [e2] at z3
          rw [e1] at y3
          have d4 : (f == f) = true := beq_self_eq_true f
          have d5 : (f + 1 == f + 1) = true := beq_self_eq_true (f + 1)
          have d6 : decide ((n6 : Int) ≤ (n8 : Int)) = true := decide_eq_true (by omega)
          clear e1 e2
          replace y0 := cell_regrown y0
          replace y1 := cell_regrown y1
          replace y2 := cell_regrown y2
          replace y3 := cell_regrown y3
          replace z0 := cell_regrown z0
          replace z1 := cell_regrown z1
          replace z2 := cell_regrown z2
          replace z3 := cell_regrown z3
          refine wp_region_quiet_below (by kernel_rfl) (by kernel_rfl) ?_
          repeat (go_big_quiet_step (first | (with_reducible exact q1.out _ _)))
          refine wpQuiet_nil ?_
          intro _ hw'
          obtain ⟨⟨dq, osq⟩, hw''⟩ := hw'
          subst hw''
          have R9 := hid (stepQ.out dq osq)
          clear y0 y1 y2 y3 z0 z1 z2 z3
          generalize grow (redrawn w8 dq) osq = w9 at *
          go_wp2_with fail
          go_ret
          exact ⟨rfl, B0.out _ R9.out⟩
        · have d3 : (RO.st != 3) = true := bne_iff_ne.mpr h3
          obtain rfl : RP = RO := hend.out h0 hf4 h3
          clear hend hless
          go_wp2_with fail
          generalize (w7.alloc (.cells #[.int .i64 RP.st, .slice A7 RP.sg.length c7, .slice A8 RP.ou.length c8, .int .i64 RP.co] 32)) = w8 at *
          have cE := hid (seq_true RP _ _ w8 R8.out.hh K8.out)
          refine cE.out.mono ?_
          rintro e w9 ⟨rfl, hb⟩
          have R9 := hid (R8.out.go hb)
          clear hb cE y0 y1 y2 y3 z0 z1 z2 z3
          go_wp2_with fail
          go_ret
          exact ⟨rfl, B0.out _ R9.out.cc⟩
end Go.Proofs.YtnmomlaimffonaaGreat.FnRuns
