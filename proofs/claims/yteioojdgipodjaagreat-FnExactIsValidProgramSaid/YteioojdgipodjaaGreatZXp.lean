/- The program's comparison of programs; its list of assigned variables. -/
import Derived.Test.YteioojdgipodjaaGreatZEqs
import Derived.Test.YteioojdgipodjaaGreatZXs
import Derived.Deep.QuietTactic
set_option maxRecDepth 100000
namespace Go.Proofs.YteioojdgipodjaaGreat.Gd
open Go.RowKit Go.Lib Go.Sort Go.Proofs.YteioojdgipodjaaGreat.Com Go.Proofs.YteioojdgipodjaaGreat.Mem Go.Proofs.YteioojdgipodjaaGreat.Os Go.Proofs.YteioojdgipodjaaGreat.Tr Go.Proofs.YteioojdgipodjaaGreat.Pl Go.Proofs.YteioojdgipodjaaGreat.Kd Go.Proofs.YteioojdgipodjaaGreat.Gs

set_option maxHeartbeats 2000000 in
theorem islices (V V' : List (List UInt8)) (hV : V.length ≤ maxI) (A A' : Option Addr) (c c' : Nat) (w : World) (hr : Rd w w.heap.size A (V.map sv)) (hr' : Rd w w.heap.size A' (V'.map sv)) (hV' : V'.length ≤ maxI) :
    Calls Tryz.prog 30 #[.slice A V.length c, .slice A' V'.length c'] w fun e w' => e = .returned (.bool (decide (V = V'))) ∧ Below w.heap.size w w' := by
  by_cases hne : V.length ≠ V'.length
  · have t1 : ((V.length : Int) != (V'.length : Int)) = true := bne_iff_ne.2 (by omega)
    have hf := hid (show decide (V = V') = false from decide_eq_false fun e => hne (by rw [e]))
    clear hne
    go_enter Tryz.func30, Tryz.ntmps30
    go_wp2_with fail
    go_ret
    exact ⟨by rw [hf.out]; rfl, Below.refl _ _⟩
  have heq : V'.length = V.length := Classical.byContradiction fun h => hne (fun e => h e.symm)
  have hl63 : V.length ≤ 9223372036854775807 := hV
  clear hne
  generalize hL : V.length = n at *
  rw [heq] at hV' ⊢
  have hcmp : ((n : Int) != (n : Int)) = false := bne_self_eq_false _
  replace heq := hid heq
  go_enter Tryz.func30, Tryz.ntmps30
  go_wp2_with fail
  go_loopw [13] (fun i wr => ∃ m : Nat, m ≤ n ∧ i = .int .i64 m ∧ V.take m = V'.take m ∧ Below w.heap.size w wr) (fun i _ => n - (Go.RowKit.intOf i).toNat)
  case atStart => exact ⟨0, Nat.zero_le _, rfl, by simp, Below.refl _ _⟩
  case round =>
    obtain ⟨m, hm, rfl, htk, hb⟩ := hrel
    by_cases hlt : m < n
    · have hm1 : m < V.length := by omega
      have hm2 : m < V'.length := by have := heq.out; omega
      obtain ⟨ad1, rfl, _, hc1⟩ := Lh.rd_str (hr.below hb) hm1
      obtain ⟨ad2, rfl, _, hc2⟩ := Lh.rd_str (hr'.below hb) hm2
      cases hq : (V[m] == V'[m]) with
      | true =>
        have n1 := sneq_of _ hq
        have hnx := hid (show V.take (m + 1) = V'.take (m + 1) by
          rw [List.take_succ_eq_append_getElem hm1, List.take_succ_eq_append_getElem hm2, htk, beq_iff_eq.1 hq])
        replace htk := hid htk
        generalize V[m] = x at *
        generalize V'[m] = y at *
        go_wp2_with fail
        go_quiet (fail)
        go_wp2_with fail
        exact ⟨⟨m + 1, hlt, by go_num, hnx.out, bdr hb nq⟩, by simp [Go.RowKit.intOf]; omega⟩
      | false =>
        have n1 := sneq_of _ hq
        have hf := hid (show decide (V = V') = false from decide_eq_false fun e => by
          subst e
          rw [beq_self_eq_true] at hq; cases hq)
        replace htk := hid htk
        generalize V[m] = x at *
        generalize V'[m] = y at *
        go_wp2_with fail
        go_quiet (fail)
        go_wp2_with fail
        go_ret
        exact ⟨by rw [hf.out]; rfl, bdr hb nq⟩
    · obtain rfl : m = n := by omega
      have hf := hid (show decide (V = V') = true from decide_eq_true (by
        rw [List.take_of_length_le (by omega), List.take_of_length_le (by rw [heq.out]; exact Nat.le_refl _)] at htk; exact htk))
      clear htk
      go_wp2_with fail
      go_ret
      exact ⟨by rw [hf.out]; rfl, hb⟩
/-- nodes that are there have expressions as large as the whole at most -/
theorem sub_ex {u t : St} (h : Kd.Sub kdS u t) : ∀ k s e bs es, u = .mk k s e bs es → cntT e ≤ exSt t := by
  induction h with
  | here =>
    rintro k s e bs es rfl
    rw [exSt_mk]; omega
  | @kid t a l h1 h2 h ih =>
    intro k s e bs es hu
    have h3 := ih k s e bs es hu
    have h4 := exSt_mem h2
    obtain ⟨k', s', e', bs', es'⟩ := t
    rw [exSt_mk]
    have h1 : l ∈ [bs', es'] := h1
    rcases List.mem_cons.1 h1 with rfl | h1
    · omega
    · rw [List.mem_singleton] at h1; subst h1; omega
theorem all_ok {L : List St} (h : exL L ≤ 4000000) : AllOk L := fun u ⟨a, ha, hs⟩ => by
  obtain ⟨k, s, e, bs, es⟩ := u
  have h1 := sub_ex hs k s e bs es rfl
  have h2 := exSt_mem ha
  show cntT e ≤ 4000000
  omega
/-- a program whose body lies in plain blocks -/
structure PgIn (w : World) (v : Value) (p : Pg) : Prop where
  ex : ∃ A c Bb cb, v = .agg #[.slice A p.vs.length c, .slice Bb p.body.length cb] ∧ Rd w w.heap.size A (p.vs.map sv) ∧ p.vs.length ≤ maxI ∧ (∀ x ∈ p.vs, x.length ≤ maxI) ∧ LA (pln w) w.heap.size ⟨Bb, cb, p.body⟩
theorem PgIn.go {w w' : World} {v : Value} {p : Pg} (h : PgIn w v p) (hb : Below w.heap.size w w') : PgIn w' v p := by
  obtain ⟨A, c, Bb, cb, e, h1, h2, h3, h4⟩ := h
  exact ⟨A, c, Bb, cb, e, (h1.below hb).more hb.size, h2, h3, la_mono h4 hb⟩
theorem OwnP.in_ {lo hi : Nat} {w : World} {v : Value} {p : Pg} (h : OwnP lo hi w v p) : PgIn w v p := by
  obtain ⟨cs, rfl, hr⟩ := h
  obtain ⟨A, c, Bb, cb, rows, rfl, h1, h2, h3, h4, h5⟩ := pg_inv (own_plnD hr)
  have h1' : Rd w w.heap.size A (p.vs.map sv) := fun hne => by
    obtain ⟨ad, e, hb, hc⟩ := h1 hne
    exact ⟨ad, e, hb, fun j u hu => (pln_cell (hc j u hu)).1⟩
  exact ⟨A, c, Bb, cb, rfl, h1', h3.1, h2, la_row h4 h5⟩
set_option maxHeartbeats 4000000 in
theorem iequalP (p q : Pg) (v v' : Value) (w : World) (h : PgIn w v p) (h' : PgIn w v' q) (hbd : cntL p.body ≤ 4000000) (hex : exL p.body ≤ 4000000) :
    Calls Tryz.prog 9 #[v, v'] w fun e w' => e = .returned (.bool (sameP p q)) ∧ Below w.heap.size w w' := by
  obtain ⟨A, c, Bb, cb, rfl, h1, h2, h3, h4⟩ := h
  obtain ⟨A', c', Bb', cb', rfl, h1', h2', h3', h4'⟩ := h'
  have s1 := size_alloc' w (.cells #[.slice A p.vs.length c, .slice Bb p.body.length cb] 27)
  have b1 := box_below w (.cells #[.slice A p.vs.length c, .slice Bb p.body.length cb] 27)
  have b2 := b1.trans ((box_below _ (.cells #[.slice A' q.vs.length c', .slice Bb' q.body.length cb'] 27)).mono b1.size)
  have B1 := (Blk.new w 27 [.slice A p.vs.length c, .slice Bb p.body.length cb]).alloc (.cells #[.slice A' q.vs.length c', .slice Bb' q.body.length cb'] 27)
  have B2 := Blk.new (w.alloc (.cells #[.slice A p.vs.length c, .slice Bb p.body.length cb] 27)) 27 [.slice A' q.vs.length c', .slice Bb' q.body.length cb']
  rw [s1] at B2
  have hv := hid (islices p.vs q.vs h2 A A' c c' ((w.alloc (.cells #[.slice A p.vs.length c, .slice Bb p.body.length cb] 27)).alloc (.cells #[.slice A' q.vs.length c', .slice Bb' q.body.length cb'] 27)) ((h1.below b2).more b2.size) ((h1'.below b2).more b2.size) h2')
  have ht := hid (fun (W : World) (hW : Below w.heap.size w W) => iequalT ⟨Bb, cb, p.body⟩ ⟨Bb', cb', q.body⟩ W (la_mono h4 hW) (la_mono h4' hW) (all_ok hex) (by show kdS.cntL p.body ≤ _; rw [cntL_S]; exact hbd))
  have hR := hid (show sameP p q = (decide (p.vs = q.vs) && eqLs kqS.eq p.body q.body) by unfold sameP; rw [sameSL_eqLs]; rfl)
  generalize sameP p q = R at *
  generalize eqLs kqS.eq p.body q.body = R2 at *
  replace b2 := hid b2
  replace B1 := hid B1
  replace B2 := hid B2
  have p0 := B1.out.cell 0
  have p1 := B1.out.cell 1
  have r0 := B2.out.cell 0
  have r1 := B2.out.cell 1
  clear h1 h2 h3 h4 h1' h2' h3' h4' hbd hex s1 b1
  cases hq : decide (p.vs = q.vs) with
  | false =>
    rw [hq] at hv hR
    clear hq ht
    go_enter Tryz.func9, Tryz.ntmps9
    go_wp2_with fail
    refine hv.out.mono ?_
    rintro e w2 ⟨rfl, hb2⟩
    have hb3 := hid (b2.out.trans (hb2.mono b2.out.size))
    clear hb2
    go_wp2_with fail
    go_ret
    exact ⟨by rw [hR.out]; rfl, hb3.out⟩
  | true =>
    rw [hq] at hv hR
    clear hq
    go_enter Tryz.func9, Tryz.ntmps9
    go_wp2_with fail
    refine hv.out.mono ?_
    rintro e w2 ⟨rfl, hb2⟩
    have hb3 := hid (b2.out.trans (hb2.mono b2.out.size))
    have p0' := (B1.out.below hb2 B1.out.lt).cell 0
    have p1' := (B1.out.below hb2 B1.out.lt).cell 1
    have r0' := (B2.out.below hb2 B2.out.lt).cell 0
    have r1' := (B2.out.below hb2 B2.out.lt).cell 1
    clear hb2 p0 p1 r0 r1
    go_wp2_with fail
    refine (ht.out _ hb3.out).mono ?_
    rintro e w3 ⟨rfl, hb4⟩
    have hb5 := hid (hb3.out.trans (hb4.mono hb3.out.size))
    clear hb4
    go_wp2_with fail
    go_ret
    exact ⟨by rw [hR.out, Bool.true_and]; rfl, hb5.out⟩
theorem iequalP_own {lo hi lo' hi' : Nat} {v v' : Value} {p q : Pg} (w : World) (h : OwnP lo hi w v p) (h' : OwnP lo' hi' w v' q) (hz : szP8 p ≤ 1048576) : Calls Tryz.prog 9 #[v, v'] w fun e w' => e = .returned (.bool (sameP p q)) ∧ Below w.heap.size w w' := by
  have h1 := szP8_body p
  have h2 := cnt_sz8 p.body
  have h3 := ex_szDL p.body
  exact iequalP p q v v' w h.in_ h'.in_ (by omega) (by unfold szL8 at h1; omega)
end Go.Proofs.YteioojdgipodjaaGreat.Gd
