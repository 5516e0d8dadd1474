/- Outcomes: two lists of integers between two integers; measured, copied, compared and marked by the laws. -/
import Derived.Test.YtnmomlaimffonaaGreatZOi
set_option maxHeartbeats 2000000
set_option maxRecDepth 100000
namespace Go.Proofs.YtnmomlaimffonaaGreat.Oc
open Go.RowKit Go.Lib Go.Sort Com Mem YtnmomlaimffonaaGreat.Os Ow
structure Oc where
  st : Int
  sg : List Int
  ou : List Int
  co : Int
abbrev ov (st : Int) (A : Option Addr) (l c : Nat) (A' : Option Addr) (l' c' : Nat) (co : Int) : Value := .agg #[.int .i64 st, .slice A l c, .slice A' l' c', .int .i64 co]
abbrev I63 : Nat := 9223372036854775807
theorem bxb (w : World) (o : Obj) : Below w.heap.size w (w.alloc o) := (Below.refl _ _).alloc (Nat.le_refl _) _
theorem fourO {w : World} {g ty : Nat} {a b c d : Value} (h : Blk w g ty [a, b, c, d]) : w.cell? ⟨g, 0, none⟩ = some a ∧ w.cell? ⟨g, 1, none⟩ = some b ∧ w.cell? ⟨g, 2, none⟩ = some c ∧ w.cell? ⟨g, 3, none⟩ = some d := ⟨h.cell 0, h.cell 1, h.cell 2, h.cell 3⟩
theorem box_blkO (w : World) (st : Int) (A : Option Addr) (l c : Nat) (A' : Option Addr) (l' c' : Nat) (co : Int) (ty : TypeId) : Blk (w.alloc (.cells #[.int .i64 st, .slice A l c, .slice A' l' c', .int .i64 co] ty)) w.heap.size ty [.int .i64 st, .slice A l c, .slice A' l' c', .int .i64 co] := Blk.new w ty _
def OcAt (w : World) (B : Nat) (v : Value) (o : Oc) : Prop := ∃ A c A' c', v = ov o.st A o.sg.length c A' o.ou.length c' o.co ∧ Rd w B A (o.sg.map iv) ∧ o.sg.length ≤ I63 ∧ Rd w B A' (o.ou.map iv) ∧ o.ou.length ≤ I63
theorem OcAt.go {w w' : World} {v : Value} {o : Oc} (h : OcAt w w.heap.size v o) (hb : Below w.heap.size w w') : OcAt w' w'.heap.size v o := by
  obtain ⟨A, c, A', c', e, h1, h2, h3, h4⟩ := h
  exact ⟨A, c, A', c', e, (h1.below hb).more hb.size, h2, (h3.below hb).more hb.size, h4⟩
def OwnOc (lo hi : Nat) (w : World) (v : Value) (o : Oc) : Prop := ∃ vS vO m, v = .agg #[.int .i64 o.st, vS, vO, .int .i64 o.co] ∧ lo ≤ m ∧ m ≤ hi ∧ OwnI lo m w vS o.sg ∧ OwnI m hi w vO o.ou
section
variable {lo hi : Nat} {w w' : World} {v : Value} {o : Oc}
theorem OwnOc.at_ (h : OwnOc lo hi w v o) : OcAt w w.heap.size v o := by
  obtain ⟨vS, vO, m, e, h1, h2, h3, h4⟩ := h
  obtain ⟨A, c, rfl, r1, l1, m1, _⟩ := h3.read_
  obtain ⟨A', c', rfl, r2, l2, m2, _⟩ := h4.read_
  exact ⟨A, c, A', c', e, r1, by unfold maxLen at m1; unfold I63; omega, r2, by unfold maxLen at m2; unfold I63; omega⟩
end
abbrev OT : TypeId := 32
abbrev putO (w : World) (b : Nat) (st : Int) (vS vO : Value) (co : Int) : World := (((w.setCell ⟨b, 0, none⟩ (.int .i64 st)).setCell ⟨b, 1, none⟩ vS).setCell ⟨b, 2, none⟩ vO).setCell ⟨b, 3, none⟩ (.int .i64 co)
theorem putO_at {w a : World} {b lo : Nat} {z0 z1 z2 z3 : Value} (h : Blk w b OT [z0, z1, z2, z3]) (hb : Below lo a w) (hl : lo ≤ b) (st : Int) (vS vO : Value) (co : Int) :
    Blk (putO w b st vS vO co) b OT [.int .i64 st, vS, vO, .int .i64 co] ∧ Below lo a (putO w b st vS vO co) ∧ (∀ k, k ≠ b → (putO w b st vS vO co).heap[k]? = w.heap[k]?) ∧ (putO w b st vS vO co).heap.size = w.heap.size :=
  ⟨(((h.set_ 0 _).set_ 1 _).set_ 2 _).set_ 3 _, (((hb.setCell (p := ⟨b, 0, none⟩) hl _).setCell (p := ⟨b, 1, none⟩) hl _).setCell (p := ⟨b, 2, none⟩) hl _).setCell (p := ⟨b, 3, none⟩) hl _,
    fun k hk => by rw [heap_setCell_other _ _ _ _ hk, heap_setCell_other _ _ _ _ hk, heap_setCell_other _ _ _ _ hk, heap_setCell_other _ _ _ _ hk], by simp [World.setCell]⟩
theorem rd_i {w : World} {B : Nat} {A : Option Addr} {l : List Int} (h : Rd w B A (l.map iv)) {k : Nat} (hk : k < l.length) : ∃ ad, A = some ad ∧ w.cell? (ad.add k) = some (.int .i64 l[k]) := by
  obtain ⟨ad, e, _, hc⟩ := rd_int h hk
  exact ⟨ad, e, hc⟩
theorem l1Ints_any (V V' : List Int) (A A' : Option Addr) (c c' : Nat) (w : World) (hV : V.length ≤ I63) (hV' : V'.length ≤ I63) (hr : Rd w w.heap.size A (V.map iv)) (hr' : Rd w w.heap.size A' (V'.map iv)) :
    Calls Tryz.prog 39 #[.slice A V.length c, .slice A' V'.length c'] w fun e w' => e = .returned (.bool (decide (V = V'))) ∧ Below w.heap.size w w' := by
  by_cases hne : V.length ≠ V'.length
  · have t1 : ((V.length : Int) != (V'.length : Int)) = true := bne_iff_ne.2 (by omega)
    have hf := hid (show decide (V = V') = false from decide_eq_false fun e => hne (by rw [e]))
    clear hne
    go_enter Tryz.func39, Tryz.ntmps39
    go_wp2_with fail
    go_ret
    exact ⟨by rw [hf.out]; rfl, Below.refl _ _⟩
  have heq : V'.length = V.length := Classical.byContradiction fun h => hne (fun e => h e.symm)
  have hl63 : V.length ≤ 9223372036854775807 := hV
  clear hne
  generalize hL : V.length = n at *
  rw [heq] at hV' ⊢
  have hcmp : ((n : Int) != (n : Int)) = false := bne_self_eq_false _
  replace heq := hid heq
  go_enter Tryz.func39, Tryz.ntmps39
  go_wp2_with fail
  go_loopw [5] (fun i wr => ∃ m : Nat, m ≤ n ∧ i = .int .i64 m ∧ V.take m = V'.take m ∧ Below w.heap.size w wr) (fun i _ => n - (Go.RowKit.intOf i).toNat)
  case atStart => exact ⟨0, Nat.zero_le _, rfl, by simp, Below.refl _ _⟩
  case round =>
    obtain ⟨m, hm, rfl, htk, hb⟩ := hrel
    by_cases hlt : m < n
    · have hm1 : m < V.length := by omega
      have hm2 : m < V'.length := by have := heq.out; omega
      obtain ⟨ad1, rfl, hc1⟩ := rd_i (hr.below hb) hm1
      obtain ⟨ad2, rfl, hc2⟩ := rd_i (hr'.below hb) hm2
      by_cases hq : V[m] = V'[m]
      · have n1 : (V[m] != V'[m]) = false := by rw [hq]; exact bne_self_eq_false _
        have hnx := hid (show V.take (m + 1) = V'.take (m + 1) by
          rw [List.take_succ_eq_append_getElem hm1, List.take_succ_eq_append_getElem hm2, htk, hq])
        replace htk := hid htk
        clear hq
        generalize V[m] = x at *
        generalize V'[m] = y at *
        go_wp2_with fail
        go_quiet (fail)
        go_wp2_with fail
        exact ⟨⟨m + 1, hlt, by go_num, hnx.out, bdr hb nq⟩, by simp [Go.RowKit.intOf]; omega⟩
      · have n1 : (V[m] != V'[m]) = true := bne_iff_ne.2 hq
        have hf := hid (show decide (V = V') = false from decide_eq_false fun e => by
          subst e
          exact hq rfl)
        replace htk := hid htk
        clear hq
        generalize V[m] = x at *
        generalize V'[m] = y at *
        go_wp2_with fail
        go_quiet (fail)
        go_wp2_with fail
        go_ret
        exact ⟨by rw [hf.out]; rfl, bdr hb nq⟩
    · obtain rfl : m = n := by omega
      have hf := hid (show decide (V = V') = true from decide_eq_true (by
        rw [List.take_of_length_le (by omega), List.take_of_length_le (by rw [heq.out]; exact Nat.le_refl _)] at htk; exact htk))
      clear htk
      go_wp2_with fail
      go_ret
      exact ⟨by rw [hf.out]; rfl, hb⟩
theorem slicesEq_any (V V' : List Int) (A A' : Option Addr) (c c' : Nat) (w : World) (hV : V.length ≤ I63) (hV' : V'.length ≤ I63) (hr : Rd w w.heap.size A (V.map iv)) (hr' : Rd w w.heap.size A' (V'.map iv)) :
    Calls Tryz.prog 34 #[.slice A V.length c, .slice A' V'.length c'] w fun e w' => e = .returned (.bool (decide (V = V'))) ∧ Below w.heap.size w w' := by
  by_cases hne : V.length ≠ V'.length
  · have t1 : ((V.length : Int) != (V'.length : Int)) = true := bne_iff_ne.2 (by omega)
    have hf := hid (show decide (V = V') = false from decide_eq_false fun e => hne (by rw [e]))
    clear hne
    go_enter Tryz.func34, Tryz.ntmps34
    go_wp2_with fail
    go_ret
    exact ⟨by rw [hf.out]; rfl, Below.refl _ _⟩
  have heq : V'.length = V.length := Classical.byContradiction fun h => hne (fun e => h e.symm)
  have hl63 : V.length ≤ 9223372036854775807 := hV
  clear hne
  generalize hL : V.length = n at *
  rw [heq] at hV' ⊢
  have hcmp : ((n : Int) != (n : Int)) = false := bne_self_eq_false _
  replace heq := hid heq
  go_enter Tryz.func34, Tryz.ntmps34
  go_wp2_with fail
  go_loopw [13] (fun i wr => ∃ m : Nat, m ≤ n ∧ i = .int .i64 m ∧ V.take m = V'.take m ∧ Below w.heap.size w wr) (fun i _ => n - (Go.RowKit.intOf i).toNat)
  case atStart => exact ⟨0, Nat.zero_le _, rfl, by simp, Below.refl _ _⟩
  case round =>
    obtain ⟨m, hm, rfl, htk, hb⟩ := hrel
    by_cases hlt : m < n
    · have hm1 : m < V.length := by omega
      have hm2 : m < V'.length := by have := heq.out; omega
      obtain ⟨ad1, rfl, hc1⟩ := rd_i (hr.below hb) hm1
      obtain ⟨ad2, rfl, hc2⟩ := rd_i (hr'.below hb) hm2
      by_cases hq : V[m] = V'[m]
      · have n1 : (V[m] != V'[m]) = false := by rw [hq]; exact bne_self_eq_false _
        have hnx := hid (show V.take (m + 1) = V'.take (m + 1) by
          rw [List.take_succ_eq_append_getElem hm1, List.take_succ_eq_append_getElem hm2, htk, hq])
        replace htk := hid htk
        clear hq
        generalize V[m] = x at *
        generalize V'[m] = y at *
        go_wp2_with fail
        go_quiet (fail)
        go_wp2_with fail
        exact ⟨⟨m + 1, hlt, by go_num, hnx.out, bdr hb nq⟩, by simp [Go.RowKit.intOf]; omega⟩
      · have n1 : (V[m] != V'[m]) = true := bne_iff_ne.2 hq
        have hf := hid (show decide (V = V') = false from decide_eq_false fun e => by
          subst e
          exact hq rfl)
        replace htk := hid htk
        clear hq
        generalize V[m] = x at *
        generalize V'[m] = y at *
        go_wp2_with fail
        go_quiet (fail)
        go_wp2_with fail
        go_ret
        exact ⟨by rw [hf.out]; rfl, bdr hb nq⟩
    · obtain rfl : m = n := by omega
      have hf := hid (show decide (V = V') = true from decide_eq_true (by
        rw [List.take_of_length_le (by omega), List.take_of_length_le (by rw [heq.out]; exact Nat.le_refl _)] at htk; exact htk))
      clear htk
      go_wp2_with fail
      go_ret
      exact ⟨by rw [hf.out]; rfl, hb⟩
def eqOB (o p : Oc) : Bool := (o.st == p.st) && (decide (o.sg = p.sg) && (decide (o.ou = p.ou) && (o.co == p.co)))
theorem eqOB_self (o : Oc) : eqOB o o = true := by unfold eqOB; simp
theorem sEqO (o p : Oc) (v v' : Value) (w : World) (h : OcAt w w.heap.size v o) (h' : OcAt w w.heap.size v' p) :
    Calls Tryz.prog 12 #[v, v'] w fun e w' => e = .returned (.bool (eqOB o p)) ∧ Below w.heap.size w w' := by
  obtain ⟨A, c, A', c', rfl, r1, l1, r2, l2⟩ := h
  obtain ⟨D, d, D', d', rfl, r3, l3, r4, l4⟩ := h'
  obtain ⟨st, sg, ou, co⟩ := o
  obtain ⟨su, tg, pu, cp⟩ := p
  dsimp only at *
  have b1 := bxb w (.cells #[.int .i64 st, .slice A sg.length c, .slice A' ou.length c', .int .i64 co] 32)
  have z1 := size_alloc' w (.cells #[.int .i64 st, .slice A sg.length c, .slice A' ou.length c', .int .i64 co] 32)
  have b2 := b1.trans ((bxb (w.alloc (.cells #[.int .i64 st, .slice A sg.length c, .slice A' ou.length c', .int .i64 co] 32)) (.cells #[.int .i64 su, .slice D tg.length d, .slice D' pu.length d', .int .i64 cp] 32)).mono (by omega))
  have x1 := (box_blkO w st A sg.length c A' ou.length c' co 32).alloc (.cells #[.int .i64 su, .slice D tg.length d, .slice D' pu.length d', .int .i64 cp] 32)
  have x2 := box_blkO (w.alloc (.cells #[.int .i64 st, .slice A sg.length c, .slice A' ou.length c', .int .i64 co] 32)) su D tg.length d D' pu.length d' cp 32
  rw [z1] at x2
  have cS := hid (fun wx (hb : Below w.heap.size w wx) => l1Ints_any sg tg A D c d wx l1 l3 ((r1.below hb).more hb.size) ((r3.below hb).more hb.size))
  have cO := hid (fun wx (hb : Below w.heap.size w wx) => l1Ints_any ou pu A' D' c' d' wx l2 l4 ((r2.below hb).more hb.size) ((r4.below hb).more hb.size))
  have hR : eqOB ⟨st, sg, ou, co⟩ ⟨su, tg, pu, cp⟩ = ((st == su) && (decide (sg = tg) && (decide (ou = pu) && (co == cp)))) := rfl
  generalize eqOB ⟨st, sg, ou, co⟩ ⟨su, tg, pu, cp⟩ = R at *
  replace b2 := hid b2
  replace x1 := hid x1
  replace x2 := hid x2
  clear r1 r2 r3 r4 l1 l2 l3 l4 b1 z1
  generalize hm1 : (st == su) = q1 at *
  cases q1 with
  | false =>
    rw [Bool.false_and] at hR
    replace hR := hid hR
    clear cS cO
    go_enter Tryz.func12, Tryz.ntmps12
    obtain ⟨k0, k1, k2, k3⟩ := fourO x1.out
    obtain ⟨j0, j1, j2, j3⟩ := fourO x2.out
    go_wp2_with fail
    go_ret
    exact ⟨by rw [hR.out]; rfl, b2.out⟩
  | true =>
    rw [Bool.true_and] at hR
    generalize decide (sg = tg) = q2 at *
    go_enter Tryz.func12, Tryz.ntmps12
    obtain ⟨k0, k1, k2, k3⟩ := fourO x1.out
    obtain ⟨j0, j1, j2, j3⟩ := fourO x2.out
    replace hR := hid hR
    go_wp2_with fail
    refine (cS.out _ b2.out).mono ?_
    rintro e3 w3 ⟨rfl, hb⟩
    have b3 := hid (b2.out.trans (hb.mono b2.out.size))
    have y1 := hid (x1.out.below hb x1.out.lt)
    have y2 := hid (x2.out.below hb x2.out.lt)
    clear hb k0 k1 k2 k3 j0 j1 j2 j3 x1 x2 b2 cS
    obtain ⟨k0, k1, k2, k3⟩ := fourO y1.out
    obtain ⟨j0, j1, j2, j3⟩ := fourO y2.out
    cases q2 with
    | false =>
      have hR := hid (hR.out.trans (Bool.false_and _))
      go_wp2_with fail
      go_ret
      exact ⟨by rw [hR.out]; rfl, b3.out⟩
    | true =>
      have hR := hid (hR.out.trans (Bool.true_and _))
      generalize decide (ou = pu) = q3 at *
      go_wp2_with fail
      refine (cO.out _ b3.out).mono ?_
      rintro e4 w4 ⟨rfl, hb⟩
      have b4 := hid (b3.out.trans (hb.mono b3.out.size))
      have y3 := hid (y1.out.below hb y1.out.lt)
      have y4 := hid (y2.out.below hb y2.out.lt)
      clear hb k0 k1 k2 k3 j0 j1 j2 j3 y1 y2 b3 cO
      obtain ⟨k0, k1, k2, k3⟩ := fourO y3.out
      obtain ⟨j0, j1, j2, j3⟩ := fourO y4.out
      cases q3 with
      | false =>
        have hR := hid (hR.out.trans (Bool.false_and _))
        go_wp2_with fail
        go_ret
        exact ⟨by rw [hR.out]; rfl, b4.out⟩
      | true =>
        have hR := hid (hR.out.trans (Bool.true_and _))
        go_wp2_with fail
        go_ret
        exact ⟨by rw [hR.out]; rfl, b4.out⟩
theorem iEqO (o p : Oc) (v v' : Value) (w : World) (h : OcAt w w.heap.size v o) (h' : OcAt w w.heap.size v' p) :
    Calls Tryz.prog 10 #[v, v'] w fun e w' => e = .returned (.bool (eqOB o p)) ∧ Below w.heap.size w w' := by
  obtain ⟨A, c, A', c', rfl, r1, l1, r2, l2⟩ := h
  obtain ⟨D, d, D', d', rfl, r3, l3, r4, l4⟩ := h'
  obtain ⟨st, sg, ou, co⟩ := o
  obtain ⟨su, tg, pu, cp⟩ := p
  dsimp only at *
  have b1 := bxb w (.cells #[.int .i64 st, .slice A sg.length c, .slice A' ou.length c', .int .i64 co] 32)
  have z1 := size_alloc' w (.cells #[.int .i64 st, .slice A sg.length c, .slice A' ou.length c', .int .i64 co] 32)
  have b2 := b1.trans ((bxb (w.alloc (.cells #[.int .i64 st, .slice A sg.length c, .slice A' ou.length c', .int .i64 co] 32)) (.cells #[.int .i64 su, .slice D tg.length d, .slice D' pu.length d', .int .i64 cp] 32)).mono (by omega))
  have x1 := (box_blkO w st A sg.length c A' ou.length c' co 32).alloc (.cells #[.int .i64 su, .slice D tg.length d, .slice D' pu.length d', .int .i64 cp] 32)
  have x2 := box_blkO (w.alloc (.cells #[.int .i64 st, .slice A sg.length c, .slice A' ou.length c', .int .i64 co] 32)) su D tg.length d D' pu.length d' cp 32
  rw [z1] at x2
  have cS := hid (fun wx (hb : Below w.heap.size w wx) => slicesEq_any sg tg A D c d wx l1 l3 ((r1.below hb).more hb.size) ((r3.below hb).more hb.size))
  have cO := hid (fun wx (hb : Below w.heap.size w wx) => slicesEq_any ou pu A' D' c' d' wx l2 l4 ((r2.below hb).more hb.size) ((r4.below hb).more hb.size))
  have hR : eqOB ⟨st, sg, ou, co⟩ ⟨su, tg, pu, cp⟩ = ((st == su) && (decide (sg = tg) && (decide (ou = pu) && (co == cp)))) := rfl
  generalize eqOB ⟨st, sg, ou, co⟩ ⟨su, tg, pu, cp⟩ = R at *
  replace b2 := hid b2
  replace x1 := hid x1
  replace x2 := hid x2
  clear r1 r2 r3 r4 l1 l2 l3 l4 b1 z1
  generalize hm1 : (st == su) = q1 at *
  cases q1 with
  | false =>
    rw [Bool.false_and] at hR
    replace hR := hid hR
    clear cS cO
    go_enter Tryz.func10, Tryz.ntmps10
    obtain ⟨k0, k1, k2, k3⟩ := fourO x1.out
    obtain ⟨j0, j1, j2, j3⟩ := fourO x2.out
    go_wp2_with fail
    go_ret
    exact ⟨by rw [hR.out]; rfl, b2.out⟩
  | true =>
    rw [Bool.true_and] at hR
    generalize decide (sg = tg) = q2 at *
    go_enter Tryz.func10, Tryz.ntmps10
    obtain ⟨k0, k1, k2, k3⟩ := fourO x1.out
    obtain ⟨j0, j1, j2, j3⟩ := fourO x2.out
    replace hR := hid hR
    go_wp2_with fail
    refine (cS.out _ b2.out).mono ?_
    rintro e3 w3 ⟨rfl, hb⟩
    have b3 := hid (b2.out.trans (hb.mono b2.out.size))
    have y1 := hid (x1.out.below hb x1.out.lt)
    have y2 := hid (x2.out.below hb x2.out.lt)
    clear hb k0 k1 k2 k3 j0 j1 j2 j3 x1 x2 b2 cS
    obtain ⟨k0, k1, k2, k3⟩ := fourO y1.out
    obtain ⟨j0, j1, j2, j3⟩ := fourO y2.out
    cases q2 with
    | false =>
      have hR := hid (hR.out.trans (Bool.false_and _))
      go_wp2_with fail
      go_ret
      exact ⟨by rw [hR.out]; rfl, b3.out⟩
    | true =>
      have hR := hid (hR.out.trans (Bool.true_and _))
      generalize decide (ou = pu) = q3 at *
      go_wp2_with fail
      refine (cO.out _ b3.out).mono ?_
      rintro e4 w4 ⟨rfl, hb⟩
      have b4 := hid (b3.out.trans (hb.mono b3.out.size))
      have y3 := hid (y1.out.below hb y1.out.lt)
      have y4 := hid (y2.out.below hb y2.out.lt)
      clear hb k0 k1 k2 k3 j0 j1 j2 j3 y1 y2 b3 cO
      obtain ⟨k0, k1, k2, k3⟩ := fourO y3.out
      obtain ⟨j0, j1, j2, j3⟩ := fourO y4.out
      cases q3 with
      | false =>
        have hR := hid (hR.out.trans (Bool.false_and _))
        go_wp2_with fail
        go_ret
        exact ⟨by rw [hR.out]; rfl, b4.out⟩
      | true =>
        have hR := hid (hR.out.trans (Bool.true_and _))
        go_wp2_with fail
        go_ret
        exact ⟨by rw [hR.out]; rfl, b4.out⟩
end Go.Proofs.YtnmomlaimffonaaGreat.Oc
