/- The model's EqualProgram. -/
import Derived.Test.YtiogceepjffmkaaGreatDoorQSt1
set_option maxHeartbeats 8000000
set_option maxRecDepth 100000
namespace Go.Proofs.YtiogceepjffmkaaGreatDoor.Gd
open Go.RowKit Go.Lib Go.Sort Com Mem YtiogceepjffmkaaGreatDoor.Os Tr
mutual
def sameSt : St → St → Bool
 | .mk k s e bs es, .mk k' s' e' bs' es' => (k == k') && ((s == s') && (eqT e e' && (sameSL bs bs' && sameSL es es')))
def sameSL : List St → List St → Bool
 | [], [] => true
 | a :: r, b :: q => sameSt a b && sameSL r q
 | [], _ :: _ => false
 | _ :: _, [] => false
end
theorem sameSL_len : ∀ {xs bs : List St}, sameSL xs bs = true → xs.length = bs.length
 | [], [], _ => rfl
 | a :: r, b :: q, h => by
  rw [sameSL, Bool.and_eq_true] at h
  simp [sameSL_len h.2]
 | [], _ :: _, h => by rw [sameSL] at h; cases h
 | _ :: _, [], h => by rw [sameSL] at h; cases h
theorem sameSL_at : ∀ {xs bs : List St}, xs.length = bs.length → (∀ (j : Nat) (a b : St), xs[j]? = some a → bs[j]? = some b → sameSt a b = true) → sameSL xs bs = true
 | [], [], _, _ => by rw [sameSL]
 | a :: r, b :: q, hl, h => by
  rw [sameSL, Bool.and_eq_true]
  exact ⟨h 0 a b rfl rfl, sameSL_at (by simpa using hl) fun j x y hx hy => h (j + 1) x y (by simpa using hx) (by simpa using hy)⟩
 | [], _ :: _, hl, _ => by simp at hl
 | _ :: _, [], hl, _ => by simp at hl
theorem sameSL_of : ∀ {xs bs : List St}, sameSL xs bs = true → ∀ (j : Nat) (a b : St), xs[j]? = some a → bs[j]? = some b → sameSt a b = true
 | [], _, _, j, a, b, ha, _ => by simp at ha
 | a :: r, b :: q, h, j, x, y, hx, hy => by
  rw [sameSL, Bool.and_eq_true] at h
  cases j with
  | zero => simp at hx hy; subst hx; subst hy; exact h.1
  | succ j => exact sameSL_of h.2 j x y (by simpa using hx) (by simpa using hy)
 | _ :: _, [], h, _, _, _, _, hy => by simp at hy
theorem sameSL_not {xs bs : List St} {j : Nat} {a b : St} (ha : xs[j]? = some a) (hb : bs[j]? = some b) (h : sameSt a b = false) : sameSL xs bs = false := by
 cases hq : sameSL xs bs with
 | false => rfl
 | true => rw [sameSL_of hq j a b ha hb] at h; cases h
theorem sameSL_nl {xs bs : List St} (h : xs.length ≠ bs.length) : sameSL xs bs = false := by
 cases hq : sameSL xs bs with
 | false => rfl
 | true => exact absurd (sameSL_len hq) h
theorem sameSt_mk (k k' : Int) (s s' : List UInt8) (e e' : T) (bs bs' es es' : List St) : sameSt (.mk k s e bs es) (.mk k' s' e' bs' es') = ((k == k') && ((s == s') && (eqT e e' && (sameSL bs bs' && sameSL es es')))) := by rw [sameSt]
theorem sameSt_self (t : St) : sameSt t t = true := by
 induction t using St.ind with
 | h k s e bs es h1 h2 =>
  rw [sameSt_mk, eqT_self]
  have a1 : sameSL bs bs = true := sameSL_at rfl fun j a b ha hb => by
   rw [ha] at hb; cases hb
   exact h1 a (List.mem_of_getElem? ha)
  have a2 : sameSL es es = true := sameSL_at rfl fun j a b ha hb => by
   rw [ha] at hb; cases hb
   exact h2 a (List.mem_of_getElem? ha)
  simp [a1, a2]
theorem sameSL_self (L : List St) : sameSL L L = true := sameSL_at rfl fun j a b ha hb => by
 rw [ha] at hb; cases hb; exact sameSt_self a
def sameP (p q : Pg) : Bool := decide (p.vs = q.vs) && sameSL p.body q.body
theorem sameP_self (p : Pg) : sameP p p = true := by unfold sameP; rw [sameSL_self]; simp
theorem neq_of {a b : Int} (q : Bool) (h : (a == b) = q) : (a != b) = !q := by unfold bne; rw [h]
theorem sneq_of {a b : List UInt8} (q : Bool) (h : (a == b) = q) : (a != b) = !q := by unfold bne; rw [h]
theorem ssame : ∀ (N : Nat) (L : List St), cntL L = N → ∀ (L' : List St) (A A' : Option Addr) (c c' : Nat) (rows rows' : Nat → List Value) (w : World), Row w w.heap.size 1 A (dl L) rows → Row w w.heap.size 1 A' (dl L') rows' → L.length ≤ maxI → L'.length ≤ maxI →
  Calls Tryz.prog 36 #[.slice A L.length c, .slice A' L'.length c'] w fun e w' => e = .returned (.bool (sameSL L L')) ∧ Below w.heap.size w w' := by
 intro N
 induction N using Nat.strongRecOn with
 | ind N ih =>
  intro L hN L' A A' c c' rows rows' w hk hk' hl hl'
  by_cases hne : L.length ≠ L'.length
  ·have t1 : ((L.length : Int) != (L'.length : Int)) = true := bne_iff_ne.2 (by omega)
   have hf := hid (sameSL_nl hne)
   clear hne
   go_enter Tryz.func36, Tryz.ntmps36
   go_wp2_with fail
   go_ret
   exact ⟨by rw [hf.out]; rfl, Below.refl _ _⟩
  have heq : L.length = L'.length := Classical.byContradiction hne
  have hL' : L'.length = L.length := heq.symm
  clear hne heq
  have hl63 : L.length ≤ 9223372036854775807 := hl
  generalize hL : L.length = n at *
  rw [hL'] at hl' ⊢
  have hcmp : ((n : Int) != (n : Int)) = false := bne_self_eq_false _
  replace hL' := hid hL'
  go_enter Tryz.func36, Tryz.ntmps36
  go_wp2_with fail
  go_loopw [5] (fun i wr => ∃ m : Nat, m ≤ n ∧ i = .int .i64 m ∧ (∀ (j : Nat) (a b : St), j < m → L[j]? = some a → L'[j]? = some b → sameSt a b = true) ∧ Below w.heap.size w wr) (fun i _ => n - (Go.RowKit.intOf i).toNat)
  case atStart => exact ⟨0, Nat.zero_le _, rfl, fun j a b h => absurd h (Nat.not_lt_zero _), Below.refl _ _⟩
  case round =>
   obtain ⟨m, hm, rfl, hall, hb⟩ := hrel
   by_cases hlt : m < n
   ·have hml' : m < L'.length := by have := hL'.out; omega
    have hkr := hk.go hb
    have hkr' := hk'.go hb
    obtain ⟨ad, k, s, e, bs, es, ek, en, en', A1, l1, c1, Bb, cb, C, cc, rb, rc, rfl, hB1, hT, hld, _, hx, hrb, hlb, hrc, hlc⟩ := hkr.st (m := m) (by omega)
    obtain ⟨ad', k', s', e', bs', es', fk, fn, fn', A2, l2, c2, B2, cb2, C2, cc2, rb2, rc2, rfl, hB2, hT', hld', _, hx', hrb', hlb', hrc', hlc'⟩ := hkr'.st (m := m) hml'
    have hst := cntL_take (L := L) (m := m) (by omega)
    rw [hT] at hst
    have hle := cntL_le L (m + 1)
    simp only [cntSt] at hst
    have hg : L[m]? = some (.mk k s e bs es) := by rw [List.getElem?_eq_getElem (by omega), hT]
    have hg' : L'[m]? = some (.mk k' s' e' bs' es') := by rw [List.getElem?_eq_getElem hml', hT']
    have hno := hid (fun (h : sameSt (.mk k s e bs es) (.mk k' s' e' bs' es') = false) => sameSL_not hg hg' h)
    have hyes := hid (fun (h : sameSt (.mk k s e bs es) (.mk k' s' e' bs' es') = true) => (fun (j : Nat) (a b : St) (hj : j < m + 1) (ha : L[j]? = some a) (hb : L'[j]? = some b) => by
     by_cases ej : j = m
     ·subst ej
      rw [hg] at ha; rw [hg'] at hb
      cases ha; cases hb
      exact h
     ·exact hall j a b (by omega) ha hb : ∀ (j : Nat) (a b : St), j < m + 1 → L[j]? = some a → L'[j]? = some b → sameSt a b = true))
    have hmk := hid (sameSt_mk k k' s s' e e' bs bs' es es')
    have cE := hid (fun (d : Nat) (os : Array Obj) => Calls.regrown_of (d := d) (os := os) (eqS e e' _ _ (grow (redrawn wr d) os) (hx.go (below_regrown wr d os)) (hx'.go (below_regrown wr d os))))
    have cB := hid (fun (d : Nat) (os : Array Obj) => Calls.regrown_of (d := d) (os := os) (ih (cntL bs) (by omega) bs rfl bs' Bb B2 cb cb2 rb rb2 (grow (redrawn wr d) os) (hrb.go (below_regrown wr d os)) (hrb'.go (below_regrown wr d os)) hlb hlb'))
    have cC := hid (fun (d : Nat) (os : Array Obj) => Calls.regrown_of (d := d) (os := os) (ih (cntL es) (by omega) es rfl es' C C2 cc cc2 rc rc2 (grow (redrawn wr d) os) (hrc.go (below_regrown wr d os)) (hrc'.go (below_regrown wr d os)) hlc hlc'))
    obtain ⟨k0, k1, k2, k3, k4, k5, k6, k7⟩ := ld8 hld
    obtain ⟨j0, j1, j2, j3, j4, j5, j6, j7⟩ := ld8 hld'
    replace k0 := cell_regrown k0
    replace k1 := cell_regrown k1
    replace k2 := cell_regrown k2
    replace k3 := cell_regrown k3
    replace k4 := cell_regrown k4
    replace k5 := cell_regrown k5
    replace k6 := cell_regrown k6
    replace k7 := cell_regrown k7
    replace j0 := cell_regrown j0
    replace j1 := cell_regrown j1
    replace j2 := cell_regrown j2
    replace j3 := cell_regrown j3
    replace j4 := cell_regrown j4
    replace j5 := cell_regrown j5
    replace j6 := cell_regrown j6
    replace j7 := cell_regrown j7
    replace hb := hid hb
    generalize sameSt (.mk k s e bs es) (.mk k' s' e' bs' es') = Q at *
    generalize eqT e e' = qe at *
    generalize sameSL bs bs' = qb at *
    generalize sameSL es es' = qc at *
    clear hkr hkr' hrb hrc hrb' hrc' hld hld' hT hT' hst hle hg hg' hx hx' hall hml'
    cases q1 : (k == k') with
    | false =>
     have n1 := neq_of _ q1
     have hf := hid (hno.out (by rw [hmk.out, q1]; rfl))
     clear hno hyes hmk
     go_wp2_with fail
     refine wp_region_quiet_below (by kernel_rfl) (by kernel_rfl) ?_
     simp only [List.append_eq, List.cons_append, List.nil_append]
     repeat (go_big_quiet_step (first | with_reducible exact cE.out _ _ | with_reducible exact cB.out _ _ | with_reducible exact cC.out _ _))
     refine wpQuiet_nil ?_
     intro _ hw'
     obtain ⟨⟨dq, osq⟩, hw''⟩ := hw'
     subst hw''
     have hq := hid (hb.out.trans ((below_regrown wr dq osq).mono hb.out.size))
     clear k0 k1 k2 k3 k4 k5 k6 k7 j0 j1 j2 j3 j4 j5 j6 j7 cE cB cC hb
     generalize grow (redrawn wr dq) osq = wq at *
     go_wp2_with fail
     go_ret
     exact ⟨by rw [hf.out]; rfl, hq.out⟩
    | true =>
    have n1 := neq_of _ q1
    rw [q1] at hmk
    clear q1
    cases q2 : (s == s') with
    | false =>
     have n2 := sneq_of _ q2
     have hf := hid (hno.out (by rw [hmk.out, q2]; rfl))
     clear hno hyes hmk
     go_wp2_with fail
     refine wp_region_quiet_below (by kernel_rfl) (by kernel_rfl) ?_
     simp only [List.append_eq, List.cons_append, List.nil_append]
     repeat (go_big_quiet_step (first | with_reducible exact cE.out _ _ | with_reducible exact cB.out _ _ | with_reducible exact cC.out _ _))
     refine wpQuiet_nil ?_
     intro _ hw'
     obtain ⟨⟨dq, osq⟩, hw''⟩ := hw'
     subst hw''
     have hq := hid (hb.out.trans ((below_regrown wr dq osq).mono hb.out.size))
     clear k0 k1 k2 k3 k4 k5 k6 k7 j0 j1 j2 j3 j4 j5 j6 j7 cE cB cC hb
     generalize grow (redrawn wr dq) osq = wq at *
     go_wp2_with fail
     go_ret
     exact ⟨by rw [hf.out]; rfl, hq.out⟩
    | true =>
    have n2 := sneq_of _ q2
    rw [q2] at hmk
    cases qe with
    | false =>
     have hf := hid (hno.out (by rw [hmk.out]; rfl))
     clear hno hyes hmk
     go_wp2_with fail
     refine wp_region_quiet_below (by kernel_rfl) (by kernel_rfl) ?_
     simp only [List.append_eq, List.cons_append, List.nil_append]
     repeat (go_big_quiet_step (first | with_reducible exact cE.out _ _ | with_reducible exact cB.out _ _ | with_reducible exact cC.out _ _))
     refine wpQuiet_nil ?_
     intro _ hw'
     obtain ⟨⟨dq, osq⟩, hw''⟩ := hw'
     subst hw''
     have hq := hid (hb.out.trans ((below_regrown wr dq osq).mono hb.out.size))
     clear k0 k1 k2 k3 k4 k5 k6 k7 j0 j1 j2 j3 j4 j5 j6 j7 cE cB cC hb
     generalize grow (redrawn wr dq) osq = wq at *
     go_wp2_with fail
     go_ret
     exact ⟨by rw [hf.out]; rfl, hq.out⟩
    | true =>
    cases qb with
    | false =>
     have hf := hid (hno.out (by rw [hmk.out]; rfl))
     clear hno hyes hmk
     go_wp2_with fail
     refine wp_region_quiet_below (by kernel_rfl) (by kernel_rfl) ?_
     simp only [List.append_eq, List.cons_append, List.nil_append]
     repeat (go_big_quiet_step (first | with_reducible exact cE.out _ _ | with_reducible exact cB.out _ _ | with_reducible exact cC.out _ _))
     refine wpQuiet_nil ?_
     intro _ hw'
     obtain ⟨⟨dq, osq⟩, hw''⟩ := hw'
     subst hw''
     have hq := hid (hb.out.trans ((below_regrown wr dq osq).mono hb.out.size))
     clear k0 k1 k2 k3 k4 k5 k6 k7 j0 j1 j2 j3 j4 j5 j6 j7 cE cB cC hb
     generalize grow (redrawn wr dq) osq = wq at *
     go_wp2_with fail
     go_ret
     exact ⟨by rw [hf.out]; rfl, hq.out⟩
    | true =>
    cases qc with
    | false =>
     have hf := hid (hno.out (by rw [hmk.out]; rfl))
     clear hno hyes hmk
     go_wp2_with fail
     refine wp_region_quiet_below (by kernel_rfl) (by kernel_rfl) ?_
     simp only [List.append_eq, List.cons_append, List.nil_append]
     repeat (go_big_quiet_step (first | with_reducible exact cE.out _ _ | with_reducible exact cB.out _ _ | with_reducible exact cC.out _ _))
     refine wpQuiet_nil ?_
     intro _ hw'
     obtain ⟨⟨dq, osq⟩, hw''⟩ := hw'
     subst hw''
     have hq := hid (hb.out.trans ((below_regrown wr dq osq).mono hb.out.size))
     clear k0 k1 k2 k3 k4 k5 k6 k7 j0 j1 j2 j3 j4 j5 j6 j7 cE cB cC hb
     generalize grow (redrawn wr dq) osq = wq at *
     go_wp2_with fail
     go_ret
     exact ⟨by rw [hf.out]; rfl, hq.out⟩
    | true =>
     have hnx := hid (hyes.out (by rw [hmk.out]; rfl))
     clear hno hyes hmk
     go_wp2_with fail
     refine wp_region_quiet_below (by kernel_rfl) (by kernel_rfl) ?_
     simp only [List.append_eq, List.cons_append, List.nil_append]
     repeat (go_big_quiet_step (first | with_reducible exact cE.out _ _ | with_reducible exact cB.out _ _ | with_reducible exact cC.out _ _))
     refine wpQuiet_nil ?_
     intro _ hw'
     obtain ⟨⟨dq, osq⟩, hw''⟩ := hw'
     subst hw''
     have hq := hid (hb.out.trans ((below_regrown wr dq osq).mono hb.out.size))
     clear k0 k1 k2 k3 k4 k5 k6 k7 j0 j1 j2 j3 j4 j5 j6 j7 cE cB cC hb
     generalize grow (redrawn wr dq) osq = wq at *
     go_wp2_with fail
     exact ⟨⟨m + 1, hlt, by go_num, hnx.out, hq.out⟩, by simp [Go.RowKit.intOf]; omega⟩
   ·obtain rfl : m = n := by omega
    have hf := hid (show sameSL L L' = true from sameSL_at (by rw [hL, hL'.out]) fun j a b ha hb' => hall j a b (by have := lt_of_get ha; omega) ha hb')
    clear hall
    go_wp2_with fail
    go_ret
    exact ⟨by rw [hf.out]; rfl, hb⟩
open Ow YtiogceepjffmkaaGreatDoor.Nm C2
theorem stexts (V V' : List (List UInt8)) (hV : V.length ≤ maxI) (A A' : Option Addr) (c c' : Nat) (w : World) (hr : Rd w w.heap.size A (V.map sv)) (hr' : Rd w w.heap.size A' (V'.map sv)) (hV' : V'.length ≤ maxI) :
  Calls Tryz.prog 35 #[.slice A V.length c, .slice A' V'.length c'] w fun e w' => e = .returned (.bool (decide (V = V'))) ∧ Below w.heap.size w w' := by
 by_cases hne : V.length ≠ V'.length
 ·have t1 : ((V.length : Int) != (V'.length : Int)) = true := bne_iff_ne.2 (by omega)
  have hf := hid (show decide (V = V') = false from decide_eq_false fun e => hne (by rw [e]))
  clear hne
  go_enter Tryz.func35, Tryz.ntmps35
  go_wp2_with fail
  go_ret
  exact ⟨by rw [hf.out]; rfl, Below.refl _ _⟩
 have heq : V'.length = V.length := Classical.byContradiction fun h => hne (fun e => h e.symm)
 have hl63 : V.length ≤ 9223372036854775807 := hV
 clear hne
 generalize hL : V.length = n at *
 rw [heq] at hV' ⊢
 have hcmp : ((n : Int) != (n : Int)) = false := bne_self_eq_false _
 replace heq := hid heq
 go_enter Tryz.func35, Tryz.ntmps35
 go_wp2_with fail
 go_loopw [5] (fun i wr => ∃ m : Nat, m ≤ n ∧ i = .int .i64 m ∧ V.take m = V'.take m ∧ Below w.heap.size w wr) (fun i _ => n - (Go.RowKit.intOf i).toNat)
 case atStart => exact ⟨0, Nat.zero_le _, rfl, by simp, Below.refl _ _⟩
 case round =>
  obtain ⟨m, hm, rfl, htk, hb⟩ := hrel
  by_cases hlt : m < n
  ·have hm1 : m < V.length := by omega
   have hm2 : m < V'.length := by have := heq.out; omega
   obtain ⟨ad1, rfl, _, hc1⟩ := Lh.rd_str (hr.below hb) hm1
   obtain ⟨ad2, rfl, _, hc2⟩ := Lh.rd_str (hr'.below hb) hm2
   cases hq : (V[m] == V'[m]) with
   | true =>
    have n1 := sneq_of _ hq
    have hnx := hid (show V.take (m + 1) = V'.take (m + 1) by
     rw [List.take_succ_eq_append_getElem hm1, List.take_succ_eq_append_getElem hm2, htk, beq_iff_eq.1 hq])
    replace htk := hid htk
    generalize V[m] = x at *
    generalize V'[m] = y at *
    go_wp2_with fail
    go_quiet (fail)
    go_wp2_with fail
    exact ⟨⟨m + 1, hlt, by go_num, hnx.out, bdr hb nq⟩, by simp [Go.RowKit.intOf]; omega⟩
   | false =>
    have n1 := sneq_of _ hq
    have hf := hid (show decide (V = V') = false from decide_eq_false fun e => by
     subst e
     rw [beq_self_eq_true] at hq; cases hq)
    replace htk := hid htk
    generalize V[m] = x at *
    generalize V'[m] = y at *
    go_wp2_with fail
    go_quiet (fail)
    go_wp2_with fail
    go_ret
    exact ⟨by rw [hf.out]; rfl, bdr hb nq⟩
  ·obtain rfl : m = n := by omega
   have hf := hid (show decide (V = V') = true from decide_eq_true (by
    rw [List.take_of_length_le (by omega), List.take_of_length_le (by rw [heq.out]; exact Nat.le_refl _)] at htk; exact htk))
   clear htk
   go_wp2_with fail
   go_ret
   exact ⟨by rw [hf.out]; rfl, hb⟩
theorem sequalP (p q : Pg) (cs cs' : List Value) (w : World) (hv : Rd8 w w.heap.size cs p.d) (hv' : Rd8 w w.heap.size cs' q.d) :
  Calls Tryz.prog 15 #[.agg cs.toArray, .agg cs'.toArray] w fun e w' => e = .returned (.bool (sameP p q)) ∧ Below w.heap.size w w' := by
 obtain ⟨A, c, Bb, cb, rows, rfl, hr, hs, hl, hk, hlb⟩ := pg_inv hv
 obtain ⟨A', c', Bb', cb', rows', rfl, hr', hs', hl', hk', hlb'⟩ := pg_inv hv'
 obtain ⟨V, P⟩ := p
 obtain ⟨V', P'⟩ := q
 dsimp only at hr hs hl hk hlb hr' hs' hl' hk' hlb' ⊢
 have b1 : Below w.heap.size w (w.alloc (.cells (pc A V.length c Bb P.length cb).toArray 27)) := box8
 have z1 := size_alloc' w (.cells (pc A V.length c Bb P.length cb).toArray 27)
 have b2 := b1.trans ((box8 (w := w.alloc (.cells (pc A V.length c Bb P.length cb).toArray 27)) (o := .cells (pc A' V'.length c' Bb' P'.length cb').toArray 27)).mono (by omega))
 have x1 := (Blk.new w 27 (pc A V.length c Bb P.length cb)).alloc (.cells (pc A' V'.length c' Bb' P'.length cb').toArray 27)
 have x2 := Blk.new (w.alloc (.cells (pc A V.length c Bb P.length cb).toArray 27)) 27 (pc A' V'.length c' Bb' P'.length cb')
 rw [z1] at x2
 have cV := hid (fun wx (hb : Below w.heap.size w wx) => stexts V V' hl.1 A A' c c' wx ((hr.below hb).more hb.size) ((hr'.below hb).more hb.size) hl'.1)
 have cB := hid (fun wx (hb : Below w.heap.size w wx) => ssame _ P rfl P' Bb Bb' cb cb' rows rows' wx (hk.go hb) (hk'.go hb) hlb hlb')
 have hok := hid (show sameP ⟨V, P⟩ ⟨V', P'⟩ = (decide (V = V') && sameSL P P') from rfl)
 generalize sameP ⟨V, P⟩ ⟨V', P'⟩ = Q at *
 generalize decide (V = V') = q1 at *
 generalize sameSL P P' = q2 at *
 replace b2 := hid b2
 replace x1 := hid x1
 replace x2 := hid x2
 clear hv hv' hr hr' hk hk' hlb hlb' hl hl' b1 z1
 go_enter Tryz.func15, Tryz.ntmps15
 obtain ⟨k0, k1⟩ := two x1.out
 obtain ⟨j0, j1⟩ := two x2.out
 go_wp2_with fail
 refine (cV.out _ b2.out).mono ?_
 rintro e3 w3 ⟨rfl, hb⟩
 have b3 := hid (b2.out.trans (hb.mono b2.out.size))
 have y1 := hid (x1.out.below hb x1.out.lt)
 have y2 := hid (x2.out.below hb x2.out.lt)
 clear hb k0 k1 j0 j1 x1 x2 b2
 obtain ⟨k0, k1⟩ := two y1.out
 obtain ⟨j0, j1⟩ := two y2.out
 cases q1 with
 | false =>
  go_wp2_with fail
  go_ret
  exact ⟨by rw [hok.out]; rfl, b3.out⟩
 | true =>
 go_wp2_with fail
 refine (cB.out _ b3.out).mono ?_
 rintro e4 w4 ⟨rfl, hb⟩
 have b4 := hid (b3.out.trans (hb.mono b3.out.size))
 clear hb k0 k1 j0 j1 y1 y2 b3
 go_wp2_with fail
 go_ret
 exact ⟨by rw [hok.out]; rfl, b4.out⟩
end Go.Proofs.YtiogceepjffmkaaGreatDoor.Gd
