/- Chapter 4: the program's values of valid expressions; EvalExpr. -/
import Derived.Test.YtnmomlaimffonaaGreatZC4a
import Derived.Test.YtnmomlaimffonaaGreatZNd8
import Derived.Test.YtnmomlaimffonaaGreatZC3b
set_option maxHeartbeats 4000000
set_option maxRecDepth 100000
namespace Go.Proofs.YtnmomlaimffonaaGreat.Tr
open Go.RowKit Go.Lib Go.Sort Com Mem C3 C2 YtnmomlaimffonaaGreat.Os
def Base (A : Option Addr) : Prop := ∀ ad, A = some ad → ad = ⟨ad.block, 0, none⟩
theorem ivar (AV AS : Option Addr) (cV cS : Nat) (L : List (List UInt8)) (S : List Int) (s : List UInt8) (w : World) (hV : Rd w w.heap.size AV (L.map sv)) (hA : Base AV) (hS : Rd w w.heap.size AS (S.map iv)) (hn : L.length ≤ 9223372036854775807) :
    Calls Tryz.prog 139 #[sv s, .slice AV L.length cV, .slice AS S.length cS] w fun e w' => e = .returned (.int .i64 (readV L S s)) ∧ w = w' := by
  have h1 := hid (L2a.index_any AV cV w.heap.size L s w hV hA hn)
  have hbd := ixOf_bd L s
  by_cases hneg : ixOf L s < 0
  · have t0 : decide (ixOf L s < 0) = true := decide_eq_true hneg
    have hf := hid (show readV L S s = 0 by
      unfold readV; rw [if_neg]; unfold inB; rw [show decide ((0 : Int) ≤ ixOf L s) = false from decide_eq_false (by omega)]; simp)
    go_enter Tryz.func139, Tryz.ntmps139
    go_wp2_with fail
    refine h1.out.mono ?_
    rintro e w' ⟨rfl, rfl⟩
    go_wp2_with fail
    go_ret
    exact ⟨by rw [hf.out]; rfl, rfl⟩
  · have t0 : decide (ixOf L s < 0) = false := decide_eq_false hneg
    obtain ⟨k, hk⟩ : ∃ k : Nat, ixOf L s = k := ⟨(ixOf L s).toNat, by omega⟩
    by_cases hlt : k < S.length
    · have hf := hid (show readV L S s = S[k] % 4 by
        unfold readV; rw [hk, if_pos (by unfold inB; rw [decide_eq_true (by omega), decide_eq_true (by omega)]; rfl)]; simp [List.getD_eq_getElem?_getD, List.getElem?_eq_getElem hlt])
      obtain ⟨ad, rfl, _, hc⟩ := rd_int hS hlt
      have h3 := hid (wrap_any S[k] w)
      rw [hk] at h1 t0
      have t1 : decide ((S.length : Int) ≤ (k : Int)) = false := decide_eq_false (by omega)
      clear hk hneg hbd
      go_enter Tryz.func139, Tryz.ntmps139
      go_wp2_with fail
      refine h1.out.mono ?_
      rintro e w' ⟨rfl, rfl⟩
      go_wp2_with fail
      refine h3.out.mono ?_
      rintro e w' ⟨rfl, rfl⟩
      go_wp2_with fail
      go_ret
      exact ⟨by rw [hf.out]; rfl, rfl⟩
    · have hf := hid (show readV L S s = 0 by
        unfold readV; rw [hk, if_neg]; unfold inB; rw [show decide ((k : Int) ≤ (S.length : Int) - 1) = false from decide_eq_false (by omega)]; simp)
      rw [hk] at h1 t0
      have t1 : decide ((S.length : Int) ≤ (k : Int)) = true := decide_eq_true (by omega)
      clear hk hneg hbd
      go_enter Tryz.func139, Tryz.ntmps139
      go_wp2_with fail
      refine h1.out.mono ?_
      rintro e w' ⟨rfl, rfl⟩
      go_wp2_with fail
      go_ret
      exact ⟨by rw [hf.out]; rfl, rfl⟩
def EvX (L : List (List UInt8)) (S : List Int) (X : Value) (r : Int × Bool) : Prop := ∀ (AV AS : Option Addr) (cV cS : Nat) (w : World), Rd w w.heap.size AV (L.map sv) → Base AV → Rd w w.heap.size AS (S.map iv) →
  Calls Tryz.prog 126 #[X, .slice AV L.length cV, .slice AS S.length cS] w fun e w' => e = .returned (.tuple #[.int .i64 r.1, .bool r.2]) ∧ Below w.heap.size w w'
theorem ev1 (L : List (List UInt8)) (S : List Int) (n : Int) : EvX L S (.iface 184 (.agg #[.int .i64 n])) (n, true) := by
  intro AV AS cV cS w hV hA hS
  have hb := hid (box_below w (.cells #[.int .i64 n] 184))
  have q1 := fun V w => ta_cc V w
  clear hV hA hS
  go_enter Tryz.func126, Tryz.ntmps126
  go_wp2_with fail
  go_ret2
  exact ⟨rfl, hb.out⟩
theorem ev2 (L : List (List UInt8)) (S : List Int) (hn : L.length ≤ 9223372036854775807) (s : List UInt8) : EvX L S (.iface 186 (.agg #[sv s])) (readV L S s, true) := by
  intro AV AS cV cS w hV hA hS
  have hb := box_below w (.cells #[sv s] 186)
  have hv := hid (ivar AV AS cV cS L S s _ (rd_go hV hb) hA (rd_go hS hb) hn)
  replace hb := hid hb
  have q1 := fun V w => ta_vc V w
  have q2 := fun V w => ta_vv V w
  clear hV hA hS
  go_enter Tryz.func126, Tryz.ntmps126
  go_wp2_with fail
  refine hv.out.mono ?_
  rintro e w' ⟨rfl, rfl⟩
  go_wp2_with fail
  go_ret2
  exact ⟨rfl, hb.out⟩
def opR (n : Int) (ra rb : Int × Bool) : Int × Bool := if ra.2 = true ∧ rb.2 = true then (appV n ra.1 rb.1, appOk n rb.1) else (0, false)
def notR (ra : Int × Bool) : Int × Bool := if ra.2 = true then (bit (ra.1 == 0), true) else (0, false)
theorem ev3 (L : List (List UInt8)) (S : List Int) (n : Int) (ta tb : TypeId) (ya yb : Value) (ra rb : Int × Bool) (ha : EvX L S (.iface ta ya) ra) (hb : EvX L S (.iface tb yb) rb) :
    EvX L S (.iface 189 (.agg #[.int .i64 n, .iface ta ya, .iface tb yb])) (opR n ra rb) := by
  intro AV AS cV cS w hV hA hS
  have hb0 := box_below w (.cells #[.int .i64 n, .iface ta ya, .iface tb yb] 189)
  have hB := hid (Blk.new w 189 [.int .i64 n, .iface ta ya, .iface tb yb])
  have hV1 := hid (rd_go hV hb0)
  have hS1 := hid (rd_go hS hb0)
  have hcl := hid (ha AV AS cV cS _ hV1.out hA hS1.out)
  replace hb0 := hid hb0
  have hb := hid hb
  have hA := hid hA
  have q1 := fun V w => ta_oc V w
  have q2 := fun V w => ta_ov V w
  have q3 := fun V w => ta_oo V w
  clear hV hS ha
  obtain ⟨xa, oa⟩ := ra
  obtain ⟨xb, ob⟩ := rb
  go_enter Tryz.func126, Tryz.ntmps126
  go_wp2_with fail
  generalize (w.alloc (.cells #[.int .i64 n, .iface ta ya, .iface tb yb] 189)) = W1 at *
  refine hcl.out.mono ?_
  rintro e w2 ⟨rfl, hb2⟩
  have hB2 := hid (hB.out.below hb2 hB.out.lt)
  have c2 : w2.cell? ⟨w.heap.size, 2, none⟩ = some (.iface tb yb) := hB2.out.cell 2
  have hcl2 := hid (hb.out AV AS cV cS _ (rd_go hV1.out hb2) hA.out (rd_go hS1.out hb2))
  replace hb2 := hid (hb0.out.trans (hb2.mono hb0.out.size))
  clear hcl
  go_wp2_with fail
  refine hcl2.out.mono ?_
  rintro e w3 ⟨rfl, hb3⟩
  have c0 : w3.cell? ⟨w.heap.size, 0, none⟩ = some (.int .i64 n) := (hB2.out.below hb3 hB2.out.lt).cell 0
  replace hb3 := hid (hb2.out.trans (hb3.mono hb2.out.size))
  clear c2 hcl2
  cases oa
  · go_wp2_with fail
    go_ret2
    exact ⟨rfl, hb3.out⟩
  · cases ob
    · go_wp2_with fail
      go_ret2
      exact ⟨rfl, hb3.out⟩
    · have hap := hid (apply_any n xa xb w3)
      go_wp2_with fail
      refine hap.out.mono ?_
      rintro e w4 ⟨rfl, hb4⟩
      replace hb4 := hid (hb3.out.trans (hb4.mono hb3.out.size))
      go_wp2_with fail
      go_ret2
      exact ⟨rfl, hb4.out⟩
theorem ev4 (L : List (List UInt8)) (S : List Int) (ta : TypeId) (ya : Value) (ra : Int × Bool) (ha : EvX L S (.iface ta ya) ra) :
    EvX L S (.iface 192 (.agg #[.iface ta ya])) (notR ra) := by
  intro AV AS cV cS w hV hA hS
  have hb0 := box_below w (.cells #[.iface ta ya] 192)
  have hcl := hid (ha AV AS cV cS _ (rd_go hV hb0) hA (rd_go hS hb0))
  replace hb0 := hid hb0
  have q1 := fun V w => ta_nc V w
  have q2 := fun V w => ta_nv V w
  have q3 := fun V w => ta_no V w
  have q4 := fun V w => ta_nn V w
  clear hV hS ha hA
  obtain ⟨xa, oa⟩ := ra
  go_enter Tryz.func126, Tryz.ntmps126
  go_wp2_with fail
  refine hcl.out.mono ?_
  rintro e w2 ⟨rfl, hb2⟩
  replace hb2 := hid (hb0.out.trans (hb2.mono hb0.out.size))
  clear hcl
  cases oa
  · have ht := hid (truth_any false w2)
    go_wp2_with fail
    refine ht.out.mono ?_
    rintro e w' ⟨rfl, rfl⟩
    go_wp2_with fail
    go_ret2
    exact ⟨rfl, hb2.out⟩
  · have ht := hid (truth_any (xa == 0) w2)
    go_wp2_with fail
    refine ht.out.mono ?_
    rintro e w' ⟨rfl, rfl⟩
    go_wp2_with fail
    go_ret2
    exact ⟨rfl, hb2.out⟩
theorem evX (L : List (List UInt8)) (S : List Int) (hn : L.length ≤ 9223372036854775807) (t : T) : allT t = true → EvX L S (xv t) (evalT L S t) := by
  induction t using T.ind with
  | h k n s ks ih =>
    intro ha
    have hno := ha
    rw [allT_mk] at hno
    have hno : nodeB k n s ks.length = true := by simp at hno; exact hno.2
    rcases node_cases hno with rfl | rfl | ⟨rfl, a, b, rfl⟩ | ⟨rfl, a, rfl⟩
    · rw [xv_1, evalT_1]; exact ev1 L S n
    · rw [xv_2, evalT_2]; exact ev2 L S hn s
    · obtain ⟨h1, h2⟩ := allT_2 ha
      have ia := ih a (by simp) h1
      have ib := ih b (by simp) h2
      obtain ⟨ta, ya, ea⟩ := xv_iface h1
      obtain ⟨tb, yb, eb⟩ := xv_iface h2
      rw [xv_3, evalT_3]
      rw [ea] at ia ⊢
      rw [eb] at ib ⊢
      exact ev3 L S n ta tb ya yb _ _ ia ib
    · have h1 := allT_1 ha
      have ia := ih a (by simp) h1
      obtain ⟨ta, ya, ea⟩ := xv_iface h1
      rw [xv_4, evalT_4]
      rw [ea] at ia ⊢
      exact ev4 L S ta ya _ ia
theorem ievalOf (L : List (List UInt8)) (S : List Int) (hn : L.length ≤ 9223372036854775807) (t : T) (v : Value) (AV AS : Option Addr) (cV cS : Nat) (w : World) (hv : Ex w w.heap.size v t) (hV : Rd w w.heap.size AV (L.map sv)) (hA : Base AV) (hS : Rd w w.heap.size AS (S.map iv)) :
    Calls Tryz.prog 105 #[v, .slice AV L.length cV, .slice AS S.length cS] w fun e w' => e = .returned (.tuple #[.int .i64 (evT L S t).1, .bool (evT L S t).2]) ∧ Below w.heap.size w w' := by
  obtain ⟨k, n, s, A, l, c, rfl⟩ := hv.form
  have hb1 := box_below w (.cells #[.int .i64 k, .int .i64 n, sv s, .slice A l c] 92)
  have hcl := readE t _ _ (hv.go hb1)
  have hV1 := hid (rd_go hV hb1)
  have hS1 := hid (rd_go hS hb1)
  have hb1 := hid hb1
  have hev := evX L S hn t
  have hall : okT t = true → allT t = true := fun h => by unfold okT at h; simp only [Bool.and_eq_true] at h; exact h.2.2
  clear hv hV hS
  cases ho : okT t
  · have hf := hid (show evT L S t = (0, false) by unfold evT; rw [if_neg (by rw [ho]; simp)])
    rw [ho, if_neg (by simp)] at hcl
    have hcl := hid hcl
    clear hev hall hA
    go_enter Tryz.func105, Tryz.ntmps105
    go_wp2_with fail
    refine hcl.out.mono ?_
    rintro e w2 ⟨rfl, hb2⟩
    have hb2 := hid (hb1.out.trans (hb2.mono hb1.out.size))
    go_wp2_with fail
    go_ret2
    exact ⟨by rw [hf.out]; rfl, hb2.out⟩
  · have hf := hid (show evT L S t = evalT L S t by unfold evT; rw [if_pos ho])
    rw [ho, if_pos rfl] at hcl
    have hcl := hid hcl
    have hev := hid (hev (hall ho))
    have hA := hid hA
    clear hall
    generalize xv t = X at *
    go_enter Tryz.func105, Tryz.ntmps105
    go_wp2_with fail
    refine hcl.out.mono ?_
    rintro e w2 ⟨rfl, hb2⟩
    have hcl2 := hid (hev.out AV AS cV cS _ (rd_go hV1.out hb2) hA.out (rd_go hS1.out hb2))
    replace hb2 := hid (hb1.out.trans (hb2.mono hb1.out.size))
    clear hcl
    go_wp2_with fail
    refine hcl2.out.mono ?_
    rintro e w3 ⟨rfl, hb3⟩
    have hb3 := hid (hb2.out.trans (hb3.mono hb2.out.size))
    go_wp2_with fail
    go_ret2
    exact ⟨by rw [hf.out]; rfl, hb3.out⟩
end Go.Proofs.YtnmomlaimffonaaGreat.Tr
