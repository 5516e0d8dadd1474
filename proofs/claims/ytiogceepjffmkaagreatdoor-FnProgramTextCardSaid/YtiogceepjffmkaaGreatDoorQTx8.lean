/- The text of statements and programs; the model's FormatStmts by its contract. -/
import Derived.Test.YtiogceepjffmkaaGreatDoorQF7a
import Derived.Test.YtiogceepjffmkaaGreatDoorQPp
set_option maxHeartbeats 8000000
set_option maxRecDepth 100000
namespace Go.Proofs.YtiogceepjffmkaaGreatDoor.Gd
open Go.RowKit Go.Lib Go.Sort Com Mem YtiogceepjffmkaaGreatDoor.Os Ow Tr Tk
mutual
def tSt : St → List UInt8
 | .mk k s e bs es =>
  if k = 1 then s ++ [32, 58, 61, 32] ++ fmtX e ++ [32, 59]
  else if k = 4 then [101, 109, 105, 116, 32] ++ fmtX e ++ [32, 59]
  else if k = 3 then [119, 104, 105, 108, 101, 32] ++ fmtX e ++ [32] ++ (123 :: tJ bs ++ [32, 125])
  else if k = 2 then (if 0 < es.length then [105, 102, 32] ++ fmtX e ++ [32] ++ (123 :: tJ bs ++ [32, 125]) ++ [32, 101, 108, 115, 101, 32] ++ (123 :: tJ es ++ [32, 125])
   else [105, 102, 32] ++ fmtX e ++ [32] ++ (123 :: tJ bs ++ [32, 125]))
  else [63]
def tJ : List St → List UInt8
 | [] => []
 | a :: r => 32 :: (tSt a ++ tJ r)
end
def tB (L : List St) : List UInt8 := 123 :: tJ L ++ [32, 125]
def tL (L : List St) : List (List UInt8) := L.map tSt
theorem tL_len (L : List St) : (tL L).length = L.length := List.length_map _
theorem tSt_mk (k : Int) (s : List UInt8) (e : T) (bs es : List St) : tSt (.mk k s e bs es) =
  (if k = 1 then s ++ [32, 58, 61, 32] ++ fmtX e ++ [32, 59]
  else if k = 4 then [101, 109, 105, 116, 32] ++ fmtX e ++ [32, 59]
  else if k = 3 then [119, 104, 105, 108, 101, 32] ++ fmtX e ++ [32] ++ tB bs
  else if k = 2 then (if 0 < es.length then [105, 102, 32] ++ fmtX e ++ [32] ++ tB bs ++ [32, 101, 108, 115, 101, 32] ++ tB es
   else [105, 102, 32] ++ fmtX e ++ [32] ++ tB bs)
  else [63]) := by rw [tSt]; rfl
theorem tJ_app (a b : List St) : tJ (a ++ b) = tJ a ++ tJ b := by
 induction a with
 | nil => simp [tJ]
 | cons x r ih => simp [tJ, ih]
theorem tJ_take {L : List St} {m : Nat} (h : m < L.length) : tJ (L.take (m + 1)) = tJ (L.take m) ++ (32 :: tSt L[m]) := by
 rw [List.take_add_one, List.getElem?_eq_getElem h, tJ_app]
 simp [tJ]
theorem tJ_le {L : List St} {m : Nat} (h : m < L.length) : (tJ (L.take m)).length + (1 + (tSt L[m]).length) ≤ (tJ L).length := by
 have h1 : (tJ L).length = (tJ (L.take (m + 1))).length + (tJ (L.drop (m + 1))).length := by
  rw [← List.length_append, ← tJ_app, List.take_append_drop]
 rw [tJ_take h, List.length_append, List.length_cons] at h1
 omega
theorem len_cnt (L : List St) : L.length ≤ cntL L := by
 induction L with
 | nil => simp [cntL]
 | cons a r ih =>
  obtain ⟨k, s, e, bs, es⟩ := a
  simp only [cntL, cntSt, List.length_cons]; omega
def FsL (L : List St) : Prop := ∀ (A : Option Addr) (c : Nat) (rows : Nat → List Value) (w : World), Row w w.heap.size 1 A (dl L) rows → cntL L ≤ 1100000 → exL L ≤ 2000000 → (tJ L).length ≤ 1000000000000 →
 Calls Tryz.prog 25 #[.slice A L.length c] w fun e w' => ∃ v, e = .returned v ∧ Grow 9 w w' v ((tL L).map sv)
theorem blk10 (L : List St) (h : FsL L) (A : Option Addr) (c : Nat) (rows : Nat → List Value) (w : World) (hk : Row w w.heap.size 1 A (dl L) rows) (hcn : cntL L ≤ 1100000) (hx : exL L ≤ 2000000) (hj : (tJ L).length ≤ 1000000000000) :
  Calls Tryz.prog 99 #[.slice A L.length c] w fun e w' => e = .returned (sv (tB L)) ∧ Below w.heap.size w w' := by
 have hc := hid (h A c rows w hk hcn hx hj)
 have hN1 := len_cnt L
 generalize hN : L.length = N at *
 clear hk
 go_enter Tryz.func99, Tryz.ntmps99
 go_wp2_with fail
 refine hc.out.mono ?_
 rintro e w1 ⟨v, rfl, hG⟩
 obtain ⟨A1, c1, rfl, -, -, hr, -⟩ := hG.len
 have hb1 := hid hG.2
 have hr := hid hr
 rw [List.length_map, tL_len, hN]
 clear hG hc
 go_wp2_with fail
 go_loopw [3, 5] (fun o i wr => ∃ m : Nat, m ≤ N ∧ i = .int .i64 m ∧ o = sv (123 :: tJ (L.take m)) ∧ Below w1.heap.size w1 wr) (fun _ i _ => N - (Go.RowKit.intOf i).toNat)
 case atStart => exact ⟨0, Nat.zero_le _, rfl, by simp [tJ], Below.refl _ _⟩
 case round =>
  obtain ⟨m, hm, rfl, rfl, hb⟩ := hrel
  by_cases hlt : m < N
  ·have hml : m < L.length := by omega
   obtain ⟨ad, rfl, -, hcell⟩ := (hr.out.below hb).at_ (k := m) (by rw [List.length_map, tL_len]; exact hml)
   rw [List.getElem_map, show (tL L)[m]'(by rw [tL_len]; exact hml) = tSt L[m] from List.getElem_map _] at hcell
   have ht := hid (show (⟨(123 :: tJ (L.take m)).toArray⟩ : ByteArray) ++ ⟨#[32]⟩ ++ ⟨(tSt L[m]).toArray⟩ = ⟨(123 :: tJ (L.take (m + 1))).toArray⟩ by
    rw [tJ_take hml, bapp, bapp]; simp)
   have hb := hid hb
   have hjl := tJ_le hml
   generalize L[m] = t at *
   have hj1 : (123 :: tJ (L.take m)).length ≤ 1000000000001 := by rw [List.length_cons]; omega
   have hj2 : (tSt t).length ≤ 1000000000000 := by omega
   go_wp2_with fail
   exact ⟨⟨m + 1, hlt, by go_num, congrArg Value.string ht.out, hb.out⟩, by simp [Go.RowKit.intOf]; omega⟩
  ·obtain rfl : m = N := by omega
   have hj1 : (tJ (L.take m)).length ≤ 1000000000000 := by rw [List.take_of_length_le (by omega)]; omega
   have ht := hid (show (⟨(123 :: tJ (L.take m)).toArray⟩ : ByteArray) ++ ⟨#[32, 125]⟩ = ⟨(tB L).toArray⟩ by
    rw [List.take_of_length_le (by omega), bapp]; rfl)
   have hb := hid (hb1.out.trans (hb.mono hb1.out.size))
   clear hj hN hN1 hm h
   generalize tJ (L.take m) = x at *
   go_wp2_with fail
   go_ret
   exact ⟨congrArg (fun x => Ending.returned (Value.string x)) ht.out, hb.out⟩
theorem stm10 (k : Int) (s : List UInt8) (e : T) (bs es : List St) (hB : FsL bs) (hE : FsL es) (ek en : Int) (en' : List UInt8) (A : Option Addr) (l c : Nat) (Bb : Option Addr) (cb : Nat) (C : Option Addr) (cc : Nat) (rb rc : Nat → List Value) (w : World)
  (hx : Ex w w.heap.size (nv ek en en' A l c) e) (hrb : Row w w.heap.size 1 Bb (dl bs) rb) (hrc : Row w w.heap.size 1 C (dl es) rc) (hcb : cntL bs ≤ 1100000) (hce : cntL es ≤ 1100000) (hxb : exL bs ≤ 2000000) (hxe : exL es ≤ 2000000) (hxx : cntT e ≤ 2000000) (ht : (tSt (.mk k s e bs es)).length ≤ 1000000000000) :
  Calls Tryz.prog 59 #[.agg #[.int .i64 k, sv s, .int .i64 ek, .int .i64 en, sv en', .slice A l c, .slice Bb bs.length cb, .slice C es.length cc]] w fun e' w' => e' = .returned (sv (tSt (.mk k s e bs es))) ∧ Below w.heap.size w w' := by
 have b1 := box_below w (.cells #[.int .i64 k, sv s, .int .i64 ek, .int .i64 en, sv en', .slice A l c, .slice Bb bs.length cb, .slice C es.length cc] 60)
 have bx := hid (Blk.new w 60 [.int .i64 k, sv s, .int .i64 ek, .int .i64 en, sv en', .slice A l c, .slice Bb bs.length cb, .slice C es.length cc])
 have cX := hid (sformat_any e _ _ (hx.go b1) hxx)
 have cB := hid (fun W (hb : Below w.heap.size w W) hj => blk10 bs hB Bb cb rb W (hrb.go hb) hcb hxb hj)
 have cE := hid (fun W (hb : Below w.heap.size w W) hj => blk10 es hE C cc rc W (hrc.go hb) hce hxe hj)
 have hb1 := hid b1
 have hX := fmtX_len e
 rw [tSt_mk] at ht ⊢
 generalize hlb : bs.length = lb at *
 generalize hle : es.length = le at *
 generalize fmtX e = x at *
 unfold tB at *
 generalize tJ bs = y at *
 generalize tJ es = z at *
 obtain ⟨r, hr⟩ : ∃ r, (if k = 1 then s ++ [32, 58, 61, 32] ++ x ++ [32, 59] else if k = 4 then [101, 109, 105, 116, 32] ++ x ++ [32, 59] else if k = 3 then [119, 104, 105, 108, 101, 32] ++ x ++ [32] ++ (123 :: y ++ [32, 125])
  else if k = 2 then (if 0 < le then [105, 102, 32] ++ x ++ [32] ++ (123 :: y ++ [32, 125]) ++ [32, 101, 108, 115, 101, 32] ++ (123 :: z ++ [32, 125]) else [105, 102, 32] ++ x ++ [32] ++ (123 :: y ++ [32, 125])) else [63]) = r := ⟨_, rfl⟩
 rw [hr] at ht ⊢
 clear hB hE hx hrb hrc hcb hce hxb hxe hxx b1 hlb hle
 go_enter Tryz.func59, Tryz.ntmps59
 obtain ⟨q0, q1, q2, q3, q4, q5, q6, q7⟩ := eight bx.out
 go_wp2_with fail
 refine cX.out.mono ?_
 rintro e2 w2 ⟨rfl, hb⟩
 have bx2 := hid (bx.out.below hb bx.out.lt)
 have hb2 := hid (hb1.out.trans (hb.mono hb1.out.size))
 clear hb cX bx hb1 q0 q1 q2 q3 q4 q5 q6 q7
 obtain ⟨q0, q1, q2, q3, q4, q5, q6, q7⟩ := eight bx2.out
 by_cases h1 : k = 1
 ·subst h1
  rw [if_pos rfl] at hr
  rw [← hr] at ht
  simp only [List.length_append, List.length_cons, List.length_nil] at ht
  have hs : s.length ≤ 1000000000000 := by omega
  have hf := hid (show (⟨s.toArray⟩ : ByteArray) ++ ⟨#[32, 58, 61, 32]⟩ ++ ⟨x.toArray⟩ ++ ⟨#[32, 59]⟩ = ⟨r.toArray⟩ by rw [← hr, bapp, bapp, bapp])
  clear q2 q3 q4 q5 q6 q7 cB cE ht hr
  go_wp2_with fail
  go_ret
  exact ⟨congrArg (fun x => Ending.returned (Value.string x)) hf.out, hb2.out⟩
 have e1 : (k == 1) = false := beq_false_of_ne h1
 rw [if_neg h1] at hr
 by_cases h4 : k = 4
 ·subst h4
  rw [if_pos rfl] at hr
  have hf := hid (show (⟨#[101, 109, 105, 116, 32]⟩ : ByteArray) ++ ⟨x.toArray⟩ ++ ⟨#[32, 59]⟩ = ⟨r.toArray⟩ by rw [← hr, bapp, bapp])
  clear q1 q2 q3 q4 q5 q6 q7 cB cE ht hr e1 h1
  go_wp2_with fail
  go_ret
  exact ⟨congrArg (fun x => Ending.returned (Value.string x)) hf.out, hb2.out⟩
 have e4 : (k == 4) = false := beq_false_of_ne h4
 rw [if_neg h4] at hr
 by_cases h3 : k = 3
 ·subst h3
  rw [if_pos rfl] at hr
  rw [← hr] at ht
  simp only [List.length_append, List.length_cons, List.length_nil] at ht
  have hy : y.length ≤ 1000000000000 := by omega
  have hf := hid (show (⟨#[119, 104, 105, 108, 101, 32]⟩ : ByteArray) ++ ⟨x.toArray⟩ ++ ⟨#[32]⟩ ++ ⟨(123 :: y ++ [32, 125]).toArray⟩ = ⟨r.toArray⟩ by rw [← hr, bapp, bapp, bapp])
  have hc := hid (cB.out w2 hb2.out hy)
  have hyl : (123 :: y ++ [32, 125]).length ≤ 1000000000003 := by simp; omega
  generalize (123 :: y ++ [32, 125]) = yy at *
  clear q1 q2 q3 q4 q5 q7 cB cE ht hr e1 h1 e4 h4 hy
  go_wp2_with fail
  refine hc.out.mono ?_
  rintro e3 w3 ⟨rfl, hb⟩
  have hb3 := hid (hb2.out.trans (hb.mono hb2.out.size))
  clear hb hc q0 q6
  go_wp2_with fail
  go_ret
  exact ⟨congrArg (fun x => Ending.returned (Value.string x)) hf.out, hb3.out⟩
 have e3 : (k == 3) = false := beq_false_of_ne h3
 rw [if_neg h3] at hr
 by_cases h2 : k = 2
 ·subst h2
  rw [if_pos rfl] at hr
  by_cases hl : 0 < le
  ·rw [if_pos hl] at hr
   rw [← hr] at ht
   simp only [List.length_append, List.length_cons, List.length_nil] at ht
   have hy : y.length ≤ 1000000000000 := by omega
   have hz : z.length ≤ 1000000000000 := by omega
   have hyl : (123 :: y ++ [32, 125]).length ≤ 1000000000003 := by simp; omega
   have hzl : (123 :: z ++ [32, 125]).length ≤ 1000000000003 := by simp; omega
   have hf := hid (show (⟨#[105, 102, 32]⟩ : ByteArray) ++ ⟨x.toArray⟩ ++ ⟨#[32]⟩ ++ ⟨(123 :: y ++ [32, 125]).toArray⟩ ++ ⟨#[32, 101, 108, 115, 101, 32]⟩ ++ ⟨(123 :: z ++ [32, 125]).toArray⟩ = ⟨r.toArray⟩ by rw [← hr, bapp, bapp, bapp, bapp, bapp])
   have c1 := hid (fun (d : Nat) (os : Array Obj) => Calls.regrown_of (d := d) (os := os) (cB.out (grow (redrawn w2 d) os) (hb2.out.trans ((below_regrown w2 d os).mono hb2.out.size)) hy))
   have c2 := hid (fun (d : Nat) (os : Array Obj) => Calls.regrown_of (d := d) (os := os) (cE.out (grow (redrawn w2 d) os) (hb2.out.trans ((below_regrown w2 d os).mono hb2.out.size)) hz))
   have t0 : decide (0 < (le : Int)) = true := decide_eq_true (by omega)
   have r6 := cell_regrown q6
   have r7 := cell_regrown q7
   generalize (123 :: y ++ [32, 125]) = yy at *
   generalize (123 :: z ++ [32, 125]) = zz at *
   clear q1 q2 q3 q4 q5 cB cE ht hr e1 h1 e4 h4 e3 h3 hy hz
   go_wp2_with fail
   refine wp_region_quiet_below (by kernel_rfl) (by kernel_rfl) ?_
   repeat (go_big_quiet_step (first | with_reducible exact c1.out _ _ | with_reducible exact c2.out _ _))
   refine wpQuiet_nil ?_
   intro _ hw'
   obtain ⟨⟨dq, osq⟩, hw''⟩ := hw'
   subst hw''
   have hb3 := hid (hb2.out.trans ((below_regrown w2 dq osq).mono hb2.out.size))
   clear q0 q6 q7 r6 r7 c1 c2 bx2
   generalize grow (redrawn w2 dq) osq = wq at *
   go_wp2_with fail
   go_ret
   exact ⟨congrArg (fun x => Ending.returned (Value.string x)) hf.out, hb3.out⟩
  ·rw [if_neg hl] at hr
   rw [← hr] at ht
   simp only [List.length_append, List.length_cons, List.length_nil] at ht
   have hy : y.length ≤ 1000000000000 := by omega
   have hf := hid (show (⟨#[105, 102, 32]⟩ : ByteArray) ++ ⟨x.toArray⟩ ++ ⟨#[32]⟩ ++ ⟨(123 :: y ++ [32, 125]).toArray⟩ = ⟨r.toArray⟩ by rw [← hr, bapp, bapp, bapp])
   have hc := hid (cB.out w2 hb2.out hy)
   have hyl : (123 :: y ++ [32, 125]).length ≤ 1000000000003 := by simp; omega
   have t0 : decide (0 < (le : Int)) = false := decide_eq_false (by omega)
   generalize (123 :: y ++ [32, 125]) = yy at *
   clear q1 q2 q3 q4 q5 cB cE ht hr e1 h1 e4 h4 e3 h3 hy
   go_wp2_with fail
   refine hc.out.mono ?_
   rintro e3 w3 ⟨rfl, hb⟩
   have hb3 := hid (hb2.out.trans (hb.mono hb2.out.size))
   clear hb hc q0 q6 q7
   go_wp2_with fail
   go_ret
   exact ⟨congrArg (fun x => Ending.returned (Value.string x)) hf.out, hb3.out⟩
 have e2 : (k == 2) = false := beq_false_of_ne h2
 rw [if_neg h2] at hr
 subst hr
 clear q1 q2 q3 q4 q5 q6 q7 cB cE ht h1 h2 h3 h4
 go_wp2_with fail
 go_ret
 exact ⟨rfl, hb2.out⟩
theorem fsL_any : ∀ (M : Nat) (L : List St), cntL L = M → FsL L := by
 intro M
 induction M using Nat.strongRecOn with
 | ind M ih =>
  intro L hM A c rows w hk hcn hxn hj
  have hih : ∀ L' : List St, cntL L' < M → FsL L' := fun L' h => ih _ h L' rfl
  replace hih := hid hih
  clear ih
  have hll := len_cnt L
  have hG0 := hid (Grow.lit0 9 w)
  replace hk := hid hk
  generalize hN : L.length = N at *
  go_enter Tryz.func25, Tryz.ntmps25
  go_wp2_with fail
  go_loopw [3, 4] (fun o i wr => ∃ m : Nat, m ≤ N ∧ i = .int .i64 m ∧ Grow 9 w wr o ((tL (L.take m)).map sv)) (fun _ i _ => N - (Go.RowKit.intOf i).toNat)
  case atStart => exact ⟨0, Nat.zero_le _, rfl, hG0.out⟩
  case round =>
   obtain ⟨m, hm, rfl, hG⟩ := hrel
   have hb := hid hG.2
   replace hG := hid hG
   by_cases hlt : m < N
   ·have hml : m < L.length := by omega
    have hkr := hk.out.go hb.out
    have h1 := cntSt_mem (List.getElem_mem hml)
    have h2 := exSt_mem (List.getElem_mem hml)
    have h3 := tJ_le hml
    obtain ⟨ad, k, s, e, bs, es, ek, en, en', A1, l1, c1, Bb, cb, C, cc, rb, rc, rfl, -, hT, hld, -, hx, hrb, -, hrc, -⟩ := hkr.st (m := m) hml
    have hst := hid (show (tL (L.take (m + 1))).map sv = (tL (L.take m)).map sv ++ [sv (tSt (.mk k s e bs es))] by
     rw [List.take_add_one, List.getElem?_eq_getElem hml, hT]; simp [tL])
    have hq : ((tL (L.take m)).map sv).length < 1000000000000 := by rw [List.length_map, tL_len, List.length_take]; omega
    rw [hT] at h1 h2 h3
    simp only [cntSt] at h1
    rw [exSt_mk] at h2
    have hc := hid (stm10 k s e bs es (hih.out bs (by omega)) (hih.out es (by omega)) ek en en' A1 l1 c1 Bb cb C cc rb rc wr hx hrb hrc (by omega) (by omega) (by omega) (by omega) (by omega) (by omega))
    obtain ⟨q0, q1, q2, q3, q4, q5, q6, q7⟩ := ld8 hld
    have hNb : N ≤ 1100000 := by omega
    clear hx hrb hrc hld hkr hT h1 h2 h3 hM hcn hxn hj hll hml
    generalize tSt (.mk k s e bs es) = x at *
    generalize bs.length = lb at *
    generalize es.length = le at *
    go_wp2_with fail
    refine hc.out.mono ?_
    rintro e2 w2 ⟨rfl, hb2⟩
    have hG2 := hid (hG.out.below hb2 (Nat.le_refl _))
    clear hb2 hc q0 q1 q2 q3 q4 q5 q6 q7
    go_wp2_with (at_builtin; refine hG2.out.append strT (sv x) rfl hq rfl _ _ rfl rfl rfl ?_; intro v5 w5 hG5 _ _; replace hG5 := hid hG5)
    exact ⟨⟨m + 1, hlt, by go_num, by rw [hst.out]; exact hG5.out⟩, by simp [Go.RowKit.intOf]; omega⟩
   ·obtain rfl : m = N := by omega
    have hfin := hid (show tL (L.take m) = tL L by rw [List.take_of_length_le (by omega)])
    go_wp2_with fail
    go_ret
    exact ⟨_, rfl, by rw [← hfin.out]; exact hG.out⟩
theorem fsL (L : List St) : FsL L := fsL_any _ L rfl
def vJ : List (List UInt8) → List UInt8
 | [] => []
 | a :: r => 32 :: (a ++ vJ r)
theorem vJ_app (a b : List (List UInt8)) : vJ (a ++ b) = vJ a ++ vJ b := by
 induction a with
 | nil => simp [vJ]
 | cons x r ih => simp [vJ, ih]
theorem vJ_take {L : List (List UInt8)} {m : Nat} (h : m < L.length) : vJ (L.take (m + 1)) = vJ (L.take m) ++ (32 :: L[m]) := by
 rw [List.take_add_one, List.getElem?_eq_getElem h, vJ_app]
 simp [vJ]
theorem vJ_len (L : List (List UInt8)) (h : ∀ x ∈ L, x.length ≤ 8) : (vJ L).length ≤ 9 * L.length := by
 induction L with
 | nil => simp [vJ]
 | cons x r ih =>
  have := ih fun y hy => h y (by simp [hy])
  have := h x (by simp)
  simp only [vJ, List.length_cons, List.length_append]
  omega
def fmtP (p : Pg) : List UInt8 := if okP p = true then [118, 97, 114, 115] ++ vJ p.vs ++ [32, 59] ++ tJ p.body else []
theorem tJ_len (L : List St) : shL L → (tJ L).length ≤ 500 * cntL L := by
 have hs : ∀ L : List St, (∀ a ∈ L, shSt a → (tSt a).length + 1 ≤ 500 * cntSt a) → shL L → (tJ L).length ≤ 500 * cntL L := fun L hL => by
  induction L with
  | nil => simp [tJ]
  | cons b r ih =>
   intro h
   rw [shL] at h
   have := hL b (by simp) h.1
   have := ih (fun a ha => hL a (by simp [ha])) h.2
   simp only [tJ, cntL, List.length_cons, List.length_append] at *
   omega
 have key : ∀ t : St, shSt t → (tSt t).length + 1 ≤ 500 * cntSt t := fun t => by
  induction t using St.ind with
  | h k s e bs es h1 h2 =>
   intro h
   rw [shSt_mk] at h
   have a1 := hs bs h1 h.2.1
   have a2 := hs es h2 h.2.2
   have a3 := fmtX_len e
   have a4 := h.1
   rw [tSt_mk, cntSt]
   unfold tB
   split
   ·simp only [List.length_append, List.length_cons, List.length_nil]; omega
   split
   ·simp only [List.length_append, List.length_cons, List.length_nil]; omega
   split
   ·simp only [List.length_append, List.length_cons, List.length_nil]; omega
   split
   ·split
    ·simp only [List.length_append, List.length_cons, List.length_nil]; omega
    ·simp only [List.length_append, List.length_cons, List.length_nil]; omega
   ·simp; omega
 exact hs L fun a _ => key a
theorem ok_short {V : List (List UInt8)} (hV : ∀ x ∈ V, x.length ≤ 8) (L : List St) : okSts V L = true → shL L := by
 have hs : ∀ L : List St, (∀ a ∈ L, okSt V a = true → shSt a) → okSts V L = true → shL L := fun L hL => by
  induction L with
  | nil => intro _; rw [shL]; trivial
  | cons b r ih =>
   intro h
   rw [okSts, Bool.and_eq_true] at h
   rw [shL]
   exact ⟨hL b (by simp) h.1, ih (fun a ha => hL a (by simp [ha])) h.2⟩
 have key : ∀ t : St, okSt V t = true → shSt t := fun t => by
  induction t using St.ind with
  | h k s e bs es h1 h2 =>
   intro h
   rw [okSt] at h
   simp only [Bool.and_eq_true] at h
   obtain ⟨-, hb, he, hk⟩ := h
   rw [shSt_mk]
   refine ⟨?_, hs bs h1 hb, hs es h2 he⟩
   unfold kindB at hk
   split at hk
   ·simp only [Bool.and_eq_true, decide_eq_true_eq] at hk
    exact hV s (Classical.byContradiction fun hn => absurd (C2.ixOf_neg.2 hn) (by omega))
   split at hk
   ·have : s = [] := by simpa using hk
    subst this; simp
   split at hk
   ·simp only [Bool.and_eq_true] at hk
    have : s = [] := by simpa using hk.1
    subst this; simp
   split at hk
   ·simp only [Bool.and_eq_true] at hk
    have : s = [] := by simpa using hk.1
    subst this; simp
   ·cases hk
 exact hs L fun a _ => key a
theorem sformatP_any (p : Pg) (v : Value) (w : World) (h : PgAt w w.heap.size v p) (hcn : cntL p.body ≤ 1100000) (hx : exL p.body ≤ 1900000) :
  Calls Tryz.prog 9 #[v] w fun e w' => e = .returned (sv (fmtP p)) ∧ Below w.heap.size w w' := by
 obtain ⟨cs, rfl, hd⟩ := h
 obtain ⟨A, c, Bb, cb, rows, rfl, hr, hs, hl, hk, hlb⟩ := pg_inv hd
 obtain ⟨V, P⟩ := p
 dsimp only at hr hs hl hk hlb hcn hx
 have b1 := box_below w (.cells #[.slice A V.length c, .slice Bb P.length cb] PI)
 have bx := hid (Blk.new w PI [.slice A V.length c, .slice Bb P.length cb])
 have hv := hid (svalidP ⟨V, P⟩ (by show exL P ≤ 1900000; omega) (by show cntL P ≤ 1900000; omega) _ _ (hd.go b1))
 have hb1 := hid b1
 by_cases hok : okP ⟨V, P⟩ = true
 ·have hf : fmtP ⟨V, P⟩ = [118, 97, 114, 115] ++ vJ V ++ [32, 59] ++ tJ P := by unfold fmtP; rw [if_pos hok]
  rw [hf]
  rw [hok] at hv
  unfold okP varsB at hok
  simp only [Bool.and_eq_true, decide_eq_true_eq] at hok
  obtain ⟨⟨hva, hv2, -⟩, hc8, -, hoks⟩ := hok
  have hv8 : ∀ x ∈ V, x.length ≤ 8 := fun x hx => by
   have := List.all_eq_true.1 hva x hx
   unfold C2.validB at this
   simp only [Bool.and_eq_true, decide_eq_true_eq] at this
   exact this.1
  have hvj := vJ_len V hv8
  have htj := tJ_len P (ok_short hv8 P hoks)
  have hfs := hid (fun W (hb : Below w.heap.size w W) => fsL P Bb cb rows W (hk.go hb) hcn (by omega) (by omega))
  have hrv := hid (fun W (hb : Below w.heap.size w W) => hr.below hb)
  have hvm := hid (fun (m : Nat) (x : List UInt8) (hm : V[m]? = some x) => hv8 x (List.mem_of_getElem? hm))
  have hvk := hid (fun (m : Nat) => show (vJ (V.take m)).length ≤ 1000 from by
   have := vJ_len (V.take m) fun x hx => hv8 x (List.mem_of_mem_take hx)
   rw [List.length_take] at this
   omega)
  have htk := hid (fun (m : Nat) (x : St) (hm : P[m]? = some x) => show (tJ (P.take m)).length ≤ 5000 ∧ (tSt x).length ≤ 5000 from by
   obtain ⟨hm', rfl⟩ := List.getElem?_eq_some_iff.1 hm
   have := tJ_le hm'
   omega)
  generalize hN : V.length = N at *
  generalize hM : P.length = M at *
  have hN2 : N ≤ 2 := hv2
  have hM8 : M ≤ 8 := by have := len_cnt P; omega
  have hvl : (vJ V).length ≤ 1000 := by omega
  have htl : (tJ P).length ≤ 5000 := by omega
  clear hd hr hk hs hl hlb hva hoks hv8 hcn hx b1 hf hvj htj hc8 hv2
  go_enter Tryz.func9, Tryz.ntmps9
  obtain ⟨q0, q1⟩ := two bx.out
  go_wp2_with fail
  refine hv.out.mono ?_
  rintro e w2 ⟨rfl, hb⟩
  have bx2 := hid (bx.out.below hb bx.out.lt)
  have hb2 := hid (hb1.out.trans (hb.mono hb1.out.size))
  have hsz : w.heap.size + 1 ≤ w2.heap.size := by have := hb.size; rw [size_alloc'] at this; exact this
  clear hb hv bx hb1 q0 q1
  go_wp2_with fail
  go_loopw [3, 4] (fun o i wr => ∃ m : Nat, m ≤ N ∧ i = .int .i64 m ∧ o = sv ([118, 97, 114, 115] ++ vJ (V.take m)) ∧ w2 = wr) (fun _ i _ => N - (Go.RowKit.intOf i).toNat)
  case atStart => exact ⟨0, Nat.zero_le _, rfl, rfl, rfl⟩
  case round =>
   obtain ⟨m, hm, rfl, rfl, rfl⟩ := hrel
   obtain ⟨q0, q1⟩ := two bx2.out
   by_cases hlt : m < N
   ·have hml : m < V.length := by omega
    obtain ⟨ad, rfl, -, hcell⟩ := (hrv.out w2 hb2.out).at_ (k := m) (by rw [List.length_map]; exact hml)
    rw [List.getElem_map] at hcell
    have ht := hid (show (⟨([118, 97, 114, 115] ++ vJ (V.take m)).toArray⟩ : ByteArray) ++ ⟨#[32]⟩ ++ ⟨V[m].toArray⟩ = ⟨([118, 97, 114, 115] ++ vJ (V.take (m + 1))).toArray⟩ by
     rw [vJ_take hml, bapp, bapp]; simp)
    have a1 := hvm.out m _ (List.getElem?_eq_getElem hml)
    have a2 := hvk.out m
    generalize V[m] = t at *
    have a3 : ([118, 97, 114, 115] ++ vJ (V.take m)).length ≤ 1004 := by rw [List.length_append]; simp; omega
    generalize [118, 97, 114, 115] ++ vJ (V.take m) = X at *
    clear q1
    go_wp2_with fail
    exact ⟨⟨m + 1, hlt, by go_num, congrArg Value.string ht.out, trivial⟩, by simp [Go.RowKit.intOf]; omega⟩
   ·obtain rfl : m = N := by omega
    have hcf := hid (hfs.out w2 hb2.out)
    have hf1 := hid (show (⟨([118, 97, 114, 115] ++ vJ (V.take m)).toArray⟩ : ByteArray) ++ ⟨#[32, 59]⟩ = ⟨([118, 97, 114, 115] ++ vJ V ++ [32, 59]).toArray⟩ by
     rw [List.take_of_length_le (by omega), bapp])
    have a3 : ([118, 97, 114, 115] ++ vJ (V.take m)).length ≤ 1004 := by rw [List.take_of_length_le (by omega), List.length_append]; simp; omega
    generalize [118, 97, 114, 115] ++ vJ (V.take m) = X at *
    clear hN
    go_wp2_with fail
    refine hcf.out.mono ?_
    rintro e w3 ⟨v, rfl, hG⟩
    obtain ⟨A1, c1, rfl, -, -, hr1, -⟩ := hG.len
    have hb3 := hid (hb2.out.trans (hG.2.mono hb2.out.size))
    replace hr1 := hid hr1
    rw [List.length_map, tL_len, hM]
    clear hG hcf q0 q1
    rw [hf1.out]
    go_wp2_with fail
    go_loopw [3, 6] (fun o i wr => ∃ m : Nat, m ≤ M ∧ i = .int .i64 m ∧ o = sv ([118, 97, 114, 115] ++ vJ V ++ [32, 59] ++ tJ (P.take m)) ∧ w3 = wr) (fun _ i _ => M - (Go.RowKit.intOf i).toNat)
    case atStart => exact ⟨0, Nat.zero_le _, rfl, by simp [tJ], rfl⟩
    case round =>
     obtain ⟨j, hj, rfl, rfl, rfl⟩ := hrel
     by_cases hlt : j < M
     ·have hjl : j < P.length := by omega
      obtain ⟨ad, rfl, -, hcell⟩ := hr1.out.at_ (k := j) (by rw [List.length_map, tL_len]; exact hjl)
      rw [List.getElem_map, show (tL P)[j]'(by rw [tL_len]; exact hjl) = tSt P[j] from List.getElem_map _] at hcell
      have ht := hid (show (⟨([118, 97, 114, 115] ++ vJ V ++ [32, 59] ++ tJ (P.take j)).toArray⟩ : ByteArray) ++ ⟨#[32]⟩ ++ ⟨(tSt P[j]).toArray⟩ = ⟨([118, 97, 114, 115] ++ vJ V ++ [32, 59] ++ tJ (P.take (j + 1))).toArray⟩ by
       rw [tJ_take hjl, bapp, bapp]; simp)
      have a1 := htk.out j _ (List.getElem?_eq_getElem hjl)
      have a2 := a1.2
      have a4 : ([118, 97, 114, 115] ++ vJ V ++ [32, 59] ++ tJ (P.take j)).length ≤ 7000 := by simp only [List.length_append]; simp; omega
      clear a1
      generalize tSt P[j] = t at *
      generalize [118, 97, 114, 115] ++ vJ V ++ [32, 59] ++ tJ (P.take j) = Y at *
      go_wp2_with fail
      exact ⟨⟨j + 1, hlt, by go_num, congrArg Value.string ht.out, trivial⟩, by simp [Go.RowKit.intOf]; omega⟩
     ·obtain rfl : j = M := by omega
      rw [List.take_of_length_le (show P.length ≤ j by omega)]
      go_wp2_with fail
      go_ret
      exact ⟨rfl, hb3.out⟩
 ·have hf : fmtP ⟨V, P⟩ = [] := by unfold fmtP; rw [if_neg hok]
  rw [hf]
  rw [show okP ⟨V, P⟩ = false by simpa using hok] at hv
  clear hd hr hk hs hl hlb hcn hx b1 hf hok
  go_enter Tryz.func9, Tryz.ntmps9
  obtain ⟨q0, q1⟩ := two bx.out
  go_wp2_with fail
  refine hv.out.mono ?_
  rintro e w2 ⟨rfl, hb⟩
  have hb2 := hid (hb1.out.trans (hb.mono hb1.out.size))
  clear hb q0 q1
  go_wp2_with fail
  go_ret
  exact ⟨rfl, hb2.out⟩
end Go.Proofs.YtiogceepjffmkaaGreatDoor.Gd
