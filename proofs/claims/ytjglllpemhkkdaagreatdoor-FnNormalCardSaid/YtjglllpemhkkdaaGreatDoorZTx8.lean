/- The text of statements and programs; the model's FormatStmts by its contract. -/
import Derived.Test.YtjglllpemhkkdaaGreatDoorZF7a
import Derived.Test.YtjglllpemhkkdaaGreatDoorZE8
import Derived.Test.YtjglllpemhkkdaaGreatDoorZS8a
import Derived.BigQuiet
import Derived.Test.YtjglllpemhkkdaaGreatDoorZPp
set_option maxRecDepth 100000
namespace Go.Proofs.YtjglllpemhkkdaaGreatDoor.Gd
open Go.RowKit Go.Lib Go.Sort Com Mem YtjglllpemhkkdaaGreatDoor.Os Ow Tr Tk

mutual
def tSt : St → List UInt8
  | .mk k s e bs es =>
    if k = 1 then s ++ [32, 58, 61, 32] ++ fmtX e ++ [32, 59]
    else if k = 4 then [101, 109, 105, 116, 32] ++ fmtX e ++ [32, 59]
    else if k = 3 then [119, 104, 105, 108, 101, 32] ++ fmtX e ++ [32] ++ (123 :: tJ bs ++ [32, 125])
    else if k = 2 then (if 0 < es.length then [105, 102, 32] ++ fmtX e ++ [32] ++ (123 :: tJ bs ++ [32, 125]) ++ [32, 101, 108, 115, 101, 32] ++ (123 :: tJ es ++ [32, 125])
      else [105, 102, 32] ++ fmtX e ++ [32] ++ (123 :: tJ bs ++ [32, 125]))
    else [63]
def tJ : List St → List UInt8
  | [] => []
  | a :: r => 32 :: (tSt a ++ tJ r)
end
def tB (L : List St) : List UInt8 := 123 :: tJ L ++ [32, 125]
def tL (L : List St) : List (List UInt8) := L.map tSt
theorem tL_len (L : List St) : (tL L).length = L.length := List.length_map _
theorem tSt_mk (k : Int) (s : List UInt8) (e : T) (bs es : List St) : tSt (.mk k s e bs es) =
    (if k = 1 then s ++ [32, 58, 61, 32] ++ fmtX e ++ [32, 59]
    else if k = 4 then [101, 109, 105, 116, 32] ++ fmtX e ++ [32, 59]
    else if k = 3 then [119, 104, 105, 108, 101, 32] ++ fmtX e ++ [32] ++ tB bs
    else if k = 2 then (if 0 < es.length then [105, 102, 32] ++ fmtX e ++ [32] ++ tB bs ++ [32, 101, 108, 115, 101, 32] ++ tB es
      else [105, 102, 32] ++ fmtX e ++ [32] ++ tB bs)
    else [63]) := by rw [tSt]; rfl
theorem tJ_app (a b : List St) : tJ (a ++ b) = tJ a ++ tJ b := by
  induction a with
  | nil => simp [tJ]
  | cons x r ih => simp [tJ, ih]
theorem tJ_take {L : List St} {m : Nat} (h : m < L.length) : tJ (L.take (m + 1)) = tJ (L.take m) ++ (32 :: tSt L[m]) := by
  rw [List.take_add_one, List.getElem?_eq_getElem h, tJ_app]
  simp [tJ]
theorem tJ_le {L : List St} {m : Nat} (h : m < L.length) : (tJ (L.take m)).length + (1 + (tSt L[m]).length) ≤ (tJ L).length := by
  have h1 : (tJ L).length = (tJ (L.take (m + 1))).length + (tJ (L.drop (m + 1))).length := by
    rw [← List.length_append, ← tJ_app, List.take_append_drop]
  rw [tJ_take h, List.length_append, List.length_cons] at h1
  omega
theorem len_cnt (L : List St) : L.length ≤ cntL L := by
  induction L with
  | nil => simp [cntL]
  | cons a r ih =>
    obtain ⟨k, s, e, bs, es⟩ := a
    simp only [cntL, cntSt, List.length_cons]; omega
def FsL (L : List St) : Prop := ∀ (A : Option Addr) (c : Nat) (rows : Nat → List Value) (w : World), Row w w.heap.size 1 A (dl L) rows → cntL L ≤ 1100000 → exL L ≤ 2000000 → (tJ L).length ≤ 1000000000000 →
  Calls Tryz.prog 29 #[.slice A L.length c] w fun e w' => ∃ v, e = .returned v ∧ Grow 9 w w' v ((tL L).map sv)
set_option maxHeartbeats 4000000 in
theorem blk10 (L : List St) (h : FsL L) (A : Option Addr) (c : Nat) (rows : Nat → List Value) (w : World) (hk : Row w w.heap.size 1 A (dl L) rows) (hcn : cntL L ≤ 1100000) (hx : exL L ≤ 2000000) (hj : (tJ L).length ≤ 1000000000000) :
    Calls Tryz.prog 138 #[.slice A L.length c] w fun e w' => e = .returned (sv (tB L)) ∧ Below w.heap.size w w' := by
  have hc := hid (h A c rows w hk hcn hx hj)
  have hN1 := len_cnt L
  generalize hN : L.length = N at *
  clear hk
  go_enter Tryz.func138, Tryz.ntmps138
  go_wp2_with fail
  refine hc.out.mono ?_
  rintro e w1 ⟨v, rfl, hG⟩
  obtain ⟨A1, c1, rfl, -, -, hr, -⟩ := hG.len
  have hb1 := hid hG.2
  have hr := hid hr
  rw [List.length_map, tL_len, hN]
  clear hG hc
  go_wp2_with fail
  go_loopw [3, 5] (fun o i wr => ∃ m : Nat, m ≤ N ∧ i = .int .i64 m ∧ o = sv (123 :: tJ (L.take m)) ∧ Below w1.heap.size w1 wr) (fun _ i _ => N - (Go.RowKit.intOf i).toNat)
  case atStart => exact ⟨0, Nat.zero_le _, rfl, by simp [tJ], Below.refl _ _⟩
  case round =>
    obtain ⟨m, hm, rfl, rfl, hb⟩ := hrel
    by_cases hlt : m < N
    · have hml : m < L.length := by omega
      obtain ⟨ad, rfl, -, hcell⟩ := (hr.out.below hb).at_ (k := m) (by rw [List.length_map, tL_len]; exact hml)
      rw [List.getElem_map, show (tL L)[m]'(by rw [tL_len]; exact hml) = tSt L[m] from List.getElem_map _] at hcell
      have ht := hid (show (⟨(123 :: tJ (L.take m)).toArray⟩ : ByteArray) ++ ⟨#[32]⟩ ++ ⟨(tSt L[m]).toArray⟩ = ⟨(123 :: tJ (L.take (m + 1))).toArray⟩ by
        rw [tJ_take hml, bapp, bapp]; simp)
      have hb := hid hb
      have hjl := tJ_le hml
      generalize L[m] = t at *
      have hj1 : (123 :: tJ (L.take m)).length ≤ 1000000000001 := by rw [List.length_cons]; omega
      have hj2 : (tSt t).length ≤ 1000000000000 := by omega
      go_wp2_with fail
      exact ⟨⟨m + 1, hlt, by go_num, congrArg Value.string ht.out, hb.out⟩, by simp [Go.RowKit.intOf]; omega⟩
    · obtain rfl : m = N := by omega
      have hj1 : (tJ (L.take m)).length ≤ 1000000000000 := by rw [List.take_of_length_le (by omega)]; omega
      have ht := hid (show (⟨(123 :: tJ (L.take m)).toArray⟩ : ByteArray) ++ ⟨#[32, 125]⟩ = ⟨(tB L).toArray⟩ by
        rw [List.take_of_length_le (by omega), bapp]; rfl)
      have hb := hid (hb1.out.trans (hb.mono hb1.out.size))
      clear hj hN hN1 hm h
      generalize tJ (L.take m) = x at *
      go_wp2_with fail
      go_ret
      exact ⟨congrArg (fun x => Ending.returned (Value.string x)) ht.out, hb.out⟩

set_option maxHeartbeats 8000000 in
theorem stm10 (k : Int) (s : List UInt8) (e : T) (bs es : List St) (hB : FsL bs) (hE : FsL es) (ek en : Int) (en' : List UInt8) (A : Option Addr) (l c : Nat) (Bb : Option Addr) (cb : Nat) (C : Option Addr) (cc : Nat) (rb rc : Nat → List Value) (w : World)
    (hx : Ex w w.heap.size (nv ek en en' A l c) e) (hrb : Row w w.heap.size 1 Bb (dl bs) rb) (hrc : Row w w.heap.size 1 C (dl es) rc) (hcb : cntL bs ≤ 1100000) (hce : cntL es ≤ 1100000) (hxb : exL bs ≤ 2000000) (hxe : exL es ≤ 2000000) (hxx : cntT e ≤ 2000000) (ht : (tSt (.mk k s e bs es)).length ≤ 1000000000000) :
    Calls Tryz.prog 81 #[.agg #[.int .i64 k, sv s, .int .i64 ek, .int .i64 en, sv en', .slice A l c, .slice Bb bs.length cb, .slice C es.length cc]] w fun e' w' => e' = .returned (sv (tSt (.mk k s e bs es))) ∧ Below w.heap.size w w' := by
  have b1 := box_below w (.cells #[.int .i64 k, sv s, .int .i64 ek, .int .i64 en, sv en', .slice A l c, .slice Bb bs.length cb, .slice C es.length cc] 87)
  have bx := hid (Blk.new w 87 [.int .i64 k, sv s, .int .i64 ek, .int .i64 en, sv en', .slice A l c, .slice Bb bs.length cb, .slice C es.length cc])
  have cX := hid (sformat_any e _ _ (hx.go b1) hxx)
  have cB := hid (fun W (hb : Below w.heap.size w W) hj => blk10 bs hB Bb cb rb W (hrb.go hb) hcb hxb hj)
  have cE := hid (fun W (hb : Below w.heap.size w W) hj => blk10 es hE C cc rc W (hrc.go hb) hce hxe hj)
  have hb1 := hid b1
  have hX := fmtX_len e
  rw [tSt_mk] at ht ⊢
  generalize hlb : bs.length = lb at *
  generalize hle : es.length = le at *
  generalize fmtX e = x at *
  unfold tB at *
  generalize tJ bs = y at *
  generalize tJ es = z at *
  obtain ⟨r, hr⟩ : ∃ r, (if k = 1 then s ++ [32, 58, 61, 32] ++ x ++ [32, 59] else if k = 4 then [101, 109, 105, 116, 32] ++ x ++ [32, 59] else if k = 3 then [119, 104, 105, 108, 101, 32] ++ x ++ [32] ++ (123 :: y ++ [32, 125])
    else if k = 2 then (if 0 < le then [105, 102, 32] ++ x ++ [32] ++ (123 :: y ++ [32, 125]) ++ [32, 101, 108, 115, 101, 32] ++ (123 :: z ++ [32, 125]) else [105, 102, 32] ++ x ++ [32] ++ (123 :: y ++ [32, 125])) else [63]) = r := ⟨_, rfl⟩
  rw [hr] at ht ⊢
  clear hB hE hx hrb hrc hcb hce hxb hxe hxx b1 hlb hle
  go_enter Tryz.func81, Tryz.ntmps81
  obtain ⟨q0, q1, q2, q3, q4, q5, q6, q7⟩ := eight bx.out
  go_wp2_with fail
  refine cX.out.mono ?_
  rintro e2 w2 ⟨rfl, hb⟩
  have bx2 := hid (bx.out.below hb bx.out.lt)
  have hb2 := hid (hb1.out.trans (hb.mono hb1.out.size))
  clear hb cX bx hb1 q0 q1 q2 q3 q4 q5 q6 q7
  obtain ⟨q0, q1, q2, q3, q4, q5, q6, q7⟩ := eight bx2.out
  by_cases h1 : k = 1
  · subst h1
    rw [if_pos rfl] at hr
    rw [← hr] at ht
    simp only [List.length_append, List.length_cons, List.length_nil] at ht
    have hs : s.length ≤ 1000000000000 := by omega
    have hf := hid (show (⟨s.toArray⟩ : ByteArray) ++ ⟨#[32, 58, 61, 32]⟩ ++ ⟨x.toArray⟩ ++ ⟨#[32, 59]⟩ = ⟨r.toArray⟩ by rw [← hr, bapp, bapp, bapp])
    clear q2 q3 q4 q5 q6 q7 cB cE ht hr
    go_wp2_with fail
    go_ret
    exact ⟨congrArg (fun x => Ending.returned (Value.string x)) hf.out, hb2.out⟩
  have e1 : (k == 1) = false := beq_false_of_ne h1
  rw [if_neg h1] at hr
  by_cases h4 : k = 4
  · subst h4
    rw [if_pos rfl] at hr
    have hf := hid (show (⟨#[101, 109, 105, 116, 32]⟩ : ByteArray) ++ ⟨x.toArray⟩ ++ ⟨#[32, 59]⟩ = ⟨r.toArray⟩ by rw [← hr, bapp, bapp])
    clear q1 q2 q3 q4 q5 q6 q7 cB cE ht hr e1 h1
    go_wp2_with fail
    go_ret
    exact ⟨congrArg (fun x => Ending.returned (Value.string x)) hf.out, hb2.out⟩
  have e4 : (k == 4) = false := beq_false_of_ne h4
  rw [if_neg h4] at hr
  by_cases h3 : k = 3
  · subst h3
    rw [if_pos rfl] at hr
    rw [← hr] at ht
    simp only [List.length_append, List.length_cons, List.length_nil] at ht
    have hy : y.length ≤ 1000000000000 := by omega
    have hf := hid (show (⟨#[119, 104, 105, 108, 101, 32]⟩ : ByteArray) ++ ⟨x.toArray⟩ ++ ⟨#[32]⟩ ++ ⟨(123 :: y ++ [32, 125]).toArray⟩ = ⟨r.toArray⟩ by rw [← hr, bapp, bapp, bapp])
    have hc := hid (cB.out w2 hb2.out hy)
    have hyl : (123 :: y ++ [32, 125]).length ≤ 1000000000003 := by simp; omega
    generalize (123 :: y ++ [32, 125]) = yy at *
    clear q1 q2 q3 q4 q5 q7 cB cE ht hr e1 h1 e4 h4 hy
    go_wp2_with fail
    refine hc.out.mono ?_
    rintro e3 w3 ⟨rfl, hb⟩
    have hb3 := hid (hb2.out.trans (hb.mono hb2.out.size))
    clear hb hc q0 q6
    go_wp2_with fail
    go_ret
    exact ⟨congrArg (fun x => Ending.returned (Value.string x)) hf.out, hb3.out⟩
  have e3 : (k == 3) = false := beq_false_of_ne h3
  rw [if_neg h3] at hr
  by_cases h2 : k = 2
  · subst h2
    rw [if_pos rfl] at hr
    by_cases hl : 0 < le
    · rw [if_pos hl] at hr
      rw [← hr] at ht
      simp only [List.length_append, List.length_cons, List.length_nil] at ht
      have hy : y.length ≤ 1000000000000 := by omega
      have hz : z.length ≤ 1000000000000 := by omega
      have hyl : (123 :: y ++ [32, 125]).length ≤ 1000000000003 := by simp; omega
      have hzl : (123 :: z ++ [32, 125]).length ≤ 1000000000003 := by simp; omega
      have hf := hid (show (⟨#[105, 102, 32]⟩ : ByteArray) ++ ⟨x.toArray⟩ ++ ⟨#[32]⟩ ++ ⟨(123 :: y ++ [32, 125]).toArray⟩ ++ ⟨#[32, 101, 108, 115, 101, 32]⟩ ++ ⟨(123 :: z ++ [32, 125]).toArray⟩ = ⟨r.toArray⟩ by rw [← hr, bapp, bapp, bapp, bapp, bapp])
      have c1 := hid (fun (d : Nat) (os : Array Obj) => Calls.regrown_of (d := d) (os := os) (cB.out (grow (redrawn w2 d) os) (hb2.out.trans ((below_regrown w2 d os).mono hb2.out.size)) hy))
      have c2 := hid (fun (d : Nat) (os : Array Obj) => Calls.regrown_of (d := d) (os := os) (cE.out (grow (redrawn w2 d) os) (hb2.out.trans ((below_regrown w2 d os).mono hb2.out.size)) hz))
      have t0 : decide (0 < (le : Int)) = true := decide_eq_true (by omega)
      have r6 := cell_regrown q6
      have r7 := cell_regrown q7
      generalize (123 :: y ++ [32, 125]) = yy at *
      generalize (123 :: z ++ [32, 125]) = zz at *
      clear q1 q2 q3 q4 q5 cB cE ht hr e1 h1 e4 h4 e3 h3 hy hz
      go_wp2_with fail
      refine wp_region_quiet_below (by kernel_rfl) (by kernel_rfl) ?_
      repeat (go_big_quiet_step (first | with_reducible exact c1.out _ _ | with_reducible exact c2.out _ _))
      refine wpQuiet_nil ?_
      intro _ hw'
      obtain ⟨⟨dq, osq⟩, hw''⟩ := hw'
      subst hw''
      have hb3 := hid (hb2.out.trans ((below_regrown w2 dq osq).mono hb2.out.size))
      clear q0 q6 q7 r6 r7 c1 c2 bx2
      generalize grow (redrawn w2 dq) osq = wq at *
      go_wp2_with fail
      go_ret
      exact ⟨congrArg (fun x => Ending.returned (Value.string x)) hf.out, hb3.out⟩
    · rw [if_neg hl] at hr
      rw [← hr] at ht
      simp only [List.length_append, List.length_cons, List.length_nil] at ht
      have hy : y.length ≤ 1000000000000 := by omega
      have hf := hid (show (⟨#[105, 102, 32]⟩ : ByteArray) ++ ⟨x.toArray⟩ ++ ⟨#[32]⟩ ++ ⟨(123 :: y ++ [32, 125]).toArray⟩ = ⟨r.toArray⟩ by rw [← hr, bapp, bapp, bapp])
      have hc := hid (cB.out w2 hb2.out hy)
      have hyl : (123 :: y ++ [32, 125]).length ≤ 1000000000003 := by simp; omega
      have t0 : decide (0 < (le : Int)) = false := decide_eq_false (by omega)
      generalize (123 :: y ++ [32, 125]) = yy at *
      clear q1 q2 q3 q4 q5 cB cE ht hr e1 h1 e4 h4 e3 h3 hy
      go_wp2_with fail
      refine hc.out.mono ?_
      rintro e3 w3 ⟨rfl, hb⟩
      have hb3 := hid (hb2.out.trans (hb.mono hb2.out.size))
      clear hb hc q0 q6 q7
      go_wp2_with fail
      go_ret
      exact ⟨congrArg (fun x => Ending.returned (Value.string x)) hf.out, hb3.out⟩
  have e2 : (k == 2) = false := beq_false_of_ne h2
  rw [if_neg h2] at hr
  subst hr
  clear q1 q2 q3 q4 q5 q6 q7 cB cE ht h1 h2 h3 h4
  go_wp2_with fail
  go_ret
  exact ⟨rfl, hb2.out⟩
set_option maxHeartbeats 8000000 in
theorem fsL_any : ∀ (M : Nat) (L : List St), cntL L = M → FsL L := by
  intro M
  induction M using Nat.strongRecOn with
  | ind M ih =>
    intro L hM A c rows w hk hcn hxn hj
    have hih : ∀ L' : List St, cntL L' < M → FsL L' := fun L' h => ih _ h L' rfl
    replace hih := hid hih
    clear ih
    have hll := len_cnt L
    have hG0 := hid (Grow.lit0 9 w)
    replace hk := hid hk
    generalize hN : L.length = N at *
    go_enter Tryz.func29, Tryz.ntmps29
    go_wp2_with fail
    go_loopw [3, 4] (fun o i wr => ∃ m : Nat, m ≤ N ∧ i = .int .i64 m ∧ Grow 9 w wr o ((tL (L.take m)).map sv)) (fun _ i _ => N - (Go.RowKit.intOf i).toNat)
    case atStart => exact ⟨0, Nat.zero_le _, rfl, hG0.out⟩
    case round =>
      obtain ⟨m, hm, rfl, hG⟩ := hrel
      have hb := hid hG.2
      replace hG := hid hG
      by_cases hlt : m < N
      · have hml : m < L.length := by omega
        have hkr := hk.out.go hb.out
        have h1 := cntSt_mem (List.getElem_mem hml)
        have h2 := exSt_mem (List.getElem_mem hml)
        have h3 := tJ_le hml
        obtain ⟨ad, k, s, e, bs, es, ek, en, en', A1, l1, c1, Bb, cb, C, cc, rb, rc, rfl, -, hT, hld, -, hx, hrb, -, hrc, -⟩ := hkr.st (m := m) hml
        have hst := hid (show (tL (L.take (m + 1))).map sv = (tL (L.take m)).map sv ++ [sv (tSt (.mk k s e bs es))] by
          rw [List.take_add_one, List.getElem?_eq_getElem hml, hT]; simp [tL])
        have hq : ((tL (L.take m)).map sv).length < 1000000000000 := by rw [List.length_map, tL_len, List.length_take]; omega
        rw [hT] at h1 h2 h3
        simp only [cntSt] at h1
        rw [exSt_mk] at h2
        have hc := hid (stm10 k s e bs es (hih.out bs (by omega)) (hih.out es (by omega)) ek en en' A1 l1 c1 Bb cb C cc rb rc wr hx hrb hrc (by omega) (by omega) (by omega) (by omega) (by omega) (by omega))
        obtain ⟨q0, q1, q2, q3, q4, q5, q6, q7⟩ := ld8 hld
        have hNb : N ≤ 1100000 := by omega
        clear hx hrb hrc hld hkr hT h1 h2 h3 hM hcn hxn hj hll hml
        generalize tSt (.mk k s e bs es) = x at *
        generalize bs.length = lb at *
        generalize es.length = le at *
        go_wp2_with fail
        refine hc.out.mono ?_
        rintro e2 w2 ⟨rfl, hb2⟩
        have hG2 := hid (hG.out.below hb2 (Nat.le_refl _))
        clear hb2 hc q0 q1 q2 q3 q4 q5 q6 q7
        go_wp2_with (at_builtin; refine hG2.out.append strT (sv x) rfl hq rfl _ _ rfl rfl rfl ?_; intro v5 w5 hG5 _ _; replace hG5 := hid hG5)
        exact ⟨⟨m + 1, hlt, by go_num, by rw [hst.out]; exact hG5.out⟩, by simp [Go.RowKit.intOf]; omega⟩
      · obtain rfl : m = N := by omega
        have hfin := hid (show tL (L.take m) = tL L by rw [List.take_of_length_le (by omega)])
        go_wp2_with fail
        go_ret
        exact ⟨_, rfl, by rw [← hfin.out]; exact hG.out⟩
theorem fsL (L : List St) : FsL L := fsL_any _ L rfl

end Go.Proofs.YtjglllpemhkkdaaGreatDoor.Gd
