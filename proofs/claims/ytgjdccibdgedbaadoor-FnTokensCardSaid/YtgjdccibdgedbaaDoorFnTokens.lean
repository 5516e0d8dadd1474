/- FnTokens: tokens are parsed from their formatted list: the walk. -/
import Derived.Test.YtgjdccibdgedbaaDoorDr7
import Derived.Test.YtgjdccibdgedbaaDoorLr
import Derived.Test.YtgjdccibdgedbaaDoorC5k
import Derived.Test.YtgjdccibdgedbaaDoorC5u
import Derived.Test.YtgjdccibdgedbaaDoorBig
set_option maxRecDepth 100000
namespace Go.Proofs.YtgjdccibdgedbaaDoor.FnTokens
open Go.RowKit Go.Lib Go.Sort Go.Proofs.YtgjdccibdgedbaaDoor.Com Go.Proofs.YtgjdccibdgedbaaDoor.Mem Go.Proofs.YtgjdccibdgedbaaDoor.Os Go.Proofs.YtgjdccibdgedbaaDoor.Ow Go.Proofs.YtgjdccibdgedbaaDoor.Tk

/-- which tokens are words, by their kinds -/
theorem word_kind {t : Tok} (h : GoodT t) : (t.k = 1 ∧ isWordB t t.s = true) ∨ (t.k = 2 ∧ isWordB t t.s = false) ∨ (t.k = 3 ∧ isWordB t t.s = true) := by
  unfold isWordB
  rcases h with ⟨h, _⟩ | ⟨h, _⟩ | ⟨h, _⟩ <;> rw [h] <;> simp
set_option maxRecDepth 100000 in
set_option maxHeartbeats 4000000 in
theorem walk (w : World) (hp : L1b.Pow w) (A : Option Addr) (c : Nat) (xs : List UInt8) (hr : Rd w w.heap.size A (xs.map bv)) (_ : xs.length ≤ 9223372036854775807) :
    Calls Tryd.prog 3 #[.slice A xs.length c] w fun e w' => e = .returned (.bool true) ∧ Below w.heap.size w w' := by
  have hbig := hid (Big.big_any A xs.length c w)
  by_cases hb : 1048576 < xs.length
  · rw [decide_eq_true (show 1048576 < (xs.length : Int) by omega)] at hbig
    go_enter Tryd.func3, Tryd.ntmps3
    go_wp2_with fail
    refine hbig.out.mono ?_
    rintro e w1 ⟨rfl, rfl⟩
    go_wp2_with fail
    go_ret
    exact ⟨rfl, Below.refl _ _⟩
  rw [decide_eq_false (show ¬ 1048576 < (xs.length : Int) by omega)] at hbig
  have hd1 := hid (Dr.drawTokenize A c xs w hr (by omega))
  have hp2 := hid (fun (w1 : World) (h : Below w.heap.size w w1) => hp.below h)
  clear hp hb hr
  go_enter Tryd.func3, Tryd.ntmps3
  go_wp2_with fail
  refine hbig.out.mono ?_
  rintro e w1 ⟨rfl, rfl⟩
  go_wp2_with fail
  refine hd1.out.mono ?_
  rintro e w1 ⟨⟨S, rfl, hS⟩, hb⟩
  have B1 := hid hb
  clear hb hd1 hbig
  have hi1 := hid (itokz S (by omega) w1)
  have hi2 := hid (fun w => stokz S (by omega) w)
  have hbd := hid (tokz_bad (S := S))
  have hgd := hid (tokz_good (S := S))
  have hag := hid (tokz_again (S := S))
  have hln := tokz_len S
  have hbg := hid (tokz_big (S := S))
  have hi1 := hid (show Calls Tryd.prog 7 #[.string ⟨S.toArray⟩] w1 fun e w' => ∃ r, e = .returned (.tuple #[r, .int .i64 (tokz S).2]) ∧ OwnT w1.heap.size w'.heap.size w' r (tokz S).1 ∧ Below w1.heap.size w1 w' from hi1.out)
  have hi2 := hid (show ∀ w, Calls Tryd.prog 8 #[.string ⟨S.toArray⟩] w fun e w' => ∃ r, e = .returned (.tuple #[r, .int .i64 (tokz S).2]) ∧ OwnT w.heap.size w'.heap.size w' r (tokz S).1 ∧ Below w.heap.size w w' from hi2.out)
  generalize hT : tokz S = T at *
  obtain ⟨L, bad⟩ := T
  dsimp only at hln hi1 hi2 hbd hgd hag
  have cmp : (bad != bad) = false := bne_self_eq_false _
  go_wp2_with fail
  refine hi1.out.mono ?_
  rintro e w2 ⟨v1, rfl, o1, hb⟩
  have B2 := hid (B1.out.trans (hb.mono B1.out.size))
  obtain ⟨A1, c1, rfl, -⟩ := o1.read
  have s2 := hb.size
  replace o1 := hid o1
  clear hb hi1
  go_wp2_with fail
  refine (hi2.out _).mono ?_
  rintro e w3 ⟨v2, rfl, -, hb⟩
  have B3 := hid (B2.out.trans (hb.mono B2.out.size))
  replace o1 := hid (o1.out.same (same_below hb (Nat.le_refl _)))
  have s3 := hb.size
  clear hb hi2
  by_cases hneg : bad = -1
  · subst hneg
    have hS4 : S.length ≤ 400 := by
      rcases Nat.lt_or_ge 400 S.length with h | h
      · have := hbg.out h; cases this
      · exact h
    have hgood := hgd.out hS4
    have hag2 := hag.out hS4
    clear hgd hag hbd hbg
    obtain ⟨A1', c1', e1, hr1, hc1, hm1, -⟩ := o1.out.read
    cases e1
    have hf : ∀ t ∈ L, FitT t := fun t ht => good_fit (hgood t ht).1
    have hz : szK L ≤ 1048576 := by
      have := good_size (fun t ht => (hgood t ht).1)
      unfold szK Lh.szL; rw [List.length_map]; omega
    have hfm := hid (ifmt A1 c1 L w3 hr1 hf hz (hp2.out _ B3.out))
    have hfl := fmt_len hf hz
    clear hf hz hr1
    generalize fmtT L = F at *
    have hi3 := fun w => itokz F (by omega) w
    have hgood := hid hgood
    by_cases hF : 400 < F.length
    · have tF : decide (400 < (F.length : Int)) = true := decide_eq_true (by omega)
      have eF := tokz_big hF
      have hi3 : ∀ w, Calls Tryd.prog 7 #[.string ⟨F.toArray⟩] w fun e w' => ∃ r, e = .returned (.tuple #[r, .int .i64 400]) ∧ OwnT w.heap.size w'.heap.size w' r [] ∧ Below w.heap.size w w' := fun w => by
        have := hi3 w; unfold TokOk at this; rw [eF] at this; exact this
      replace hi3 := hid hi3
      clear hag2 eF hgood
      go_wp2_with fail
      refine hfm.out.mono ?_
      rintro e w4 ⟨rfl, hb⟩
      have B4 := hid (B3.out.trans (hb.mono B3.out.size))
      clear hb
      go_wp2_with fail
      refine (hi3.out _).mono ?_
      rintro e w5 ⟨v3, rfl, -, hb⟩
      have B5 := hid (B4.out.trans (hb.mono B4.out.size))
      clear hb
      go_wp2_with fail
      go_ret
      exact ⟨rfl, B5.out⟩
    · have tF : decide (400 < (F.length : Int)) = false := decide_eq_false (by omega)
      have eF := hag2 (by omega)
      have hi3 : ∀ w, Calls Tryd.prog 7 #[.string ⟨F.toArray⟩] w fun e w' => ∃ r, e = .returned (.tuple #[r, .int .i64 (-1)]) ∧ OwnT w.heap.size w'.heap.size w' r (shiftT 0 L) ∧ Below w.heap.size w w' := fun w => by
        have := hi3 w; unfold TokOk at this; rw [eF] at this; exact this
      replace hi3 := hid hi3
      have hsl := shiftT_len 0 L
      have hsa := hid (shiftT_at 0 L)
      generalize shiftT 0 L = Z at *
      have cmpL : ((L.length : Int) != (L.length : Int)) = false := bne_self_eq_false _
      clear hag2 eF
      go_wp2_with fail
      refine hfm.out.mono ?_
      rintro e w4 ⟨rfl, hb⟩
      have B4 := hid (B3.out.trans (hb.mono B3.out.size))
      replace o1 := hid (o1.out.same (same_below hb (by omega)))
      have s4 := hb.size
      clear hb
      go_wp2_with fail
      refine (hi3.out _).mono ?_
      rintro e w5 ⟨v3, rfl, o2, hb⟩
      have B5 := hid (B4.out.trans (hb.mono B4.out.size))
      replace o1 := o1.out.same (same_below hb (by omega))
      obtain ⟨A1', c1', e1, hr1, -⟩ := o1.read
      cases e1
      obtain ⟨A2, c2, e2, hr2, -⟩ := o2.read
      rw [hsl] at e2
      subst e2
      have hr1 := hid hr1
      have hr2 := hid hr2
      clear hb hi3 o1 o2
      go_wp2_with fail
      generalize Value.tuple #[Value.slice A1 L.length c1, Value.int IntKind.i64 (-1)] = D1
      generalize Value.tuple #[v2, Value.int IntKind.i64 (-1)] = D2
      generalize Value.tuple #[Value.slice A2 L.length c2, Value.int IntKind.i64 (-1)] = D3
      generalize Value.slice A xs.length c = D5
      generalize sv F = D4
      go_loopw [11] (fun i wr => ∃ m : Nat, m ≤ L.length ∧ i = .int .i64 m ∧ Below w5.heap.size w5 wr) (fun i _ => L.length - (Go.RowKit.intOf i).toNat)
      case atStart => exact ⟨0, Nat.zero_le _, rfl, Below.refl _ _⟩
      case round =>
        obtain ⟨m, hml, rfl, hb⟩ := hrel
        by_cases hlt : m < L.length
        · have tm : decide ((m : Int) < (L.length : Int)) = true := decide_eq_true (by omega)
          obtain ⟨p, hpz⟩ := hsa.out m hlt
          have hz : m < Z.length := by omega
          obtain ⟨ad2, rfl, -, k0, k1, k2, k3⟩ := rd_tok (hr2.out.below hb) hz
          obtain ⟨ad1, rfl, -, l0, l1, l2, l3⟩ := rd_tok (hr1.out.below hb) hlt
          have ez : Z[m] = ⟨L[m].k, L[m].n, p, L[m].s⟩ := by rw [List.getElem?_eq_getElem hz] at hpz; exact Option.some.inj hpz
          rw [ez] at k0 k1 k2 k3
          obtain ⟨hg1, hg2, hg3⟩ := hgood.out L[m] (List.getElem_mem _)
          have hb7 := hb.alloc hb.size (.cells #[.int .i64 L[m].k, .int .i64 L[m].n, .int .i64 L[m].p, sv L[m].s] TK)
          obtain ⟨ad1', e1', -, m0, m1, m2, m3⟩ := rd_tok (hr1.out.below hb7) hlt
          cases e1'
          have hb6 := hb.alloc hb.size (.cells #[.int .i64 L[m].k, .int .i64 L[m].n, .int .i64 p, sv L[m].s] TK)
          obtain ⟨ad1', e1', -, -, -, n2, -⟩ := rd_tok (hr1.out.below hb6) hlt
          cases e1'
          clear hb6
          have hwk := word_kind hg1
          have hiw := fun w => iword_any L[m] L[m].s w
          clear hpz ez hg1
          generalize L[m] = t at *
          obtain ⟨tk, tn, tp, ts⟩ := t
          dsimp only at n2 k0 k1 k2 k3 l0 l1 l2 l3 hg2 hg3 hb7 m0 m1 m2 m3 hwk
          have tp1 : decide ((S.length : Int) ≤ tp) = false := decide_eq_false (by omega)
          have x7 := Blk.new wr TK (tcs ⟨tk, tn, tp, ts⟩)
          obtain ⟨y0, y1, y2, y3⟩ := four x7
          have hb7 := hid hb7
          replace m0 := hid (cell_regrown m0)
          replace m1 := hid (cell_regrown m1)
          replace m2 := hid (cell_regrown m2)
          replace m3 := hid (cell_regrown m3)
          replace y0 := hid (cell_regrown y0)
          replace y1 := hid (cell_regrown y1)
          replace y2 := hid (cell_regrown y2)
          replace y3 := hid (cell_regrown y3)
          rcases hwk with ⟨hk0, hw⟩ | ⟨hk0, hw⟩ | ⟨hk0, hw⟩
          · have hk : tk = 1 := hk0
            clear hk0
            subst hk
            rw [hw] at hiw
            have cM := hid (fun (w7 : World) (d : Nat) (os : Array Obj) => Calls.regrown_of (d := d) (os := os) (hiw (grow (redrawn w7 d) os)))
            clear hiw hw x7
            go_wp2_with fail
            obtain ⟨W7, hW7⟩ : ∃ W7, W7 = wr.alloc (.cells #[.int .i64 1, .int .i64 tn, .int .i64 tp, sv ts] TK) := ⟨_, rfl⟩
            simp only [← hW7] at hb7 m0 m1 m2 m3 y0 y1 y2 y3
            rw [← hW7]
            replace m0 := m0.out
            replace m1 := m1.out
            replace m2 := m2.out
            replace m3 := m3.out
            replace y0 := y0.out
            replace y1 := y1.out
            replace y2 := y2.out
            replace y3 := y3.out
            clear hW7 n2 k0 k1 k2 k3 l0 l1 l2 l3
            refine wp_region_quiet_below (by kernel_rfl) (by kernel_rfl) ?_
            repeat (quiet_step (exact cM.out _ _ _))
            refine wpQuiet_nil ?_
            intro _ hw'
            obtain ⟨⟨dq, osq⟩, hw''⟩ := hw'
            subst hw''
            have hq := hid (hb7.out.trans ((below_regrown W7 dq osq).mono hb7.out.size))
            clear m0 m1 m2 m3 y0 y1 y2 y3 cM hb7
            generalize grow (redrawn W7 dq) osq = wq at *
            go_wp2_with fail
            exact ⟨⟨m + 1, hlt, by go_num, hq.out⟩, by simp [Go.RowKit.intOf]; omega⟩
          · have hk : tk = 2 := hk0
            clear hk0
            subst hk
            rw [hw] at hiw
            have cM := hid (fun (w7 : World) (d : Nat) (os : Array Obj) => Calls.regrown_of (d := d) (os := os) (hiw (grow (redrawn w7 d) os)))
            clear hiw hw x7
            go_wp2_with fail
            obtain ⟨W7, hW7⟩ : ∃ W7, W7 = wr.alloc (.cells #[.int .i64 2, .int .i64 tn, .int .i64 tp, sv ts] TK) := ⟨_, rfl⟩
            simp only [← hW7] at hb7 m0 m1 m2 m3 y0 y1 y2 y3
            rw [← hW7]
            replace m0 := m0.out
            replace m1 := m1.out
            replace m2 := m2.out
            replace m3 := m3.out
            replace y0 := y0.out
            replace y1 := y1.out
            replace y2 := y2.out
            replace y3 := y3.out
            clear hW7 n2 k0 k1 k2 k3 l0 l1 l2 l3
            refine wp_region_quiet_below (by kernel_rfl) (by kernel_rfl) ?_
            repeat (quiet_step (exact cM.out _ _ _))
            refine wpQuiet_nil ?_
            intro _ hw'
            obtain ⟨⟨dq, osq⟩, hw''⟩ := hw'
            subst hw''
            have hq := hid (hb7.out.trans ((below_regrown W7 dq osq).mono hb7.out.size))
            clear m0 m1 m2 m3 y0 y1 y2 y3 cM hb7
            generalize grow (redrawn W7 dq) osq = wq at *
            go_wp2_with fail
            exact ⟨⟨m + 1, hlt, by go_num, hq.out⟩, by simp [Go.RowKit.intOf]; omega⟩
          · have hk : tk = 3 := hk0
            clear hk0
            subst hk
            rw [hw] at hiw
            have cM := hid (fun (w7 : World) (d : Nat) (os : Array Obj) => Calls.regrown_of (d := d) (os := os) (hiw (grow (redrawn w7 d) os)))
            clear hiw hw x7
            go_wp2_with fail
            obtain ⟨W7, hW7⟩ : ∃ W7, W7 = wr.alloc (.cells #[.int .i64 3, .int .i64 tn, .int .i64 tp, sv ts] TK) := ⟨_, rfl⟩
            simp only [← hW7] at hb7 m0 m1 m2 m3 y0 y1 y2 y3
            rw [← hW7]
            replace m0 := m0.out
            replace m1 := m1.out
            replace m2 := m2.out
            replace m3 := m3.out
            replace y0 := y0.out
            replace y1 := y1.out
            replace y2 := y2.out
            replace y3 := y3.out
            clear hW7 n2 k0 k1 k2 k3 l0 l1 l2 l3
            refine wp_region_quiet_below (by kernel_rfl) (by kernel_rfl) ?_
            repeat (quiet_step (exact cM.out _ _ _))
            refine wpQuiet_nil ?_
            intro _ hw'
            obtain ⟨⟨dq, osq⟩, hw''⟩ := hw'
            subst hw''
            have hq := hid (hb7.out.trans ((below_regrown W7 dq osq).mono hb7.out.size))
            clear m0 m1 m2 m3 y0 y1 y2 y3 cM hb7
            generalize grow (redrawn W7 dq) osq = wq at *
            go_wp2_with fail
            exact ⟨⟨m + 1, hlt, by go_num, hq.out⟩, by simp [Go.RowKit.intOf]; omega⟩
        · obtain rfl : m = L.length := by omega
          have tm : decide ((L.length : Int) < (L.length : Int)) = false := decide_eq_false (by omega)
          go_wp2_with fail
          go_ret
          exact ⟨rfl, B5.out.trans (hb.mono B5.out.size)⟩
  · obtain ⟨hL, h0⟩ := hbd.out hneg
    have t1 : decide (0 ≤ bad) = true := decide_eq_true h0
    have hL : L = [] := hL
    subst hL
    go_wp2_with fail
    go_ret
    exact ⟨rfl, B3.out⟩
end Go.Proofs.YtgjdccibdgedbaaDoor.FnTokens
