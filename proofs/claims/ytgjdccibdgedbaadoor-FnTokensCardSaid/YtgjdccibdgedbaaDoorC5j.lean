/- The program's Tokenize. -/
import Derived.Test.YtgjdccibdgedbaaDoorC5i
import Derived.Test.YtgjdccibdgedbaaDoorTa
set_option maxRecDepth 100000
namespace Go.Proofs.YtgjdccibdgedbaaDoor.Tk
open Go.RowKit Go.Lib Go.Proofs.YtgjdccibdgedbaaDoor.Num Go.Proofs.YtgjdccibdgedbaaDoor.Com Go.Proofs.YtgjdccibdgedbaaDoor.Mem Go.Proofs.YtgjdccibdgedbaaDoor.Ch Go.Proofs.YtgjdccibdgedbaaDoor.Os Go.Proofs.YtgjdccibdgedbaaDoor.C3

set_option maxHeartbeats 2000000 in
theorem rnum (T : List UInt8) (h0 : 0 < T.length) (hl : T.length ≤ 400) (hb : isLow (bt T 0 h0) = false) (hd : isDig (bt T 0 h0) = true) (w : World) : Calls Tryd.prog 36 #[.string ⟨T.toArray⟩] w (RdOk T h0 w) := by
  have hV := hid (show tokV (bt T 0 h0) (T.drop 1) 0 = ⟨2, ((bt T 0 h0).toNat : Int) - 48, 0, []⟩ by unfold tokV; rw [if_neg (by simp [hb]), if_pos hd])
  have hL0 : tokL (bt T 0 h0) (T.drop 1) = if numOk (bt T 0 h0) (T.drop 1) = true then 1 else 0 := by unfold tokL; rw [if_neg (by simp [hb]), if_pos hd]
  obtain ⟨d0, d1⟩ := isDig_bounds hd
  have q1 : (((bt T 0 h0).toNat : Int) - 48) % 256 = ((bt T 0 h0).toNat : Int) - 48 := by have := (bt T 0 h0).toNat_lt; omega
  have hW := hid (fun w => isWord_any (((bt T 0 h0).toNat : Int) - 48) w)
  clear hb hd
  by_cases h4 : (bt T 0 h0).toNat < 52
  · have e4 : isW (((bt T 0 h0).toNat : Int) - 48) = true := isW_iff.2 ⟨by omega, by omega⟩
    rw [e4] at hW
    by_cases hlt : 1 < T.length
    · have t1 : decide (1 < (T.length : Int)) = true := decide_eq_true (by omega)
      have hd2 := hid (fun w => digit_any (bt T 1 hlt) w)
      have hh : ((T.drop 1).head?.any isDig) = isDig (bt T 1 hlt) := by rw [head_drop, List.getElem?_eq_getElem hlt]; rfl
      cases a2 : isDig (bt T 1 hlt) with
      | true =>
        have hL := hid (show tokL (bt T 0 h0) (T.drop 1) = 0 by rw [hL0]; unfold numOk; rw [hh, decide_eq_true h4, a2]; rfl)
        rw [a2] at hd2
        clear hL0 hh
        go_enter Tryd.func36, Tryd.ntmps36
        go_wp2_with fail
        refine (hW.out _).mono ?_
        rintro e w1 ⟨rfl, rfl⟩
        go_wp2_with fail
        refine (hd2.out _).mono ?_
        rintro e w1 ⟨rfl, rfl⟩
        go_wp2_with fail
        refine bodyPost_ret (results_cell2 Tryd.results36 _ _ w.heap.size 30 _ (0, 0) _ rfl (heap_alloc_new _ _) Tryd.underlying30 rfl (by kernel_rfl)) rfl ?_
        exact ⟨⟨0, 0, 0, []⟩, by rw [hL.out]; rfl, fun hne => absurd hL.out hne, (Below.refl _ _).alloc (Nat.le_refl _) _⟩
      | false =>
        have hL := hid (show tokL (bt T 0 h0) (T.drop 1) = 1 by rw [hL0]; unfold numOk; rw [hh, decide_eq_true h4, a2]; rfl)
        rw [a2] at hd2
        clear hL0 hh
        go_enter Tryd.func36, Tryd.ntmps36
        go_wp2_with fail
        refine (hW.out _).mono ?_
        rintro e w1 ⟨rfl, rfl⟩
        go_wp2_with fail
        refine (hd2.out _).mono ?_
        rintro e w1 ⟨rfl, rfl⟩
        go_wp2_with fail
        refine bodyPost_ret (results_cell2 Tryd.results36 _ _ w.heap.size 30 _ (0, 0) _ rfl (heap_alloc_new _ _) Tryd.underlying30 rfl (by kernel_rfl)) rfl ?_
        exact ⟨⟨2, ((bt T 0 h0).toNat : Int) - 48, 0, []⟩, by rw [hL.out]; rfl, fun _ => hV.out.symm, (Below.refl _ _).alloc (Nat.le_refl _) _⟩
    · have t1 : decide (1 < (T.length : Int)) = false := decide_eq_false (by omega)
      have hL := hid (show tokL (bt T 0 h0) (T.drop 1) = 1 by rw [hL0]; unfold numOk; rw [decide_eq_true h4, List.drop_eq_nil_of_le (by omega)]; rfl)
      clear hL0
      go_enter Tryd.func36, Tryd.ntmps36
      go_wp2_with fail
      refine (hW.out _).mono ?_
      rintro e w1 ⟨rfl, rfl⟩
      go_wp2_with fail
      refine bodyPost_ret (results_cell2 Tryd.results36 _ _ w.heap.size 30 _ (0, 0) _ rfl (heap_alloc_new _ _) Tryd.underlying30 rfl (by kernel_rfl)) rfl ?_
      exact ⟨⟨2, ((bt T 0 h0).toNat : Int) - 48, 0, []⟩, by rw [hL.out]; rfl, fun _ => hV.out.symm, (Below.refl _ _).alloc (Nat.le_refl _) _⟩
  · have e4 : isW (((bt T 0 h0).toNat : Int) - 48) = false := by
      cases hq : isW (((bt T 0 h0).toNat : Int) - 48) with
      | false => rfl
      | true => have := isW_iff.1 hq; omega
    rw [e4] at hW
    have hL := hid (show tokL (bt T 0 h0) (T.drop 1) = 0 by rw [hL0]; unfold numOk; rw [decide_eq_false h4]; rfl)
    clear hL0
    go_enter Tryd.func36, Tryd.ntmps36
    go_wp2_with fail
    refine (hW.out _).mono ?_
    rintro e w1 ⟨rfl, rfl⟩
    go_wp2_with fail
    refine bodyPost_ret (results_cell2 Tryd.results36 _ _ w.heap.size 30 _ (0, 0) _ rfl (heap_alloc_new _ _) Tryd.underlying30 rfl (by kernel_rfl)) rfl ?_
    exact ⟨⟨0, 0, 0, []⟩, by rw [hL.out]; rfl, fun hne => absurd hL.out hne, (Below.refl _ _).alloc (Nat.le_refl _) _⟩
/-- the letters and digits up to k -/
def Wd0 (T : List UInt8) (k : Nat) : Prop := ∀ j, 0 ≤ j → j < k → ∀ hs : j < T.length, isWd T[j] = true
theorem Wd0.snoc {T : List UInt8} {k : Nat} (h : Wd0 T k) (hk : k < T.length) (hw : isWd T[k] = true) : Wd0 T (k + 1) := fun j h1 h2 hs => by
  rcases Nat.lt_or_ge j k with hl | hl
  · exact h j h1 hl hs
  · obtain rfl : j = k := by omega
    exact hw
theorem word0 {T : List UInt8} {k : Nat} (h : Wd0 T k) (hk : k ≤ T.length) (he : ∀ hs : k < T.length, isWd T[k] = false) : wordLen T = k := by
  have := wordLen_eq (S := T) (a := 0) (k := k) h (Nat.zero_le _) hk he
  rwa [List.drop_zero, Nat.sub_zero] at this
theorem tokL_word0 {T : List UInt8} {k : Nat} (h : 0 < T.length) (hb : isLow (bt T 0 h) = true) (hw : wordLen T = k) : tokL (bt T 0 h) (T.drop 1) = if k ≤ 8 then k else 0 := by
  unfold tokL; rw [if_pos hb, cons_bt h, hw]
theorem tokV_word0 {T : List UInt8} {k : Nat} (h : 0 < T.length) (hb : isLow (bt T 0 h) = true) (hw : wordLen T = k) : tokV (bt T 0 h) (T.drop 1) 0 = ⟨1, 0, 0, T.take k⟩ := by
  unfold tokV; rw [if_pos hb, cons_bt h, hw]
set_option maxHeartbeats 4000000 in
theorem rname (T : List UInt8) (h0 : 0 < T.length) (hl : T.length ≤ 400) (hb : isLow (bt T 0 h0) = true) (w : World) : Calls Tryd.prog 34 #[.string ⟨T.toArray⟩] w (RdOk T h0 w) := by
  have hb := hid hb
  have hst := hid (show Wd0 T 1 from fun j h1 h2 hs => by obtain rfl : j = 0 := (by omega); exact show isWd (bt T 0 h0) = true by unfold isWd; rw [hb.out]; rfl)
  go_enter Tryd.func34, Tryd.ntmps34
  go_wp2_with fail
  go_loop [4] (fun i => ∃ k : Nat, 1 ≤ k ∧ k ≤ T.length ∧ i = .int .i64 k ∧ Wd0 T k) (fun i => T.length - (Go.RowKit.intOf i).toNat)
  case atStart => exact ⟨1, Nat.le_refl _, h0, rfl, hst.out⟩
  case round =>
    obtain ⟨k, hk1, hkl, rfl, hwd⟩ := hrel
    have hwd := hid hwd
    by_cases hlt : k < T.length
    · have h1 := hid (fun w => lower_any (bt T k hlt) w)
      have h2 := hid (fun w => digit_any (bt T k hlt) w)
      cases a1 : isLow (bt T k hlt) with
      | true =>
        rw [a1] at h1
        have hnx := hid (hwd.out.snoc hlt (show isWd (bt T k hlt) = true by unfold isWd; rw [a1]; rfl))
        go_wp2_with fail
        refine (h1.out _).mono ?_
        rintro e w1 ⟨rfl, rfl⟩
        go_wp2_with fail
        go_round
        case rel => exact ⟨k + 1, by omega, hlt, by go_num, hnx.out⟩
        case measure => simp [Go.RowKit.intOf]; omega
      | false =>
        rw [a1] at h1
        cases a2 : isDig (bt T k hlt) with
        | true =>
          rw [a2] at h2
          have hnx := hid (hwd.out.snoc hlt (show isWd (bt T k hlt) = true by unfold isWd; rw [a1, a2]; rfl))
          go_wp2_with fail
          refine (h1.out _).mono ?_
          rintro e w1 ⟨rfl, rfl⟩
          go_wp2_with fail
          refine (h2.out _).mono ?_
          rintro e w1 ⟨rfl, rfl⟩
          go_wp2_with fail
          go_round
          case rel => exact ⟨k + 1, by omega, hlt, by go_num, hnx.out⟩
          case measure => simp [Go.RowKit.intOf]; omega
        | false =>
          rw [a2] at h2
          have hw := word0 hwd.out hkl (fun hs => show isWd (bt T k hlt) = false by unfold isWd; rw [a1, a2]; rfl)
          have hL := hid (tokL_word0 h0 hb.out hw)
          have hV := hid (tokV_word0 h0 hb.out hw)
          have hx := txt_cut T 0 k
          rw [List.drop_zero, Nat.sub_zero] at hx
          clear hw
          by_cases h8 : k ≤ 8
          · have t8 : decide (8 < (k : Int)) = false := decide_eq_false (by omega)
            go_wp2_with fail
            refine (h1.out _).mono ?_
            rintro e w1 ⟨rfl, rfl⟩
            go_wp2_with fail
            refine (h2.out _).mono ?_
            rintro e w1 ⟨rfl, rfl⟩
            go_wp2_with fail
            refine bodyPost_ret (results_cell2 Tryd.results34 _ _ w.heap.size 30 _ (0, 0) _ rfl (heap_alloc_new _ _) Tryd.underlying30 rfl (by kernel_rfl)) rfl ?_
            exact ⟨⟨1, 0, 0, T.take k⟩, by rw [hL.out, if_pos h8]; rfl, fun _ => hV.out.symm, (Below.refl _ _).alloc (Nat.le_refl _) _⟩
          · have t8 : decide (8 < (k : Int)) = true := decide_eq_true (by omega)
            go_wp2_with fail
            refine (h1.out _).mono ?_
            rintro e w1 ⟨rfl, rfl⟩
            go_wp2_with fail
            refine (h2.out _).mono ?_
            rintro e w1 ⟨rfl, rfl⟩
            go_wp2_with fail
            refine bodyPost_ret (results_cell2 Tryd.results34 _ _ w.heap.size 30 _ (0, 0) _ rfl (heap_alloc_new _ _) Tryd.underlying30 rfl (by kernel_rfl)) rfl ?_
            exact ⟨⟨0, 0, 0, []⟩, by rw [hL.out, if_neg h8]; rfl, fun hne => absurd (by rw [hL.out, if_neg h8]) hne, (Below.refl _ _).alloc (Nat.le_refl _) _⟩
    · obtain rfl : k = T.length := by omega
      have hw := word0 hwd.out (Nat.le_refl _) (fun hs => absurd hs (by omega))
      have hL := hid (tokL_word0 h0 hb.out hw)
      have hV := tokV_word0 h0 hb.out hw
      rw [List.take_of_length_le (Nat.le_refl _)] at hV
      replace hV := hid hV
      have hx := txt_cut T 0 T.length
      rw [List.drop_zero, Nat.sub_zero, List.take_of_length_le (Nat.le_refl _)] at hx
      clear hw
      by_cases h8 : T.length ≤ 8
      · have t8 : decide (8 < (T.length : Int)) = false := decide_eq_false (by omega)
        go_wp2_with fail
        refine bodyPost_ret (results_cell2 Tryd.results34 _ _ w.heap.size 30 _ (0, 0) _ rfl (heap_alloc_new _ _) Tryd.underlying30 rfl (by kernel_rfl)) rfl ?_
        exact ⟨⟨1, 0, 0, T⟩, by rw [hL.out, if_pos h8]; rfl, fun _ => hV.out.symm, (Below.refl _ _).alloc (Nat.le_refl _) _⟩
      · have t8 : decide (8 < (T.length : Int)) = true := decide_eq_true (by omega)
        go_wp2_with fail
        refine bodyPost_ret (results_cell2 Tryd.results34 _ _ w.heap.size 30 _ (0, 0) _ rfl (heap_alloc_new _ _) Tryd.underlying30 rfl (by kernel_rfl)) rfl ?_
        exact ⟨⟨0, 0, 0, []⟩, by rw [hL.out, if_neg h8]; rfl, fun hne => absurd (by rw [hL.out, if_neg h8]) hne, (Below.refl _ _).alloc (Nat.le_refl _) _⟩
/-- a token stored into a block of its own -/
def putT (w : World) (g : Nat) (t : Tok) : World := (((w.setCell ⟨g, 0, none⟩ (.int .i64 t.k)).setCell ⟨g, 1, none⟩ (.int .i64 t.n)).setCell ⟨g, 2, none⟩ (.int .i64 t.p)).setCell ⟨g, 3, none⟩ (sv t.s)
theorem putT_blk {w : World} {g : Nat} {a b c d : Value} (h : Blk w g TK [a, b, c, d]) (t : Tok) : Blk (putT w g t) g TK (tcs t) := (((h.set_ 0 _).set_ 1 _).set_ 2 _).set_ 3 _
theorem putT_below {B : Nat} {a w : World} (h : Below B a w) {g : Nat} (hg : B ≤ g) (t : Tok) : Below B a (putT w g t) := (((h.setCell hg _).setCell hg _).setCell hg _).setCell hg _
set_option maxHeartbeats 2000000 in
theorem rtok (T : List UInt8) (h0 : 0 < T.length) (hl : T.length ≤ 400) (w : World) : Calls Tryd.prog 21 #[.string ⟨T.toArray⟩] w (RdOk T h0 w) := by
  have hlow := hid (fun w => lower_any (bt T 0 h0) w)
  have hdig := hid (fun w => digit_any (bt T 0 h0) w)
  have hb1 := hid (Blk.new w TK (tcs ⟨0, 0, 0, []⟩))
  have hB := hid ((Below.refl w.heap.size w).alloc (Nat.le_refl _) (.cells (tcs ⟨0, 0, 0, []⟩).toArray TK))
  cases hb : isLow (bt T 0 h0) with
  | true =>
    have hc := fun w => rname T h0 hl hb w
    unfold RdOk at hc ⊢
    generalize tokL (bt T 0 h0) (T.drop 1) = m at hc ⊢
    generalize tokV (bt T 0 h0) (T.drop 1) 0 = tk at hc ⊢
    replace hc := hid hc
    rw [hb] at hlow
    clear hb
    go_enter Tryd.func21, Tryd.ntmps21
    go_wp2_with fail
    refine (hlow.out _).mono ?_
    rintro e w1 ⟨rfl, rfl⟩
    go_wp2_with fail
    refine (hc.out _).mono ?_
    rintro e w2 ⟨t, rfl, ht, hb2⟩
    have hr2 := hb1.out.below hb2 hb1.out.lt
    have c0 : w2.cell? ⟨w.heap.size, 0, none⟩ = some (.int .i64 0) := hr2.cell 0
    have c1 : w2.cell? ⟨w.heap.size, 1, none⟩ = some (.int .i64 0) := hr2.cell 1
    have c2 : w2.cell? ⟨w.heap.size, 2, none⟩ = some (.int .i64 0) := hr2.cell 2
    have c3 : w2.cell? ⟨w.heap.size, 3, none⟩ = some (.string ⟨#[]⟩) := hr2.cell 3
    have f0 := hr2.frozen 0
    have f1 := hr2.frozen 1
    have f2 := hr2.frozen 2
    have f3 := hr2.frozen 3
    have hfin := hid (putT_blk hr2 t)
    have hbl := hid (putT_below (hB.out.trans (hb2.mono hB.out.size)) (Nat.le_refl _) t)
    have ht := hid ht
    clear hb2 hr2
    go_wp2_with fail
    refine bodyPost_ret (results_cell2 Tryd.results21 _ _ w.heap.size 30 _ (0, 0) _ rfl hfin.out Tryd.underlying30 rfl (by kernel_rfl)) rfl ?_
    exact ⟨t, rfl, ht.out, hbl.out⟩
  | false =>
    cases hd : isDig (bt T 0 h0) with
    | true =>
      have hc := fun w => rnum T h0 hl hb hd w
      unfold RdOk at hc ⊢
      generalize tokL (bt T 0 h0) (T.drop 1) = m at hc ⊢
      generalize tokV (bt T 0 h0) (T.drop 1) 0 = tk at hc ⊢
      replace hc := hid hc
      rw [hb] at hlow
      rw [hd] at hdig
      clear hb hd
      go_enter Tryd.func21, Tryd.ntmps21
      go_wp2_with fail
      refine (hlow.out _).mono ?_
      rintro e w1 ⟨rfl, rfl⟩
      go_wp2_with fail
      refine (hdig.out _).mono ?_
      rintro e w1 ⟨rfl, rfl⟩
      go_wp2_with fail
      refine (hc.out _).mono ?_
      rintro e w2 ⟨t, rfl, ht, hb2⟩
      have hr2 := hb1.out.below hb2 hb1.out.lt
      have c0 : w2.cell? ⟨w.heap.size, 0, none⟩ = some (.int .i64 0) := hr2.cell 0
      have c1 : w2.cell? ⟨w.heap.size, 1, none⟩ = some (.int .i64 0) := hr2.cell 1
      have c2 : w2.cell? ⟨w.heap.size, 2, none⟩ = some (.int .i64 0) := hr2.cell 2
      have c3 : w2.cell? ⟨w.heap.size, 3, none⟩ = some (.string ⟨#[]⟩) := hr2.cell 3
      have f0 := hr2.frozen 0
      have f1 := hr2.frozen 1
      have f2 := hr2.frozen 2
      have f3 := hr2.frozen 3
      have hfin := hid (putT_blk hr2 t)
      have hbl := hid (putT_below (hB.out.trans (hb2.mono hB.out.size)) (Nat.le_refl _) t)
      have ht := hid ht
      clear hb2 hr2
      go_wp2_with fail
      refine bodyPost_ret (results_cell2 Tryd.results21 _ _ w.heap.size 30 _ (0, 0) _ rfl hfin.out Tryd.underlying30 rfl (by kernel_rfl)) rfl ?_
      exact ⟨t, rfl, ht.out, hbl.out⟩
    | false =>
      have hc := fun w => rsym T h0 hl hb hd w
      unfold RdOk at hc ⊢
      generalize tokL (bt T 0 h0) (T.drop 1) = m at hc ⊢
      generalize tokV (bt T 0 h0) (T.drop 1) 0 = tk at hc ⊢
      replace hc := hid hc
      rw [hb] at hlow
      rw [hd] at hdig
      clear hb hd
      go_enter Tryd.func21, Tryd.ntmps21
      go_wp2_with fail
      refine (hlow.out _).mono ?_
      rintro e w1 ⟨rfl, rfl⟩
      go_wp2_with fail
      refine (hdig.out _).mono ?_
      rintro e w1 ⟨rfl, rfl⟩
      go_wp2_with fail
      refine (hc.out _).mono ?_
      rintro e w2 ⟨t, rfl, ht, hb2⟩
      have hr2 := hb1.out.below hb2 hb1.out.lt
      have c0 : w2.cell? ⟨w.heap.size, 0, none⟩ = some (.int .i64 0) := hr2.cell 0
      have c1 : w2.cell? ⟨w.heap.size, 1, none⟩ = some (.int .i64 0) := hr2.cell 1
      have c2 : w2.cell? ⟨w.heap.size, 2, none⟩ = some (.int .i64 0) := hr2.cell 2
      have c3 : w2.cell? ⟨w.heap.size, 3, none⟩ = some (.string ⟨#[]⟩) := hr2.cell 3
      have f0 := hr2.frozen 0
      have f1 := hr2.frozen 1
      have f2 := hr2.frozen 2
      have f3 := hr2.frozen 3
      have hfin := hid (putT_blk hr2 t)
      have hbl := hid (putT_below (hB.out.trans (hb2.mono hB.out.size)) (Nat.le_refl _) t)
      have ht := hid ht
      clear hb2 hr2
      go_wp2_with fail
      refine bodyPost_ret (results_cell2 Tryd.results21 _ _ w.heap.size 30 _ (0, 0) _ rfl hfin.out Tryd.underlying30 rfl (by kernel_rfl)) rfl ?_
      exact ⟨t, rfl, ht.out, hbl.out⟩
end Go.Proofs.YtgjdccibdgedbaaDoor.Tk
