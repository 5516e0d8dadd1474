/- The model's ParseExpr by its contract. -/
import Derived.Test.YteenkdplpalofaaGreatDoorZC6d
import Derived.Test.YteenkdplpalofaaGreatDoorZC5s
import Derived.Test.YteenkdplpalofaaGreatDoorZPr
import Derived.Test.YteenkdplpalofaaGreatDoorZP6o
set_option maxRecDepth 100000
namespace Go.Proofs.YteenkdplpalofaaGreatDoor.Tk
open Go.RowKit Go.Lib Go.Sort Go.Proofs.YteenkdplpalofaaGreatDoor.Num Go.Proofs.YteenkdplpalofaaGreatDoor.Com Go.Proofs.YteenkdplpalofaaGreatDoor.Mem Go.Proofs.YteenkdplpalofaaGreatDoor.Os Go.Proofs.YteenkdplpalofaaGreatDoor.Tr

/-- the model's parser, at every level -/
theorem mparse_all {ts : List Tok} {en g c : Nat} {A : Option Addr} (hG : ∀ t ∈ ts, GoodT t) (hp : ∀ t ∈ ts, 0 ≤ t.p) (h63 : ts.length ≤ 1000) (n : Nat) :
    MP ts en g A c 22 #[.pointer (some ⟨g, 0, none⟩), .int .i64 1] 1 n ∧ MP ts en g A c 22 #[.pointer (some ⟨g, 0, none⟩), .int .i64 2] 2 n ∧ MP ts en g A c 22 #[.pointer (some ⟨g, 0, none⟩), .int .i64 3] 3 n ∧ MP ts en g A c 22 #[.pointer (some ⟨g, 0, none⟩), .int .i64 4] 4 n ∧
      MP ts en g A c 22 #[.pointer (some ⟨g, 0, none⟩), .int .i64 5] 5 n ∧ MP ts en g A c 38 #[.pointer (some ⟨g, 0, none⟩)] 6 n ∧ MP ts en g A c 65 #[.pointer (some ⟨g, 0, none⟩)] 7 n := by
  induction n with
  | zero =>
    have h0 : ∀ F args l, l ≤ 7 → MP ts en g A c F args l 0 := fun F args l hl m hm i w _ _ hn => by unfold need at hn; omega
    exact ⟨h0 _ _ _ (by omega), h0 _ _ _ (by omega), h0 _ _ _ (by omega), h0 _ _ _ (by omega), h0 _ _ _ (by omega), h0 _ _ _ (by omega), h0 _ _ _ (by omega)⟩
  | succ n ih =>
    obtain ⟨i1, i2, i3, i4, i5, i6, i7⟩ := ih
    exact ⟨mlevel_any h63 1 (by omega) (by omega) i2, mlevel_any h63 2 (by omega) (by omega) i3, mlevel_any h63 3 (by omega) (by omega) i4, mlevel_any h63 4 (by omega) (by omega) i5, mlevel_any h63 5 (by omega) (by omega) (mlev6_any i6), munary_any i7 i6 h63, matom_any hG hp h63 i1⟩
/-- zeros as the answer, behind a draw -/
theorem zero_fin {w wx : World} {z0 z1 z2 z3 : Value} (hres : Blk wx w.heap.size ET [z0, z1, z2, z3]) (hb : Below w.heap.size w wx) :
    Blk (zeroW wx w.heap.size).drew w.heap.size ET [.int .i64 0, .int .i64 0, .string ⟨#[]⟩, .slice none 0 0] ∧ OwnE ET (zeroW wx w.heap.size).drew w.heap.size (zeroW wx w.heap.size).drew.heap.size (nv 0 0 [] none 0 0) zeroT ∧ Below w.heap.size w (zeroW wx w.heap.size).drew := by
  have hf := ans_fin (K := 0) (N := 0) (s := []) hres (OwnE.leaf wx (w.heap.size + 1) (w.heap.size + 1)) (Nat.lt_succ_self _) hres.lt hb
  have hd : Below (zeroW wx w.heap.size).heap.size (zeroW wx w.heap.size) (zeroW wx w.heap.size).drew := (Below.refl _ _).drew
  exact ⟨Blk.below hf.1 hd hf.1.lt, (OwnE.leaf _ _ _), hf.2.2.trans (hd.mono hf.2.2.size)⟩
set_option maxHeartbeats 4000000 in
theorem sparse_any (S : List UInt8) (hS : S.length ≤ 9223372036854775807) (w : World) : Calls Tryz.prog 8 #[.string ⟨S.toArray⟩] w (ParseOk S w) := by
  have b1 : Below w.heap.size w (w.alloc (.cells #[.int .i64 0, .int .i64 0, .string ⟨#[]⟩, .slice none 0 0] ET)) := box_below _ _
  have B1 := hid (Blk.new w ET [.int .i64 0, .int .i64 0, .string ⟨#[]⟩, .slice none 0 0])
  have z1 : (w.alloc (.cells #[.int .i64 0, .int .i64 0, .string ⟨#[]⟩, .slice none 0 0] ET)).heap.size = w.heap.size + 1 := size_alloc' _ _
  have ht := stokz S hS (w.alloc (.cells #[.int .i64 0, .int .i64 0, .string ⟨#[]⟩, .slice none 0 0] ET))
  unfold TokOk at ht
  have b1 := hid b1
  have h150 := tokz_len S
  by_cases hb : (tokz S).2 = -1
  · have hsm := tokz_le hb
    have hgd := hid (fun t ht => (tokz_good hsm t ht))
    have hRe : parseR S = endR (tokz S).1 S.length (pz (tokz S).1 S.length 2000 1 0) := by unfold parseR; rw [if_pos hb]
    rw [hb] at ht
    clear hb
    replace ht := hid ht
    generalize (tokz S).1 = ts at *
    obtain ⟨r, hr⟩ : ∃ r, r = pz ts S.length 2000 1 0 := ⟨_, rfl⟩
    rw [← hr] at hRe
    replace hr := hid hr
    replace hRe := hid hRe
    go_enter Tryz.func8, Tryz.ntmps8
    go_wp2_with fail
    generalize (w.alloc (.cells #[.int .i64 0, .int .i64 0, .string ⟨#[]⟩, .slice none 0 0] ET)) = w1 at *
    refine ht.out.mono ?_
    rintro e w2 ⟨rr, rfl, ho, hb2⟩
    obtain ⟨A, c, rfl, hrd, -, -, -, -⟩ := ho.read
    have z2 := hb2.size
    have B2 := B1.out.below hb2 B1.out.lt
    have b2 := b1.out.trans (hb2.mono b1.out.size)
    -- the reader's block
    have b3 := box_below w2 (.cells #[.slice A ts.length c, .int .i64 0, .int .i64 (S.length : Nat), .int .i64 (-1)] RT)
    have R3 : Rdr (w2.alloc (.cells #[.slice A ts.length c, .int .i64 0, .int .i64 (S.length : Nat), .int .i64 (-1)] RT)) w2.heap.size A c ts S.length 0 (-1) := ⟨Blk.new w2 RT _, hrd.below b3⟩
    have z3 : (w2.alloc (.cells #[.slice A ts.length c, .int .i64 0, .int .i64 (S.length : Nat), .int .i64 (-1)] RT)).heap.size = w2.heap.size + 1 := size_alloc' _ _
    have B3 := hid (B2.below b3 B2.lt)
    have bb3 := hid (b2.trans (b3.mono b2.size))
    replace R3 := hid R3
    clear ho hrd hb2 B2 b2 b3 B1 b1 ht
    go_wp2_with fail
    generalize (w2.alloc (.cells #[.slice A ts.length c, .int .i64 0, .int .i64 (S.length : Nat), .int .i64 (-1)] RT)) = w3 at *
    generalize w2.heap.size = g at *
    have hcl := hid ((mparse_all (fun t ht => (hgd.out t ht).1) (fun t ht => (hgd.out t ht).2.1) (by omega) 2000).1 2000 (Nat.le_refl _) 0 w3 R3.out (Nat.zero_le _) (by unfold need; omega))
    rw [← hr.out] at hcl
    refine hcl.out.mono ?_
    rintro e w4 ⟨K, N, s, B, L, cc, t, j, bad, rfl, ho, hg, hrr, hM⟩
    have z4 := hg.size
    have B4 := B3.out.gb hg (by omega)
    have b4 : Below w.heap.size w w4 := bgb bb3.out hg (by omega) (by omega)
    have b5 := box_below w4 (.cells #[.int .i64 K, .int .i64 N, .string ⟨s.toArray⟩, .slice B L cc] ET)
    have z5 : (w4.alloc (.cells #[.int .i64 K, .int .i64 N, .string ⟨s.toArray⟩, .slice B L cc] ET)).heap.size = w4.heap.size + 1 := size_alloc' _ _
    have B5 := B4.below b5 B4.lt
    have q5 : Blk (w4.alloc (.cells #[.int .i64 K, .int .i64 N, .string ⟨s.toArray⟩, .slice B L cc] ET)) w4.heap.size ET [.int .i64 K, .int .i64 N, .string ⟨s.toArray⟩, .slice B L cc] := Blk.new w4 ET _
    have bb5 := b4.trans (b5.mono b4.size)
    have R5 := hrr.below b5
    have o5 := hid (ho.same (same_below b5 (Nat.le_refl _)))
    clear ho hg hrr B4 b4 b5 B3 bb3 R3 hcl
    obtain ⟨c0, c1, c2, c3⟩ := R5.cells
    obtain ⟨r0, r1, r2, r3⟩ := four B5
    have y0 := B5.frozen 0
    have y1 := B5.frozen 1
    have y2 := B5.frozen 2
    have y3 := B5.frozen 3
    rcases r with a | ⟨t', j'⟩
    · obtain ⟨rfl, ha⟩ := hM
      have hV := hid (parseV_err (show parseR S = .error bad by rw [hRe.out]; rfl))
      have t1 : decide (bad < 0) = false := decide_eq_false (by omega)
      have t2 : decide (0 ≤ bad) = true := decide_eq_true ha
      have hf := zero_fin B5 bb5
      have hf1 := hid hf.1
      have hf2 := hid hf.2
      clear hf hRe o5 q5 hr hgd B5 bb5 R5 c0 c1 c2
      go_wp2_with fail
      generalize (w4.alloc (.cells #[.int .i64 K, .int .i64 N, .string ⟨s.toArray⟩, .slice B L cc] ET)) = w5 at *
      go_region
      all_goals
        go_wp2_with fail
        exact bodyPost_ret (results_cell2 Tryz.results8 _ _ w.heap.size 27 _ (0, 0) _ rfl hf1.out Tryz.underlying27 rfl (by kernel_rfl)) rfl ⟨_, _, _, _, _, _, by rw [hV.out]; rfl, by rw [hV.out]; exact hf2.out.1, hf2.out.2⟩
    · obtain ⟨rfl, rfl, rfl⟩ := hM
      have hadv := (pz_adv ts S.length 2000).1 1 0 t j hr.out.symm
      by_cases hlast : j < ts.length
      · have hV := hid (parseV_err (show parseR S = .error (errAt ts S.length j) by rw [hRe.out]; unfold endR; simp only; rw [if_pos hlast]))
        have ha := errAt_nn (fun t ht => (hgd.out t ht).2.1) S.length j
        have hmf := hid (fun w1 (h1 : Rdr w1 g A c ts S.length j (-1)) => mfail_any g A c ts S.length j w1 h1 (by omega))
        generalize errAt ts S.length j = a at *
        have t1 : decide ((j : Int) < (ts.length : Int)) = true := decide_eq_true (by omega)
        have t2 : decide (0 ≤ a) = true := decide_eq_true ha
        replace R5 := hid R5
        replace B5 := hid B5
        replace bb5 := hid bb5
        clear hRe o5 q5 hr hgd r0 r1 r2 r3 y0 y1 y2 y3 c0 c2
        go_wp2_with fail
        generalize (w4.alloc (.cells #[.int .i64 K, .int .i64 N, .string ⟨s.toArray⟩, .slice B L cc] ET)) = w5 at *
        refine (hmf.out w5 R5.out).mono ?_
        rintro e w6 ⟨rfl, R6, g6⟩
        have z6 := g6.size
        have B6 := B5.out.gb g6 (by omega)
        have b6 : Below w.heap.size w w6 := bgb bb5.out g6 (by omega) (by omega)
        clear c1 c3
        obtain ⟨c0, c1, c2, c3⟩ := R6.cells
        obtain ⟨r0, r1, r2, r3⟩ := four B6
        have y0 := B6.frozen 0
        have y1 := B6.frozen 1
        have y2 := B6.frozen 2
        have y3 := B6.frozen 3
        have hf := zero_fin B6 b6
        have hf1 := hid hf.1
        have hf2 := hid hf.2
        clear hf B6 b6 R6 R5 B5 bb5 g6 hmf c0 c1 c2
        go_wp2_with fail
        go_region
        all_goals
          go_wp2_with fail
          exact bodyPost_ret (results_cell2 Tryz.results8 _ _ w.heap.size 27 _ (0, 0) _ rfl hf1.out Tryz.underlying27 rfl (by kernel_rfl)) rfl ⟨_, _, _, _, _, _, by rw [hV.out]; rfl, by rw [hV.out]; exact hf2.out.1, hf2.out.2⟩
      · obtain rfl : j = ts.length := by omega
        have t1 : decide ((ts.length : Int) < (ts.length : Int)) = false := decide_eq_false (by omega)
        have hiv := hid (svalidE t _ _ (o5.out.ex) (by have := hadv.2.2; omega))
        have hR2 : parseR S = if okT t = true then .ok t else .error 0 := by rw [hRe.out]; unfold endR; simp only; rw [if_neg hlast]
        replace hR2 := hid hR2
        obtain ⟨k0, k1, k2, k3⟩ := four q5
        replace R5 := hid R5
        replace B5 := hid B5
        replace bb5 := hid bb5
        replace q5 := hid q5
        clear hRe hr hgd r0 r1 r2 r3 y0 y1 y2 y3 c0 c2
        cases hok : okT t with
        | true =>
          rw [hok] at hiv
          have hV := hid (parseV_ok (show parseR S = .ok t by rw [hR2.out, hok]; rfl))
          clear hok hR2
          go_wp2_with fail
          generalize (w4.alloc (.cells #[.int .i64 K, .int .i64 N, .string ⟨s.toArray⟩, .slice B L cc] ET)) = w5 at *
          refine hiv.out.mono ?_
          rintro e w6 ⟨rfl, hb⟩
          have z6 := hb.size
          have B6 := B5.out.below hb B5.out.lt
          have q6 := q5.out.below hb q5.out.lt
          have b6 := bb5.out.trans (hb.mono bb5.out.size)
          have o6 := o5.out.same (same_below hb (by omega))
          have hf := ans_fin B6 o6 (by omega) (by omega) b6
          have hf1 := hid hf.1
          have hf2 := hid hf.2
          clear k0 k1 k2 k3 c1 c3
          obtain ⟨k0, k1, k2, k3⟩ := four q6
          obtain ⟨r0, r1, r2, r3⟩ := four B6
          have y0 := B6.frozen 0
          have y1 := B6.frozen 1
          have y2 := B6.frozen 2
          have y3 := B6.frozen 3
          clear hf B6 q6 o6 b6 hb hiv R5 B5 bb5 q5 o5
          go_wp2_with fail
          exact bodyPost_ret (results_cell2 Tryz.results8 _ _ w.heap.size 27 _ (0, 0) _ rfl hf1.out Tryz.underlying27 rfl (by kernel_rfl)) rfl ⟨_, _, _, _, _, _, by rw [hV.out]; rfl, by rw [hV.out]; exact hf2.out.1, hf2.out.2⟩
        | false =>
          rw [hok] at hiv
          have hV := hid (parseV_err (show parseR S = .error 0 by rw [hR2.out, hok]; rfl))
          clear hok hR2
          go_wp2_with fail
          generalize (w4.alloc (.cells #[.int .i64 K, .int .i64 N, .string ⟨s.toArray⟩, .slice B L cc] ET)) = w5 at *
          refine hiv.out.mono ?_
          rintro e w6 ⟨rfl, hb⟩
          have z6 := hb.size
          have B6 := B5.out.below hb B5.out.lt
          have b6 := bb5.out.trans (hb.mono bb5.out.size)
          have hf := ans_fin (K := 0) (N := 0) (s := []) B6 (OwnE.leaf w6 (w.heap.size + 1) (w.heap.size + 1)) (Nat.lt_succ_self _) B6.lt b6
          have hf1 := hid hf.1
          have hf2 := hid hf.2
          clear k0 k1 k2 k3 c1 c3
          obtain ⟨r0, r1, r2, r3⟩ := four B6
          have y0 := B6.frozen 0
          have y1 := B6.frozen 1
          have y2 := B6.frozen 2
          have y3 := B6.frozen 3
          clear hf B6 b6 hb hiv R5 B5 bb5 q5 o5
          go_wp2_with fail
          exact bodyPost_ret (results_cell2 Tryz.results8 _ _ w.heap.size 27 _ (0, 0) _ rfl hf1.out Tryz.underlying27 rfl (by kernel_rfl)) rfl ⟨_, _, _, _, _, _, by rw [hV.out]; rfl, by rw [hV.out]; exact hf2.out.1, hf2.out.2⟩
  · have hbad := (tokz_bad hb).2
    have hV := hid (parseV_err (show parseR S = .error (tokz S).2 by unfold parseR; rw [if_neg hb]))
    generalize (tokz S).2 = bad at *
    have t1 : decide (0 ≤ bad) = true := decide_eq_true hbad
    replace ht := hid ht
    clear hb hbad
    go_enter Tryz.func8, Tryz.ntmps8
    go_wp2_with fail
    generalize (w.alloc (.cells #[.int .i64 0, .int .i64 0, .string ⟨#[]⟩, .slice none 0 0] ET)) = w1 at *
    refine ht.out.mono ?_
    rintro e w2 ⟨rr, rfl, ho, hb2⟩
    have B2 := B1.out.below hb2 B1.out.lt
    have b2 := b1.out.trans (hb2.mono b1.out.size)
    obtain ⟨r0, r1, r2, r3⟩ := four B2
    have y0 := B2.frozen 0
    have y1 := B2.frozen 1
    have y2 := B2.frozen 2
    have y3 := B2.frozen 3
    have hf := ans_fin (K := 0) (N := 0) (s := []) B2 (OwnE.leaf w2 (w.heap.size + 1) (w.heap.size + 1)) (Nat.lt_succ_self _) B2.lt b2
    have hf1 := hid hf.1
    have hf2 := hid hf.2
    clear hf B2 b2 B1 b1 hb2 ho ht
    go_wp2_with fail
    exact bodyPost_ret (results_cell2 Tryz.results8 _ _ w.heap.size 27 _ (0, 0) _ rfl hf1.out Tryz.underlying27 rfl (by kernel_rfl)) rfl ⟨_, _, _, _, _, _, by rw [hV.out]; rfl, by rw [hV.out]; exact hf2.out.1, hf2.out.2⟩
end Go.Proofs.YteenkdplpalofaaGreatDoor.Tk
