/- Chapter 4's draws: expressions of some depth. -/
import Derived.Test.YtlkfejcnkckgkaaDr4
set_option maxRecDepth 100000
namespace Go.Proofs.Ytlkfejcnkckgkaa.Dr
open Go.RowKit Go.Lib Go.Proofs.Ytlkfejcnkckgkaa.Com Go.Proofs.Ytlkfejcnkckgkaa.Mem Go.Proofs.Ytlkfejcnkckgkaa.Cur Go.Proofs.Ytlkfejcnkckgkaa.Os Go.Proofs.Ytlkfejcnkckgkaa.Tr
theorem form_made {w : World} {lo : Nat} {v : Value} {t : T} (h : Made w lo v t) : ∃ k n s A l c, v = nv k n s A l c := h.1.form
theorem pow_one {a n : Nat} (h : a + 1 ≤ 2 ^ n) : 1 + a + 1 ≤ 2 ^ (n + 1) := by
  have h1 : 1 ≤ 2 ^ n := Nat.one_le_two_pow
  rw [Nat.pow_succ]; omega
theorem pow_two {a b n : Nat} (h : a + 1 ≤ 2 ^ n) (h' : b + 1 ≤ 2 ^ n) : 1 + (a + b) + 1 ≤ 2 ^ (n + 1) := by
  rw [Nat.pow_succ]; omega
def ops10 : List Int := [1, 1, 2, 2, 3, 5, 6, 7, 8, 4]
set_option maxHeartbeats 1000000 in
theorem make_node0 (g : Nat) (A : Option Addr) (c : Nat) (xs : List UInt8) (n : Nat) (hn1 : n ≤ 1000) (ih : MakeP g A c xs n) (VA : Option Addr) (vc : Nat) (V : List (List UInt8)) (d : Int) (w : World) (hd2 : 2 ≤ d) (hdn : d ≤ ((n + 1 : Nat) : Int)) (hc : CurAt w g A c xs) (hV : VarsAt w g VA V) (hl : V.length ≤ 1048576) (hs : ∀ s ∈ V, s.length ≤ 9) (h0 : V.length = 0) :
    Calls Try.prog 82 #[.pointer (some ⟨g, 0, none⟩), .slice VA V.length vc, .int .i64 d] w fun e w' => ∃ v t, e = .returned v ∧ Made w' w.heap.size v t ∧ cntT t + 1 ≤ 2 ^ (n + 1) ∧ Drew w g A c xs w' := by
  obtain rfl := List.eq_nil_of_length_eq_zero h0
  clear h0
  have t1 : decide (d < 2) = false := decide_eq_false (by omega)
  have hn : 1 ≤ n + 1 := by omega
  have hgw := cur_lt hc
  have hc1 := cur_alloc hc (.cells #[.int .i64 0, .int .i64 0, .string ⟨#[]⟩, .slice none 0 0] 26)
  have hD1 : Drew w g A c xs (w.alloc (.cells #[.int .i64 0, .int .i64 0, .string ⟨#[]⟩, .slice none 0 0] 26)) := ⟨hc1, World.grownBy_alloc w _ _⟩
  have B1 := hid (Blk.new w 26 [.int .i64 0, .int .i64 0, .string ⟨#[]⟩, .slice none 0 0])
  have V1 := hid (hV.below (box_below w (.cells #[.int .i64 0, .int .i64 0, .string ⟨#[]⟩, .slice none 0 0] 26)))
  have D1 := hid hD1
  clear hc hV hc1 hD1
  have z1 := D1.out.2.size
  have zz := hid (size_alloc' w (.cells #[.int .i64 0, .int .i64 0, .string ⟨#[]⟩, .slice none 0 0] 26))
  go_enter Try.func82, Try.ntmps82
  go_wp2_with fail
  generalize (w.alloc (.cells #[.int .i64 0, .int .i64 0, .string ⟨#[]⟩, .slice none 0 0] 26)) = w1 at *
  refine (once_any g A c xs 4 _ D1.out.1 (by omega) (by omega)).mono ?_
  rintro e w2 ⟨⟨b1, rfl⟩, hd⟩
  have u2 := hd.2.size
  have D2 := hid (drew_tr D1.out hd)
  have B2 := hid (B1.out.gb hd.2 (by omega))
  have V2 := hid (V1.out.drew hd.2)
  clear hd
  cases b1
  · go_wp2_with fail
    refine (once_any g A c xs 8 _ D2.out.1 (by omega) (by omega)).mono ?_
    rintro e w3 ⟨⟨b2, rfl⟩, hd⟩
    have u3 := hd.2.size
    have D3 := hid (drew_tr D2.out hd)
    have B3 := hid (B2.out.gb hd.2 (by omega))
    have V3 := hid (V2.out.drew hd.2)
    clear hd
    have z2 := D3.out.2.size
    cases b2
    · go_wp2_with fail
      refine (pickInt_lit g A c xs ops10 w3 D3.out.1 (by decide) (by decide)).mono ?_
      rintro e w5 ⟨⟨op, _, rfl⟩, hd⟩
      have D5 := hid (drew_tr D3.out hd)
      have B5 := hid (B3.out.gb hd.2 (by omega))
      have V5 := hid (V3.out.drew hd.2)
      have z5 := hd.2.size
      clear hd
      go_wp2_with fail
      refine (ih (d - 1) VA vc [] w5 (by omega) (by omega) D5.out.1 V5.out hl hs).mono ?_
      rintro e w6 ⟨v5, t5, rfl, hm, hcnt5, hd⟩
      obtain ⟨k5, n5, s5, A5, l5, c5, rfl⟩ := form_made hm
      have D6 := hid (drew_tr D5.out hd)
      have B6 := hid (B5.out.gb hd.2 (by omega))
      have V6 := hid (V5.out.drew hd.2)
      have z6 := hd.2.size
      have m5 := hid hm.1
      have hg5 := hid hd.2
      clear hd hm
      go_wp2_with fail
      refine (ih (d - 1) VA vc [] w6 (by omega) (by omega) D6.out.1 V6.out hl hs).mono ?_
      rintro e w7 ⟨v6, t6, rfl, hm, hcnt6, hd⟩
      obtain ⟨k6, n6, s6, A6, l6, c6, rfl⟩ := form_made hm
      have D7 := hid (drew_tr D6.out hd)
      have B7 := hid (B6.out.gb hd.2 (by omega))
      have V7 := hid (V6.out.drew hd.2)
      have z7 := hd.2.size
      have m6 := hid hm.1
      have hg6 := hid hd.2
      clear hd hm
      go_wp2_with fail
      refine (op4 op k5 n5 k6 n6 s5 s6 A5 A6 l5 c5 l6 c6 w7).mono ?_
      rintro e w8 ⟨rfl, hrow, hb⟩
      have D8 := hid (drew_be D7.out hb)
      have B8 := hid (B7.out.below hb B7.out.lt)
      have hm8 := made_two (lo := w5.heap.size) (mid := w6.heap.size) (mid' := w7.heap.size) 3 op ((m5.out.chg (chg_of_gbs hg6.out) (Or.inr (by omega))).chg (chg_of_below hb 0 0) (Or.inr (Nat.zero_le _))) (m6.out.chg (chg_of_below hb 0 0) (Or.inr (Nat.zero_le _))) hrow (by have := zz.out; omega) (by omega) (by omega)
      have f := make_fin hgw D8.out B8.out hm8 (by have := zz.out; omega)
      have f1 := hid f.1
      have f2 := hid f.2.1
      have f3 := hid f.2.2
      have hcc := hid (show cntT (.mk 3 op [] [t5, t6]) + 1 ≤ 2 ^ (n + 1) by rw [cntT_mk]; simp only [cntK, List.map_cons, List.map_nil, List.sum_cons, List.sum_nil, Nat.add_zero]; exact pow_two hcnt5 hcnt6)
      clear f hb hrow hm8
      obtain ⟨x0, x1, x2, x3⟩ := four B8.out
      have y0 := B8.out.frozen 0
      have y1 := B8.out.frozen 1
      have y2 := B8.out.frozen 2
      have y3 := B8.out.frozen 3
      go_wp2_with fail
      exact bodyPost_ret (results_cell_row Try.results82 _ _ w.heap.size 26 _ (0, 0) _ rfl f1.out Try.underlying26 rfl (by kernel_rfl)) rfl ⟨_, _, rfl, f2.out, hcc.out, f3.out⟩
    · go_wp2_with fail
      refine (ih (d - 1) VA vc [] w3 (by omega) (by omega) D3.out.1 V3.out hl hs).mono ?_
      rintro e w5 ⟨v4, t4, rfl, hm, hcnt4, hd⟩
      obtain ⟨k4, n4, s4, A4, l4, c4, rfl⟩ := form_made hm
      have D5 := hid (drew_tr D3.out hd)
      have B5 := hid (B3.out.gb hd.2 (by omega))
      have V5 := hid (V3.out.drew hd.2)
      have z5 := hd.2.size
      have m4 := hid hm.1
      have hg4 := hid hd.2
      clear hd hm
      have hb := box_below w5 (.cells #[.int .i64 k4, .int .i64 n4, sv s4, .slice A4 l4 c4] 26)
      have hrow := box_blk w5 k4 n4 s4 A4 l4 c4 26
      have D6 := hid (drew_be D5.out hb)
      have B6 := hid (B5.out.below hb B5.out.lt)
      have hm6 := made_one (lo := w3.heap.size) 4 0 (m4.out.chg (chg_of_below hb 0 0) (Or.inr (Nat.zero_le _))) hrow (by have := zz.out; omega)
      have f := make_fin hgw D6.out B6.out hm6 (by have := zz.out; omega)
      have f1 := hid f.1
      have f2 := hid f.2.1
      have f3 := hid f.2.2
      have hcc := hid (show cntT (.mk 4 0 [] [t4]) + 1 ≤ 2 ^ (n + 1) by rw [cntT_mk]; simp only [cntK, List.map_cons, List.map_nil, List.sum_cons, List.sum_nil, Nat.add_zero]; exact pow_one hcnt4)
      clear f hb hrow hm6
      obtain ⟨x0, x1, x2, x3⟩ := four B6.out
      have y0 := B6.out.frozen 0
      have y1 := B6.out.frozen 1
      have y2 := B6.out.frozen 2
      have y3 := B6.out.frozen 3
      go_wp2_with fail
      exact bodyPost_ret (results_cell_row Try.results82 _ _ w.heap.size 26 _ (0, 0) _ rfl f1.out Try.underlying26 rfl (by kernel_rfl)) rfl ⟨_, _, rfl, f2.out, hcc.out, f3.out⟩
  · go_wp2_with fail
    refine (below_any g A c xs 4 _ D2.out.1 (by omega) (by omega)).mono ?_
    rintro e w3 ⟨⟨q, rfl, hq, hq2⟩, hd⟩
    have D3 := hid (drew_tr D2.out hd)
    have B3 := hid (B2.out.gb hd.2 (by omega))
    clear hd hq
    go_wp2_with fail
    refine (const4 q _).mono ?_
    rintro e w4 ⟨rfl, hb⟩
    have D4 := hid (drew_be D3.out hb)
    have B4 := hid (B3.out.below hb B3.out.lt)
    have f := make_fin hgw D4.out B4.out (made_leaf w4 (w.heap.size + 1) 1 q [] (by simp)) (Nat.le_refl _)
    have f1 := hid f.1
    have f2 := hid f.2.1
    have f3 := hid f.2.2
    clear hb f
    obtain ⟨x0, x1, x2, x3⟩ := four B4.out
    have y0 := B4.out.frozen 0
    have y1 := B4.out.frozen 1
    have y2 := B4.out.frozen 2
    have y3 := B4.out.frozen 3
    go_wp2_with fail
    exact bodyPost_ret (results_cell_row Try.results82 _ _ w.heap.size 26 _ (0, 0) _ rfl f1.out Try.underlying26 rfl (by kernel_rfl)) rfl ⟨_, _, rfl, f2.out, le_pow (by simp [cntT_mk, cntK]) hn, f3.out⟩
set_option maxHeartbeats 1000000 in
theorem make_node1 (g : Nat) (A : Option Addr) (c : Nat) (xs : List UInt8) (n : Nat) (hn1 : n ≤ 1000) (ih : MakeP g A c xs n) (VA : Option Addr) (vc : Nat) (V : List (List UInt8)) (d : Int) (w : World) (hd2 : 2 ≤ d) (hdn : d ≤ ((n + 1 : Nat) : Int)) (hc : CurAt w g A c xs) (hV : VarsAt w g VA V) (hl : V.length ≤ 1048576) (hs : ∀ s ∈ V, s.length ≤ 9) (hpos : 0 < V.length) :
    Calls Try.prog 82 #[.pointer (some ⟨g, 0, none⟩), .slice VA V.length vc, .int .i64 d] w fun e w' => ∃ v t, e = .returned v ∧ Made w' w.heap.size v t ∧ cntT t + 1 ≤ 2 ^ (n + 1) ∧ Drew w g A c xs w' := by
  have t1 : decide (d < 2) = false := decide_eq_false (by omega)
  have hn : 1 ≤ n + 1 := by omega
  have t2 : decide (0 < (V.length : Int)) = true := decide_eq_true (by omega)
  have hgw := cur_lt hc
  have hc1 := cur_alloc hc (.cells #[.int .i64 0, .int .i64 0, .string ⟨#[]⟩, .slice none 0 0] 26)
  have hD1 : Drew w g A c xs (w.alloc (.cells #[.int .i64 0, .int .i64 0, .string ⟨#[]⟩, .slice none 0 0] 26)) := ⟨hc1, World.grownBy_alloc w _ _⟩
  have B1 := hid (Blk.new w 26 [.int .i64 0, .int .i64 0, .string ⟨#[]⟩, .slice none 0 0])
  have V1 := hid (hV.below (box_below w (.cells #[.int .i64 0, .int .i64 0, .string ⟨#[]⟩, .slice none 0 0] 26)))
  have D1 := hid hD1
  clear hc hV hc1 hD1
  have z1 := D1.out.2.size
  have zz := hid (size_alloc' w (.cells #[.int .i64 0, .int .i64 0, .string ⟨#[]⟩, .slice none 0 0] 26))
  go_enter Try.func82, Try.ntmps82
  go_wp2_with fail
  generalize (w.alloc (.cells #[.int .i64 0, .int .i64 0, .string ⟨#[]⟩, .slice none 0 0] 26)) = w1 at *
  refine (once_any g A c xs 4 _ D1.out.1 (by omega) (by omega)).mono ?_
  rintro e w2 ⟨⟨b1, rfl⟩, hd⟩
  have u2 := hd.2.size
  have D2 := hid (drew_tr D1.out hd)
  have B2 := hid (B1.out.gb hd.2 (by omega))
  have V2 := hid (V1.out.drew hd.2)
  clear hd
  cases b1
  · go_wp2_with fail
    refine (once_any g A c xs 8 _ D2.out.1 (by omega) (by omega)).mono ?_
    rintro e w3 ⟨⟨b2, rfl⟩, hd⟩
    have u3 := hd.2.size
    have D3 := hid (drew_tr D2.out hd)
    have B3 := hid (B2.out.gb hd.2 (by omega))
    have V3 := hid (V2.out.drew hd.2)
    clear hd
    have z2 := D3.out.2.size
    cases b2
    · go_wp2_with fail
      refine (pickInt_lit g A c xs ops10 w3 D3.out.1 (by decide) (by decide)).mono ?_
      rintro e w5 ⟨⟨op, _, rfl⟩, hd⟩
      have D5 := hid (drew_tr D3.out hd)
      have B5 := hid (B3.out.gb hd.2 (by omega))
      have V5 := hid (V3.out.drew hd.2)
      have z5 := hd.2.size
      clear hd
      go_wp2_with fail
      refine (ih (d - 1) VA vc V w5 (by omega) (by omega) D5.out.1 V5.out hl hs).mono ?_
      rintro e w6 ⟨v5, t5, rfl, hm, hcnt5, hd⟩
      obtain ⟨k5, n5, s5, A5, l5, c5, rfl⟩ := form_made hm
      have D6 := hid (drew_tr D5.out hd)
      have B6 := hid (B5.out.gb hd.2 (by omega))
      have V6 := hid (V5.out.drew hd.2)
      have z6 := hd.2.size
      have m5 := hid hm.1
      have hg5 := hid hd.2
      clear hd hm
      go_wp2_with fail
      refine (ih (d - 1) VA vc V w6 (by omega) (by omega) D6.out.1 V6.out hl hs).mono ?_
      rintro e w7 ⟨v6, t6, rfl, hm, hcnt6, hd⟩
      obtain ⟨k6, n6, s6, A6, l6, c6, rfl⟩ := form_made hm
      have D7 := hid (drew_tr D6.out hd)
      have B7 := hid (B6.out.gb hd.2 (by omega))
      have V7 := hid (V6.out.drew hd.2)
      have z7 := hd.2.size
      have m6 := hid hm.1
      have hg6 := hid hd.2
      clear hd hm
      go_wp2_with fail
      refine (op4 op k5 n5 k6 n6 s5 s6 A5 A6 l5 c5 l6 c6 w7).mono ?_
      rintro e w8 ⟨rfl, hrow, hb⟩
      have D8 := hid (drew_be D7.out hb)
      have B8 := hid (B7.out.below hb B7.out.lt)
      have hm8 := made_two (lo := w5.heap.size) (mid := w6.heap.size) (mid' := w7.heap.size) 3 op ((m5.out.chg (chg_of_gbs hg6.out) (Or.inr (by omega))).chg (chg_of_below hb 0 0) (Or.inr (Nat.zero_le _))) (m6.out.chg (chg_of_below hb 0 0) (Or.inr (Nat.zero_le _))) hrow (by have := zz.out; omega) (by omega) (by omega)
      have f := make_fin hgw D8.out B8.out hm8 (by have := zz.out; omega)
      have f1 := hid f.1
      have f2 := hid f.2.1
      have f3 := hid f.2.2
      have hcc := hid (show cntT (.mk 3 op [] [t5, t6]) + 1 ≤ 2 ^ (n + 1) by rw [cntT_mk]; simp only [cntK, List.map_cons, List.map_nil, List.sum_cons, List.sum_nil, Nat.add_zero]; exact pow_two hcnt5 hcnt6)
      clear f hb hrow hm8
      obtain ⟨x0, x1, x2, x3⟩ := four B8.out
      have y0 := B8.out.frozen 0
      have y1 := B8.out.frozen 1
      have y2 := B8.out.frozen 2
      have y3 := B8.out.frozen 3
      go_wp2_with fail
      exact bodyPost_ret (results_cell_row Try.results82 _ _ w.heap.size 26 _ (0, 0) _ rfl f1.out Try.underlying26 rfl (by kernel_rfl)) rfl ⟨_, _, rfl, f2.out, hcc.out, f3.out⟩
    · go_wp2_with fail
      refine (ih (d - 1) VA vc V w3 (by omega) (by omega) D3.out.1 V3.out hl hs).mono ?_
      rintro e w5 ⟨v4, t4, rfl, hm, hcnt4, hd⟩
      obtain ⟨k4, n4, s4, A4, l4, c4, rfl⟩ := form_made hm
      have D5 := hid (drew_tr D3.out hd)
      have B5 := hid (B3.out.gb hd.2 (by omega))
      have V5 := hid (V3.out.drew hd.2)
      have z5 := hd.2.size
      have m4 := hid hm.1
      have hg4 := hid hd.2
      clear hd hm
      have hb := box_below w5 (.cells #[.int .i64 k4, .int .i64 n4, sv s4, .slice A4 l4 c4] 26)
      have hrow := box_blk w5 k4 n4 s4 A4 l4 c4 26
      have D6 := hid (drew_be D5.out hb)
      have B6 := hid (B5.out.below hb B5.out.lt)
      have hm6 := made_one (lo := w3.heap.size) 4 0 (m4.out.chg (chg_of_below hb 0 0) (Or.inr (Nat.zero_le _))) hrow (by have := zz.out; omega)
      have f := make_fin hgw D6.out B6.out hm6 (by have := zz.out; omega)
      have f1 := hid f.1
      have f2 := hid f.2.1
      have f3 := hid f.2.2
      have hcc := hid (show cntT (.mk 4 0 [] [t4]) + 1 ≤ 2 ^ (n + 1) by rw [cntT_mk]; simp only [cntK, List.map_cons, List.map_nil, List.sum_cons, List.sum_nil, Nat.add_zero]; exact pow_one hcnt4)
      clear f hb hrow hm6
      obtain ⟨x0, x1, x2, x3⟩ := four B6.out
      have y0 := B6.out.frozen 0
      have y1 := B6.out.frozen 1
      have y2 := B6.out.frozen 2
      have y3 := B6.out.frozen 3
      go_wp2_with fail
      exact bodyPost_ret (results_cell_row Try.results82 _ _ w.heap.size 26 _ (0, 0) _ rfl f1.out Try.underlying26 rfl (by kernel_rfl)) rfl ⟨_, _, rfl, f2.out, hcc.out, f3.out⟩
  · go_wp2_with fail
    refine (once_any g A c xs 3 _ D2.out.1 (by omega) (by omega)).mono ?_
    rintro e w3 ⟨⟨b2, rfl⟩, hd⟩
    have u3 := hd.2.size
    have D3 := hid (drew_tr D2.out hd)
    have B3 := hid (B2.out.gb hd.2 (by omega))
    have V3 := hid (V2.out.drew hd.2)
    clear hd
    cases b2
    · go_wp2_with fail
      refine (pick_any g A c xs VA vc V _ D3.out.1 V3.out.rd.1 (V3.out.rd.2 hpos) hpos hl).mono ?_
      rintro e w4 ⟨⟨s, hsm, rfl⟩, hd⟩
      have D4 := hid (drew_tr D3.out hd)
      have B4 := hid (B3.out.gb hd.2 (by omega))
      have hs9 := hs s hsm
      clear hd hsm
      go_wp2_with fail
      refine (var4 s _).mono ?_
      rintro e w5 ⟨rfl, hb⟩
      have D5 := hid (drew_be D4.out hb)
      have B5 := hid (B4.out.below hb B4.out.lt)
      have f := make_fin hgw D5.out B5.out (made_leaf w5 (w.heap.size + 1) 2 0 s (by omega)) (Nat.le_refl _)
      have f1 := hid f.1
      have f2 := hid f.2.1
      have f3 := hid f.2.2
      clear hb f
      obtain ⟨x0, x1, x2, x3⟩ := four B5.out
      have y0 := B5.out.frozen 0
      have y1 := B5.out.frozen 1
      have y2 := B5.out.frozen 2
      have y3 := B5.out.frozen 3
      go_wp2_with fail
      exact bodyPost_ret (results_cell_row Try.results82 _ _ w.heap.size 26 _ (0, 0) _ rfl f1.out Try.underlying26 rfl (by kernel_rfl)) rfl ⟨_, _, rfl, f2.out, le_pow (by simp [cntT_mk, cntK]) hn, f3.out⟩
    · go_wp2_with fail
      refine (below_any g A c xs 4 _ D3.out.1 (by omega) (by omega)).mono ?_
      rintro e w4 ⟨⟨q, rfl, hq, hq2⟩, hd⟩
      have D4 := hid (drew_tr D3.out hd)
      have B4 := hid (B3.out.gb hd.2 (by omega))
      clear hd hq
      go_wp2_with fail
      refine (const4 q _).mono ?_
      rintro e w5 ⟨rfl, hb⟩
      have D5 := hid (drew_be D4.out hb)
      have B5 := hid (B4.out.below hb B4.out.lt)
      have f := make_fin hgw D5.out B5.out (made_leaf w5 (w.heap.size + 1) 1 q [] (by simp)) (Nat.le_refl _)
      have f1 := hid f.1
      have f2 := hid f.2.1
      have f3 := hid f.2.2
      clear hb f
      obtain ⟨x0, x1, x2, x3⟩ := four B5.out
      have y0 := B5.out.frozen 0
      have y1 := B5.out.frozen 1
      have y2 := B5.out.frozen 2
      have y3 := B5.out.frozen 3
      go_wp2_with fail
      exact bodyPost_ret (results_cell_row Try.results82 _ _ w.heap.size 26 _ (0, 0) _ rfl f1.out Try.underlying26 rfl (by kernel_rfl)) rfl ⟨_, _, rfl, f2.out, le_pow (by simp [cntT_mk, cntK]) hn, f3.out⟩
theorem make_any (g : Nat) (A : Option Addr) (c : Nat) (xs : List UInt8) (n : Nat) (hn : n ≤ 1000) : MakeP g A c xs (n + 1) := by
  induction n with
  | zero =>
    intro d VA vc V w h1 h2 hc hV hl hs
    by_cases h0 : V.length = 0
    · exact make_leaf0 g A c xs VA vc V d (0 + 1) (by omega) w (by omega) hc hV h0
    · exact make_leaf1 g A c xs VA vc V d (0 + 1) (by omega) w (by omega) hc hV (by omega) hl hs
  | succ n ih =>
    intro d VA vc V w h1 h2 hc hV hl hs
    by_cases hd : d < 2
    · by_cases h0 : V.length = 0
      · exact make_leaf0 g A c xs VA vc V d (n + 1 + 1) (by omega) w hd hc hV h0
      · exact make_leaf1 g A c xs VA vc V d (n + 1 + 1) (by omega) w hd hc hV (by omega) hl hs
    · by_cases h0 : V.length = 0
      · exact make_node0 g A c xs (n + 1) (by omega) (ih (by omega)) VA vc V d w (by omega) h2 hc hV hl hs h0
      · exact make_node1 g A c xs (n + 1) (by omega) (ih (by omega)) VA vc V d w (by omega) h2 hc hV hl hs (by omega)
end Go.Proofs.Ytlkfejcnkckgkaa.Dr
