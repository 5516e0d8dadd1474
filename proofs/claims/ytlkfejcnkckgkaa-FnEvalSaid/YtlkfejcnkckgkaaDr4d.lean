/- Chapter 4's draws: valid expressions. -/
import Derived.Test.YtlkfejcnkckgkaaDr4m
set_option maxRecDepth 100000
namespace Go.Proofs.Ytlkfejcnkckgkaa.Dr
open Go.RowKit Go.Lib Go.Proofs.Ytlkfejcnkckgkaa.Com Go.Proofs.Ytlkfejcnkckgkaa.Mem Go.Proofs.Ytlkfejcnkckgkaa.Cur Go.Proofs.Ytlkfejcnkckgkaa.Os Go.Proofs.Ytlkfejcnkckgkaa.Tr
set_option maxHeartbeats 2000000 in
theorem draw_any (g : Nat) (A : Option Addr) (c : Nat) (xs : List UInt8) (VA : Option Addr) (vc : Nat) (V : List (List UInt8)) (d : Int) (w : World) (h1 : -1000 ≤ d) (h2 : d ≤ 4) (hc : CurAt w g A c xs) (hV : VarsAt w g VA V) (hl : V.length ≤ 1048576) (hs : ∀ s ∈ V, s.length ≤ 9) :
    Calls Try.prog 63 #[.pointer (some ⟨g, 0, none⟩), .slice VA V.length vc, .int .i64 d] w fun e w' => ∃ v t, e = .returned v ∧ Made w' w.heap.size v t ∧ cntT t ≤ 15 ∧ Drew w g A c xs w' := by
  have hgw := cur_lt hc
  have hb0 := box_below w (.cells #[.int .i64 0, .int .i64 0, .string ⟨#[]⟩, .slice none 0 0] 26)
  have zz := hid (size_alloc' w (.cells #[.int .i64 0, .int .i64 0, .string ⟨#[]⟩, .slice none 0 0] 26))
  have hc1 := cur_alloc hc (.cells #[.int .i64 0, .int .i64 0, .string ⟨#[]⟩, .slice none 0 0] 26)
  have hD1 : Drew w g A c xs (w.alloc (.cells #[.int .i64 0, .int .i64 0, .string ⟨#[]⟩, .slice none 0 0] 26)) := ⟨hc1, World.grownBy_alloc w _ _⟩
  have D1 := hid hD1
  have B1 := hid (Blk.new w 26 [.int .i64 0, .int .i64 0, .string ⟨#[]⟩, .slice none 0 0])
  have hmk := hid (make_any g A c xs 3 (by omega) d VA vc V _ h1 h2 hc1 (hV.below hb0) hl hs)
  clear hc hV hc1 hD1 hb0
  go_enter Try.func63, Try.ntmps63
  go_wp2_with fail
  generalize (w.alloc (.cells #[.int .i64 0, .int .i64 0, .string ⟨#[]⟩, .slice none 0 0] 26)) = w1 at *
  refine hmk.out.mono ?_
  rintro e w2 ⟨v, t, rfl, hm, hcnt, hd⟩
  obtain ⟨k, n, s, KA, l, kc, rfl⟩ := form_made hm
  have hcnt : cntT t ≤ 15 := by omega
  have D2 := hid (drew_tr D1.out hd)
  have B2 := hid (B1.out.gb hd.2 (by omega))
  have u2 := hd.2.size
  have hb := box_below w2 (.cells #[.int .i64 k, .int .i64 n, sv s, .slice KA l kc] 26)
  have X3 := hid (box_blk w2 k n s KA l kc 26)
  have D3 := hid (drew_be D2.out hb)
  have B3 := hid (B2.out.below hb B2.out.lt)
  have M3 := hid (hm.below hb)
  clear hd hm hb hmk
  go_wp2_with fail
  generalize (w2.alloc (.cells #[.int .i64 k, .int .i64 n, sv s, .slice KA l kc] 26)) = w3 at *
  refine (svalidE t _ _ M3.out.1.ex (by omega)).mono ?_
  rintro e w4 ⟨rfl, hb⟩
  have D4 := hid (drew_be D3.out hb)
  have B4 := hid (B3.out.below hb B3.out.lt)
  have X4 := hid (X3.out.below hb X3.out.lt)
  have M4 := hid (M3.out.below hb)
  clear hb
  cases hok : okT t with
  | true =>
    have f := make_fin hgw D4.out B4.out M4.out (by have := zz.out; omega)
    have f1 := hid f.1
    have f2 := hid f.2.1
    have f3 := hid f.2.2
    clear f hok
    obtain ⟨x0, x1, x2, x3⟩ := four B4.out
    obtain ⟨y0, y1, y2, y3⟩ := four X4.out
    have r0 := B4.out.frozen 0
    have r1 := B4.out.frozen 1
    have r2 := B4.out.frozen 2
    have r3 := B4.out.frozen 3
    go_wp2_with fail
    exact bodyPost_ret (results_cell_row Try.results63 _ _ w.heap.size 26 _ (0, 0) _ rfl f1.out Try.underlying26 rfl (by kernel_rfl)) rfl ⟨_, _, rfl, f2.out, hcnt, f3.out⟩
  | false =>
    clear hok
    go_wp2_with fail
    refine (const4 1 _).mono ?_
    rintro e w5 ⟨rfl, hb⟩
    have D5 := hid (drew_be D4.out hb)
    have B5 := hid (B4.out.below hb B4.out.lt)
    have f := make_fin hgw D5.out B5.out (made_leaf w5 (w.heap.size + 1) 1 1 [] (by simp)) (Nat.le_refl _)
    have f1 := hid f.1
    have f2 := hid f.2.1
    have f3 := hid f.2.2
    have hcc := hid (show cntT (.mk 1 1 [] []) ≤ 15 by simp [cntT_mk, cntK])
    clear f hb
    obtain ⟨x0, x1, x2, x3⟩ := four B5.out
    have r0 := B5.out.frozen 0
    have r1 := B5.out.frozen 1
    have r2 := B5.out.frozen 2
    have r3 := B5.out.frozen 3
    go_wp2_with fail
    exact bodyPost_ret (results_cell_row Try.results63 _ _ w.heap.size 26 _ (0, 0) _ rfl f1.out Try.underlying26 rfl (by kernel_rfl)) rfl ⟨_, _, rfl, f2.out, hcc.out, f3.out⟩
end Go.Proofs.Ytlkfejcnkckgkaa.Dr
