/- Chapter 11's draws: inputs, programs and inputs. -/
import Derived.Test.YtnmomlaimffonaaGreatZDr16
import Derived.Test.YtnmomlaimffonaaGreatZRu11
set_option maxHeartbeats 8000000
set_option maxRecDepth 100000
namespace Go.Proofs.YtnmomlaimffonaaGreat.Gd
open Go.RowKit Go.Lib Com Mem Cur YtnmomlaimffonaaGreat.Os Ow Tr Dr Pl Gs
theorem results_row_t1 {P : Program} {fn : Func} {p q : Tmp} {ty : TypeId} (h : fn.results = #[.cell p ty, .tmp q]) (tmps : Array Value) (w : World) (g : Nat) (t : TypeId) (cs : Array Value) (fr : Nat × Nat) (d : TypeDesc)
    (hp : tmps.getD p undef = .pointer (some ⟨g, 0, none⟩)) (hg : w.heap[g]? = some (.cells cs t fr))
    (hu : P.underlying ty = some d) (hd : (match d with | .struct _ | .array _ _ => true | _ => false) = true) (hi : (P.info? ty).map (·.size) = some cs.size) :
    (results fn tmps).run P w = .ok (.tuple #[.agg cs, tmps.getD q undef]) w := by
  have hp' : tmps[p]?.getD undef = .pointer (some ⟨g, 0, none⟩) := by simpa using hp
  simp [results, h, hp', asAddr, run_loadVar_row w g t ty cs fr d hg hu hd hi]
theorem results_row_t2 {P : Program} {fn : Func} {p q r : Tmp} {ty : TypeId} (h : fn.results = #[.cell p ty, .tmp q, .tmp r]) (tmps : Array Value) (w : World) (g : Nat) (t : TypeId) (cs : Array Value) (fr : Nat × Nat) (d : TypeDesc)
    (hp : tmps.getD p undef = .pointer (some ⟨g, 0, none⟩)) (hg : w.heap[g]? = some (.cells cs t fr))
    (hu : P.underlying ty = some d) (hd : (match d with | .struct _ | .array _ _ => true | _ => false) = true) (hi : (P.info? ty).map (·.size) = some cs.size) :
    (results fn tmps).run P w = .ok (.tuple #[.agg cs, tmps.getD q undef, tmps.getD r undef]) w := by
  have hp' : tmps[p]?.getD undef = .pointer (some ⟨g, 0, none⟩) := by simpa using hp
  simp [results, h, hp', asAddr, run_loadVar_row w g t ty cs fr d hg hu hd hi]
theorem PgD.out {W : World} {b hi lo : Nat} {vv v : Value} {V : List (List UInt8)} {L : List St} (h : PgD W b hi vv v V L) (hl : lo ≤ b) : PgOut W lo (.agg #[vv, v]) V L := by
  obtain ⟨VA, vc, rfl, h1, h2, h3⟩ := own_rdb (own_mono h.vars hl)
  obtain ⟨B, bc, rows, rfl, q1, q2, q3⟩ := h.body.rd
  rw [dl_len] at q1 q3 ⊢
  exact ⟨VA, vc, B, bc, rows, rfl, h1, h2, h3, q1, q3, q2.cry (Cry.ezb_mono W (by have := h.le; omega) _) (Nat.le_refl _)⟩
theorem PgOut.below {W W' : World} {lo lo' : Nat} {v : Value} {V : List (List UInt8)} {L : List St} (hP : PgOut W lo v V L) (hl : lo' ≤ lo) (hb : Below W.heap.size W W') : PgOut W' lo' v V L := by
  obtain ⟨VA, vc, B, bc, rows, e, h1, h2, h3, h4, h5, h6⟩ := hP
  have hc : Cry (ezb W lo) (ezb W' lo') W.heap.size := (Cry.two (o := none) (fun k hk _ _ => hb.block k hk)).trans (Cry.ezb_mono W' hl _) (Nat.le_refl _)
  exact ⟨VA, vc, B, bc, rows, e, h1, rd_cry h2 hc hb.size, h3, h4, h5, h6.cry hc hb.size⟩
def InOut (W : World) (lo : Nat) (v : Value) (S : List Int) : Prop := ∃ (A : Option Addr) (c : Nat), v = .slice A S.length c ∧ (A = none → S.length = 0 ∧ c = 0) ∧ Rd (ezb W lo) W.heap.size A (S.map iv)
theorem InOut.of {W : World} {b lo : Nat} {v : Value} {S : List Int} (h : W.ownsRow b 3 1 v S.length (S.map iv)) (hl : lo ≤ b) : InOut W lo v S := by
  have h' := own_mono h hl
  obtain ⟨A, c, rfl, h1, h2, h3⟩ := own_rdb h'
  refine ⟨A, c, rfl, fun e => ?_, h2⟩
  subst e
  rcases h'.2 with ⟨hv, hn⟩ | ⟨g, cap, cur, hv, _⟩
  · injection hv with _ _ hc
    exact ⟨hn, hc⟩
  · cases hv
theorem InOut.keep {W W' : World} {lo lo' h : Nat} {v : Value} {S : List Int} (hP : InOut W lo v S) (hlt : h < lo) (hl : lo' ≤ lo) (hg : W.grownBy W' (some h)) : InOut W' lo' v S := by
  obtain ⟨A, c, e, h1, h2⟩ := hP
  have hc : Cry (ezb W lo) (ezb W' lo') W.heap.size := (Cry.two (o := none) (fun k hk hlo _ => hg.block k hk fun e => by cases e; omega)).trans (Cry.ezb_mono W' hl _) (Nat.le_refl _)
  exact ⟨A, c, e, h1, rd_cry h2 hc hg.size⟩
theorem InOut.below {W W' : World} {lo lo' : Nat} {v : Value} {S : List Int} (hP : InOut W lo v S) (hl : lo' ≤ lo) (hb : Below W.heap.size W W') : InOut W' lo' v S := by
  obtain ⟨A, c, e, h1, h2⟩ := hP
  have hc : Cry (ezb W lo) (ezb W' lo') W.heap.size := (Cry.two (o := none) (fun k hk _ _ => hb.block k hk)).trans (Cry.ezb_mono W' hl _) (Nat.le_refl _)
  exact ⟨A, c, e, h1, rd_cry h2 hc hb.size⟩
theorem InOut.rd {W : World} {lo : Nat} {v : Value} {S : List Int} (hP : InOut W lo v S) : ∃ (A : Option Addr) (c : Nat), v = .slice A S.length c ∧ (A = none → S.length = 0 ∧ c = 0) ∧ ∀ w, Below W.heap.size W w → Rd w w.heap.size A (S.map iv) := by
  obtain ⟨A, c, e, h1, h2⟩ := hP
  refine ⟨A, c, e, h1, fun w hb => rd_cry h2 (fun p v hp hv => ?_) hb.size⟩
  have := (pln_cell (ezb_cell hv).2).1
  rw [hb.cell hp]; exact this
theorem intD : SlT Tryz.prog 28 3 (.int .i64 0) 8 := ⟨Tryz.underlying28, by kernel_rfl, rfl, by decide⟩
theorem input11 (g : Nat) (A : Option Addr) (c : Nat) (xs : List UInt8) (n : Nat) (w : World) (hc : CurAt w g A c xs) (hn : n ≤ 1000) :
    Calls Tryz.prog 53 #[.pointer (some ⟨g, 0, none⟩), .int .i64 n] w fun e w' => ∃ (v : Value) (S : List Int), e = .returned v ∧ w'.ownsRow w.heap.size 3 1 v S.length (S.map iv) ∧ S.length = n ∧ Drew w g A c xs w' := by
  have hgw := cur_lt hc
  have D0 := hid (show Drew w g A c xs (w.alloc (.cells #[] 3)) from ⟨cur_alloc hc _, World.grownBy_alloc w _ _⟩)
  have O0 := hid (Grow.lit0 3 w).1
  clear hc
  go_enter Tryz.func53, Tryz.ntmps53
  go_wp2_with fail
  go_loopw [5, 6] (fun v i wr => ∃ (m : Nat) (S : List Int), m ≤ n ∧ i = .int .i64 m ∧ Hid (S.length = m) ∧ wr.ownsRow w.heap.size 3 1 v S.length (S.map iv) ∧ Drew w g A c xs wr) (fun _ i _ => n - (Go.RowKit.intOf i).toNat)
  case atStart => exact ⟨0, [], Nat.zero_le _, rfl, hid rfl, O0.out, D0.out⟩
  case round =>
    obtain ⟨m, S, hm, rfl, hSm, hO, hD⟩ := hrel
    clear O0 D0
    by_cases hlt : m < n
    · have hS1 := hSm.out
      go_wp2_with fail
      refine (below_any g A c xs 4 wr hD.1 (by omega) (by omega)).mono ?_
      rintro e w2 ⟨⟨q, rfl, hq, hq2⟩, hd⟩
      have hD2 := hid (dr_then hD hd)
      have hz := (dr_then hD hd).2.size
      have hO2 := hid (show w2.ownsRow w.heap.size 3 1 u5 (S.map iv).length (S.map iv) from by rw [List.length_map]; exact own_drew hO hd.2 hgw)
      have hlen : (S.map iv).length < 1000000000000 := by rw [List.length_map]; omega
      clear hd hO hD hS1 hq
      go_wp2_with (at_builtin; go_loud (refine own_append intD hO2.out hz (iv (q : Int)) rfl hlen rfl _ _ rfl rfl rfl ?_; intro v' w3 ho hg hne'; have hD3 := hid (Gd.drew_row (lo := w.heap.size) hD2.out (fun k hk => (own_ge hO2.out hk).1) (Nat.le_refl _) hgw hg); have ho := hid ho; clear hg hne' hD2 hO2))
      go_wp2_with fail
      refine ⟨⟨m + 1, S ++ [(q : Int)], hlt, by go_num, hid (by rw [List.length_append, hSm.out]; rfl), ?_, hD3.out⟩, by simp [Go.RowKit.intOf]; omega⟩
      have := ho.out
      rw [List.length_append, List.length_map, List.length_singleton] at this
      rw [List.length_append, List.length_singleton, List.map_append]
      exact this
    · obtain rfl : m = n := by omega
      have hO := hid hO
      have hD := hid hD
      go_wp2_with fail
      go_ret
      exact ⟨_, S, rfl, hO.out, hSm.out, hD.out⟩
structure ArgP (W : World) (w : World) (g pb lo : Nat) (A : Option Addr) (c : Nat) (xs : List UInt8) (VA : Option Addr) (vl vc : Nat) (B : Option Addr) (bl bc : Nat) (V : List (List UInt8)) (L : List St) : Prop where
  blk : Blk W pb PI [.slice VA vl vc, .slice B bl bc]
  out : PgOut W lo (.agg #[.slice VA vl vc, .slice B bl bc]) V L
  cur : Drew w g A c xs W
  root : Blk W w.heap.size PI [.slice none 0 0, .slice none 0 0]
theorem ArgP.to {W W' w : World} {g pb lo : Nat} {A : Option Addr} {c : Nat} {xs : List UInt8} {VA : Option Addr} {vl vc : Nat} {B : Option Addr} {bl bc : Nat} {V : List (List UInt8)} {L : List St} (h : ArgP W w g pb lo A c xs VA vl vc B bl bc V L) (hd : Drew W g A c xs W') (hg : g < lo) (hp : g ≠ pb) (hw : g ≠ w.heap.size) : ArgP W' w g pb lo A c xs VA vl vc B bl bc V L :=
  ⟨h.blk.gb hd.2 (fun e => hp e.symm), h.out.keep hg (Nat.le_refl _) hd.2, dr_then h.cur hd, h.root.gb hd.2 (fun e => hw e.symm)⟩
theorem args11 (g : Nat) (A : Option Addr) (c : Nat) (xs : List UInt8) (w : World) (hc : CurAt w g A c xs) :
    Calls Tryz.prog 28 #[.pointer (some ⟨g, 0, none⟩)] w fun e w' => ∃ v V L vi S, e = .returned (.tuple #[v, vi]) ∧ PgOut w' w.heap.size v V L ∧ V.length ≤ 3 ∧ (∀ s ∈ V, s.length ≤ 9) ∧ cntL L ≤ 200 ∧ nxL L ≤ 5000 ∧ InOut w' w.heap.size vi S ∧ S.length ≤ 4 ∧ Drew w g A c xs w' := by
  have hgw := cur_lt hc
  have s0 := size_alloc' w (.cells #[.slice none 0 0, .slice none 0 0] PI)
  have R0 := hid (Blk.new w PI [.slice none 0 0, .slice none 0 0])
  have D0 := hid (show Drew w g A c xs (w.alloc (.cells #[.slice none 0 0, .slice none 0 0] PI)) from ⟨cur_alloc hc _, World.grownBy_alloc w _ _⟩)
  clear hc
  go_enter Tryz.func28, Tryz.ntmps28
  go_wp2_with fail
  generalize (w.alloc (.cells #[.slice none 0 0, .slice none 0 0] PI)) = w1 at *
  refine (names8 g A c xs w1 D0.out.1).mono ?_
  rintro e w2 ⟨vb, vc, V, cs, rfl, hVl, hVc, hVs, hvb, hVB, hVt, hd⟩
  have D2 := hid (drew_tr D0.out hd)
  have R2 := hid (R0.out.gb hd.2 (by omega))
  have z2 := hd.2.size
  clear hd D0 R0
  go_wp2_with fail
  refine (draw8 g A c xs vb vc V cs w2 D2.out.1 hVl hVs (by omega) hVB hVt).mono ?_
  rintro e w3 ⟨vv, v, hi, L, rfl, hP, hL3, hLc, hLx, hd⟩
  have D3 := drew_tr D2.out hd
  have R3 := R2.out.gb hd.2 (by omega)
  have z3 := hd.2.size
  have hO3 := hP.out (Nat.le_refl _)
  obtain ⟨VA, vl, B, bc, rows, e3, hO4⟩ := hO3
  injection e3 with e3
  injection e3 with e3
  injection e3 with e5 e6
  injection e6 with e6 _
  subst e5 e6
  have hO3 : PgOut w3 w2.heap.size (.agg #[.slice VA V.length vl, .slice B L.length bc]) V L := ⟨VA, vl, B, bc, rows, rfl, hO4⟩
  have b4 := box_below w3 (.cells #[.slice VA V.length vl, .slice B L.length bc] PI)
  have M4 := hid (show ArgP (w3.alloc (.cells #[.slice VA V.length vl, .slice B L.length bc] PI)) w g w3.heap.size (w.heap.size + 1) A c xs VA V.length vl B L.length bc V L from
    ⟨Blk.new w3 PI [.slice VA V.length vl, .slice B L.length bc], hO3.below (by omega) b4, drew_be D3 b4, R3.below b4 R3.lt⟩)
  clear hP hd D2 R2 hVB hVt hO3 hO4 b4 D3 R3
  go_wp2_with fail
  generalize (w3.alloc (.cells #[.slice VA V.length vl, .slice B L.length bc] PI)) = w4 at *
  refine (once_any g A c xs 12 w4 M4.out.cur.1 (by omega) (by omega)).mono ?_
  rintro e w5 ⟨⟨q, rfl⟩, hd⟩
  have M5 := hid (M4.out.to hd (by omega) (by omega) (by omega))
  have z5 := M5.out.cur.2.size
  clear hd M4
  obtain ⟨k0, k1⟩ := two M5.out.blk
  have f0 := M5.out.blk.frozen 0
  have f1 := M5.out.blk.frozen 1
  have hV9 : V.length ≤ 3 := by omega
  have hn1 : cntL L ≤ 200 := by omega
  have hn2 : nxL L ≤ 5000 := by omega
  have hlp := M5.out.blk.lt
  clear hL3 hLc hLx hVl hVc
  cases q with
  | false =>
    go_wp2_with fail
    refine (input11 g A c xs V.length w5 M5.out.cur.1 (by omega)).mono ?_
    rintro e wy ⟨vi, S, rfl, hO, hS, hd⟩
    have Ey := hid hd
    have zy := hd.2.size
    have hO := hid hO
    clear hd k0 k1 f0 f1
    go_wp2_with fail
    refine (once_any g A c xs 16 wy Ey.out.1 (by omega) (by omega)).mono ?_
    rintro e wz ⟨⟨q2, rfl⟩, hd⟩
    have Ez := hid (dr_then Ey.out hd)
    have zz := hd.2.size
    have hOz := hid (own_drew hO.out hd.2 (show g < w5.heap.size by omega))
    clear hd Ey hO
    cases q2 with
    | false =>
      have Mz := hid (M5.out.to Ez.out (by omega) (by omega) (by omega))
      clear Ez M5
      have hpg := put_gb [.slice VA V.length vl, .slice B L.length bc] wz w.heap.size
      have f1 := hid (putN_blk [.slice VA V.length vl, .slice B L.length bc] 0 Mz.out.root)
      have f2 := hid (Mz.out.out.keep (h := w.heap.size) (lo' := w.heap.size) (by omega) (by omega) hpg)
      have f3 := hid ((InOut.of hOz.out (lo := w.heap.size + 1) (by omega)).keep (h := w.heap.size) (lo' := w.heap.size) (by omega) (by omega) hpg)
      have f4 := hid (Gd.drew_row (lo := w.heap.size) Mz.out.cur (fun b h => by cases h; exact Nat.le_refl _) (Nat.le_refl _) hgw hpg)
      obtain ⟨x0, x1⟩ := two Mz.out.root
      obtain ⟨k0, k1⟩ := two Mz.out.blk
      have r0 := Mz.out.root.frozen 0
      have r1 := Mz.out.root.frozen 1
      clear hpg Mz hOz
      go_wp2_with fail
      exact bodyPost_ret (results_row_t1 Tryz.results28 _ _ w.heap.size PI _ (0, 0) _ rfl f1.out Tryz.underlying27 rfl (by kernel_rfl)) rfl ⟨_, V, L, _, S, rfl, f2.out, hV9, fun s hs => hVs s hs, hn1, hn2, f3.out, by omega, f4.out⟩
    | true =>
      go_wp2_with fail
      refine (any3 g A c xs wz Ez.out.1).mono ?_
      rintro e wu ⟨⟨n3', _, _, rfl⟩, hd⟩
      have Eu := hid (dr_then Ez.out hd)
      have zu := hd.2.size
      have hOu := hid (show wu.ownsRow w5.heap.size 3 1 vi (S.map iv).length (S.map iv) from by rw [List.length_map]; exact own_drew hOz.out hd.2 (show g < w5.heap.size by omega))
      have hlen : (S.map iv).length < 1000000000000 := by rw [List.length_map]; omega
      clear hd Ez hOz
      go_wp2_with (at_builtin; go_loud (refine own_append intD hOu.out (show w5.heap.size ≤ wu.heap.size by omega) (iv n3') rfl hlen rfl _ _ rfl rfl rfl ?_; intro v' w9 ho hg hne'; have hown := (fun k hk => (own_ge hOu.out hk).1 : ∀ k, vi.ownBlock = some k → w5.heap.size ≤ k); have E9 := Gd.drew_row (lo := w5.heap.size) Eu.out hown (Nat.le_refl _) (show g < w5.heap.size by omega) hg; have M9 := hid (M5.out.to E9 (by omega) (by omega) (by omega)); have hO9 : w9.ownsRow w5.heap.size 3 1 v' (S ++ [n3']).length ((S ++ [n3']).map iv) := (by rw [List.length_append, List.length_map, List.length_singleton] at ho; rw [List.length_append, List.length_singleton, List.map_append]; exact ho); have z9 := hg.size; replace hO9 := hid hO9; clear ho hg hne' hown hOu Eu E9 M5; obtain ⟨k0, k1⟩ := two M9.out.blk; obtain ⟨x0, x1⟩ := two M9.out.root; have r0 := M9.out.root.frozen 0; have r1 := M9.out.root.frozen 1))
      have hpg := put_gb [.slice VA V.length vl, .slice B L.length bc] w9 w.heap.size
      have f1 := hid (putN_blk [.slice VA V.length vl, .slice B L.length bc] 0 M9.out.root)
      have f2 := hid (M9.out.out.keep (h := w.heap.size) (lo' := w.heap.size) (by omega) (by omega) hpg)
      have f3 := hid ((InOut.of hO9.out (lo := w.heap.size + 1) (by omega)).keep (h := w.heap.size) (lo' := w.heap.size) (by omega) (by omega) hpg)
      have f4 := hid (Gd.drew_row (lo := w.heap.size) M9.out.cur (fun b h => by cases h; exact Nat.le_refl _) (Nat.le_refl _) hgw hpg)
      clear hpg M9 hO9
      go_wp2_with fail
      exact bodyPost_ret (results_row_t1 Tryz.results28 _ _ w.heap.size PI _ (0, 0) _ rfl f1.out Tryz.underlying27 rfl (by kernel_rfl)) rfl ⟨_, V, L, _, S ++ [n3'], rfl, f2.out, hV9, fun s hs => hVs s hs, hn1, hn2, f3.out, by rw [List.length_append, List.length_singleton]; omega, f4.out⟩
  | true =>
    go_wp2_with fail
    refine (bent8 g A c xs w5 M5.out.cur.1).mono ?_
    rintro e w6 ⟨v6, V6, L6, rfl, hO6, n1, n2, n3, n4, hd⟩
    obtain ⟨VA6, vl6, B6, bc6, rows6, rfl, hO7⟩ := hO6
    have hO6 : PgOut w6 w5.heap.size (.agg #[.slice VA6 V6.length vl6, .slice B6 L6.length bc6]) V6 L6 := ⟨VA6, vl6, B6, bc6, rows6, rfl, hO7⟩
    have M6 := M5.out.to hd (by omega) (by omega) (by omega)
    have z6 := hd.2.size
    have hpg6 := put_gb [.slice VA6 V6.length vl6, .slice B6 L6.length bc6] w6 w3.heap.size
    have M7 := hid (show ArgP ((w6.setCell ⟨w3.heap.size, 0, none⟩ (.slice VA6 V6.length vl6)).setCell ⟨w3.heap.size, 1, none⟩ (.slice B6 L6.length bc6)) w g w3.heap.size (w.heap.size + 1) A c xs VA6 V6.length vl6 B6 L6.length bc6 V6 L6 from
      ⟨putN_blk [.slice VA6 V6.length vl6, .slice B6 L6.length bc6] 0 M6.blk, hO6.keep (h := w3.heap.size) (by omega) (by omega) hpg6, Gd.drew_row (lo := w.heap.size) M6.cur (fun b h => by cases h; omega) (Nat.le_refl _) hgw hpg6, M6.root.gb hpg6 (by omega)⟩)
    have z7 := hid (show ((w6.setCell ⟨w3.heap.size, 0, none⟩ (.slice VA6 V6.length vl6)).setCell ⟨w3.heap.size, 1, none⟩ (.slice B6 L6.length bc6)).heap.size = w6.heap.size from putN_size [.slice VA6 V6.length vl6, .slice B6 L6.length bc6] w6 w3.heap.size 0)
    clear k0 k1 f0 f1
    obtain ⟨k0, k1⟩ := two M6.blk
    have f0 := M6.blk.frozen 0
    have f1 := M6.blk.frozen 1
    clear hd hO6 hO7 M5 M6 hpg6
    go_wp2_with fail
    generalize ((w6.setCell ⟨w3.heap.size, 0, none⟩ (.slice VA6 V6.length vl6)).setCell ⟨w3.heap.size, 1, none⟩ (.slice B6 L6.length bc6)) = w7 at *
    have z7 := z7.out
    refine (input11 g A c xs V6.length w7 M7.out.cur.1 (by omega)).mono ?_
    rintro e wy ⟨vi, S, rfl, hO, hS, hd⟩
    have Ey := hid hd
    have zy := hd.2.size
    have hO := hid hO
    clear hd k0 k1 f0 f1
    go_wp2_with fail
    refine (once_any g A c xs 16 wy Ey.out.1 (by omega) (by omega)).mono ?_
    rintro e wz ⟨⟨q2, rfl⟩, hd⟩
    have Ez := hid (dr_then Ey.out hd)
    have zz := hd.2.size
    have hOz := hid (own_drew hO.out hd.2 (show g < w7.heap.size by omega))
    clear hd Ey hO
    cases q2 with
    | false =>
      have Mz := hid (M7.out.to Ez.out (by omega) (by omega) (by omega))
      clear Ez M7
      have hpg := put_gb [.slice VA6 V6.length vl6, .slice B6 L6.length bc6] wz w.heap.size
      have f1 := hid (putN_blk [.slice VA6 V6.length vl6, .slice B6 L6.length bc6] 0 Mz.out.root)
      have f2 := hid (Mz.out.out.keep (h := w.heap.size) (lo' := w.heap.size) (by omega) (by omega) hpg)
      have f3 := hid ((InOut.of hOz.out (lo := w.heap.size + 1) (by omega)).keep (h := w.heap.size) (lo' := w.heap.size) (by omega) (by omega) hpg)
      have f4 := hid (Gd.drew_row (lo := w.heap.size) Mz.out.cur (fun b h => by cases h; exact Nat.le_refl _) (Nat.le_refl _) hgw hpg)
      obtain ⟨x0, x1⟩ := two Mz.out.root
      obtain ⟨k0, k1⟩ := two Mz.out.blk
      have r0 := Mz.out.root.frozen 0
      have r1 := Mz.out.root.frozen 1
      clear hpg Mz hOz
      go_wp2_with fail
      exact bodyPost_ret (results_row_t1 Tryz.results28 _ _ w.heap.size PI _ (0, 0) _ rfl f1.out Tryz.underlying27 rfl (by kernel_rfl)) rfl ⟨_, V6, L6, _, S, rfl, f2.out, n1, n2, n3, n4, f3.out, by omega, f4.out⟩
    | true =>
      go_wp2_with fail
      refine (any3 g A c xs wz Ez.out.1).mono ?_
      rintro e wu ⟨⟨n3', _, _, rfl⟩, hd⟩
      have Eu := hid (dr_then Ez.out hd)
      have zu := hd.2.size
      have hOu := hid (show wu.ownsRow w7.heap.size 3 1 vi (S.map iv).length (S.map iv) from by rw [List.length_map]; exact own_drew hOz.out hd.2 (show g < w7.heap.size by omega))
      have hlen : (S.map iv).length < 1000000000000 := by rw [List.length_map]; omega
      clear hd Ez hOz
      go_wp2_with (at_builtin; go_loud (refine own_append intD hOu.out (show w7.heap.size ≤ wu.heap.size by omega) (iv n3') rfl hlen rfl _ _ rfl rfl rfl ?_; intro v' w9 ho hg hne'; have hown := (fun k hk => (own_ge hOu.out hk).1 : ∀ k, vi.ownBlock = some k → w7.heap.size ≤ k); have E9 := Gd.drew_row (lo := w7.heap.size) Eu.out hown (Nat.le_refl _) (show g < w7.heap.size by omega) hg; have M9 := hid (M7.out.to E9 (by omega) (by omega) (by omega)); have hO9 : w9.ownsRow w7.heap.size 3 1 v' (S ++ [n3']).length ((S ++ [n3']).map iv) := (by rw [List.length_append, List.length_map, List.length_singleton] at ho; rw [List.length_append, List.length_singleton, List.map_append]; exact ho); have z9 := hg.size; replace hO9 := hid hO9; clear ho hg hne' hown hOu Eu E9 M7; obtain ⟨k0, k1⟩ := two M9.out.blk; obtain ⟨x0, x1⟩ := two M9.out.root; have r0 := M9.out.root.frozen 0; have r1 := M9.out.root.frozen 1))
      have hpg := put_gb [.slice VA6 V6.length vl6, .slice B6 L6.length bc6] w9 w.heap.size
      have f1 := hid (putN_blk [.slice VA6 V6.length vl6, .slice B6 L6.length bc6] 0 M9.out.root)
      have f2 := hid (M9.out.out.keep (h := w.heap.size) (lo' := w.heap.size) (by omega) (by omega) hpg)
      have f3 := hid ((InOut.of hO9.out (lo := w.heap.size + 1) (by omega)).keep (h := w.heap.size) (lo' := w.heap.size) (by omega) (by omega) hpg)
      have f4 := hid (Gd.drew_row (lo := w.heap.size) M9.out.cur (fun b h => by cases h; exact Nat.le_refl _) (Nat.le_refl _) hgw hpg)
      clear hpg M9 hO9
      go_wp2_with fail
      exact bodyPost_ret (results_row_t1 Tryz.results28 _ _ w.heap.size PI _ (0, 0) _ rfl f1.out Tryz.underlying27 rfl (by kernel_rfl)) rfl ⟨_, V6, L6, _, S ++ [n3'], rfl, f2.out, n1, n2, n3, n4, f3.out, by rw [List.length_append, List.length_singleton]; omega, f4.out⟩
def fuels11 : List Int := [400, 400, 100, 10, 3, 1, 0, -1, 401]
theorem drawRun11 (A : Option Addr) (c : Nat) (xs : List UInt8) (w : World) (hr : Rd w w.heap.size A (xs.map bv)) (hn : xs.length ≤ 1048576) :
    Calls Tryz.prog 8 #[.slice A xs.length c] w fun e w' => ∃ v V L vi S f, e = .returned (.tuple #[v, vi, .int .i64 f]) ∧ PgOut w' w.heap.size v V L ∧ V.length ≤ 3 ∧ (∀ s ∈ V, s.length ≤ 9) ∧ cntL L ≤ 200 ∧ nxL L ≤ 5000 ∧ InOut w' w.heap.size vi S ∧ S.length ≤ 4 ∧ f ∈ fuels11 ∧ Below w.heap.size w w' := by
  have hb0 := box_below w (.cells #[.slice none 0 0, .slice none 0 0] PI)
  have s0 := size_alloc' w (.cells #[.slice none 0 0, .slice none 0 0] PI)
  have h1 := hid (new_any A c xs _ ((hr.below hb0).more hb0.size) hn)
  have R0 := hid (Blk.new w PI [.slice none 0 0, .slice none 0 0])
  replace hb0 := hid hb0
  clear hr hn
  go_enter Tryz.func8, Tryz.ntmps8
  go_wp2_with fail
  generalize (w.alloc (.cells #[.slice none 0 0, .slice none 0 0] PI)) = W0 at *
  refine h1.out.mono ?_
  rintro e w1 ⟨g, hg, rfl, hc, hb⟩
  have R1 := hid (R0.out.below hb (by omega))
  have B1 := hid (hb0.out.trans (hb.mono (by omega)))
  have s1 := hb.size
  clear hb
  go_wp2_with fail
  refine (args11 g A c xs w1 hc).mono ?_
  rintro e w2 ⟨v, V, L, vi, S, rfl, hO, n1, n2, n3, n4, hI, n5, hd⟩
  obtain ⟨VA, vc, B, bc, rows, rfl, hO2⟩ := hO
  have hO : PgOut w2 w1.heap.size (.agg #[.slice VA V.length vc, .slice B L.length bc]) V L := ⟨VA, vc, B, bc, rows, rfl, hO2⟩
  have hgl := cur_lt hc
  have s2 := hd.2.size
  have b3 := box_below w2 (.cells #[.slice VA V.length vc, .slice B L.length bc] PI)
  have s3 := size_alloc' w2 (.cells #[.slice VA V.length vc, .slice B L.length bc] PI)
  have P3 := hid (Blk.new w2 PI [.slice VA V.length vc, .slice B L.length bc])
  have O3 := hid (hO.below (Nat.le_refl _) b3)
  have I3 := hid (hI.below (Nat.le_refl _) b3)
  have R3 := hid ((R1.out.gb hd.2 (by omega)).below b3 (by have := R1.out.lt; omega))
  have B3 := hid ((drew_below (by omega) B1.out hd).trans (b3.mono (by have := (drew_below (by omega) B1.out hd).size; omega)))
  have C3 := hid (cur_below hd.1 (b3.mono (cur_lt hd.1)))
  clear hO hO2 hd hc hI b3 R1 B1
  go_wp2_with fail
  generalize (w2.alloc (.cells #[.slice VA V.length vc, .slice B L.length bc] PI)) = w3 at *
  have b4 : Below w3.heap.size w3 (w3.alloc (.cells #[.int .i64 400, .int .i64 400, .int .i64 100, .int .i64 10, .int .i64 3, .int .i64 1, .int .i64 0, .int .i64 (-1), .int .i64 401] 3)).drew := (box_below w3 _).drew
  have F4 : Blk (w3.alloc (.cells #[.int .i64 400, .int .i64 400, .int .i64 100, .int .i64 10, .int .i64 3, .int .i64 1, .int .i64 0, .int .i64 (-1), .int .i64 401] 3)).drew w3.heap.size 3 (fuels11.map (Value.int .i64)) := Blk.new w3 3 _
  have cP := hid (pickInt_any g A c xs (some ⟨w3.heap.size, 0, none⟩) 9 fuels11 (w3.alloc (.cells #[.int .i64 400, .int .i64 400, .int .i64 100, .int .i64 10, .int .i64 3, .int .i64 1, .int .i64 0, .int .i64 (-1), .int .i64 401] 3)).drew (cur_below C3.out (b4.mono (cur_lt C3.out))) (F4.rd.more (by have := F4.lt; omega)) (fun ad e => by cases e; show w3.heap.size ≠ g; have := cur_lt C3.out; omega) (by decide) (by decide))
  have P4 := hid (P3.out.below b4 P3.out.lt)
  have R4 := hid (R3.out.below b4 R3.out.lt)
  have O4 := hid (O3.out.below (Nat.le_refl _) b4)
  have I4 := hid (I3.out.below (Nat.le_refl _) b4)
  have B4 := hid (B3.out.trans (b4.mono B3.out.size))
  obtain ⟨k0, k1⟩ := two P3.out
  obtain ⟨x0, x1⟩ := two R3.out
  obtain ⟨i0, i1⟩ := two (P3.out.alloc (.cells #[.int .i64 400, .int .i64 400, .int .i64 100, .int .i64 10, .int .i64 3, .int .i64 1, .int .i64 0, .int .i64 (-1), .int .i64 401] 3))
  have hpl : w2.heap.size ≠ g := by omega
  have hrl : w.heap.size ≠ g := by omega
  have lo1 : w.heap.size < w1.heap.size := by omega
  have hg' : w.heap.size ≤ g := by omega
  replace s3 := hid s3
  clear b4 F4 C3
  go_region_law (go_simp; first | (go_at_call 29; refine cP.out.mono ?_; rintro e w5 ⟨⟨f, hf, rfl⟩, hd⟩; have P5 := hid (P4.out.gb hd.2 hpl); have R5 := hid (R4.out.gb hd.2 hrl); obtain ⟨j0, j1⟩ := two P5.out; obtain ⟨y0, y1⟩ := two R5.out; have r0 := R5.out.frozen 0; have r1 := R5.out.frozen 1; have E5 := hid hd; clear hd))
  all_goals
    have O5 := O4.out.keep (h := g) hgl (Nat.le_refl _) E5.out.2
    have I5 := I4.out.keep (h := g) hgl (Nat.le_refl _) E5.out.2
    have B5 := drew_below hg' B4.out E5.out
    have hpg := put_gb [.slice VA V.length vc, .slice B L.length bc] w5 w.heap.size
    have f1 := hid (putN_blk [.slice VA V.length vc, .slice B L.length bc] 0 R5.out)
    have f2 := hid (O5.keep (h := w.heap.size) (lo' := w.heap.size) lo1 (by omega) hpg)
    have f4 := hid (I5.keep (h := w.heap.size) (lo' := w.heap.size) lo1 (by omega) hpg)
    have f3 := hid (putN_below [.slice VA V.length vc, .slice B L.length bc] 0 B5 (Nat.le_refl w.heap.size))
    clear O5 I5 B5 hpg O4 I4 B4 E5 P5 R5 k0 k1 x0 x1 i0 i1 j0 j1 y0 y1 r0 r1 cP P4 R4
    go_wp2_with fail
    exact bodyPost_ret (results_row_t2 Tryz.results8 _ _ w.heap.size PI _ (0, 0) _ rfl f1.out Tryz.underlying27 rfl (by kernel_rfl)) rfl ⟨_, V, L, _, S, f, rfl, f2.out, n1, n2, n3, n4, f4.out, n5, hf, f3.out⟩
end Go.Proofs.YtnmomlaimffonaaGreat.Gd
