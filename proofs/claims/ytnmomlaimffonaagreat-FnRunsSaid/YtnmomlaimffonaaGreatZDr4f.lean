/- Chapter 4's draws: expressions that need not be valid: the walk. -/
import Derived.Test.YtnmomlaimffonaaGreatZDr4e
import Derived.Deep.RegionWith
import Derived.Maps.AppendAt
set_option maxHeartbeats 8000000
set_option maxRecDepth 100000
namespace Go.Proofs.YtnmomlaimffonaaGreat.Dr
open Go.RowKit Go.Lib Com Mem Cur YtnmomlaimffonaaGreat.Os Tr
theorem len_cntK (ks : List T) : ks.length ≤ cntK ks := by
  induction ks with
  | nil => simp [cntK]
  | cons a r ih => have := cnt_pos a; simp [cntK] at *; omega
theorem row_full {w : World} {base e size n : Nat} {v : Value} {xs : List Value} (h : w.ownsRow base e size v n xs) (hn : 0 < n) : ∃ g c cs, v = .slice (some ⟨g, 0, none⟩) n c ∧ base ≤ g ∧ Blk w g e cs ∧ cs.take (n * size) = xs := by
  rcases h.2 with ⟨_, h0⟩ | ⟨g, c, cur, rfl, hb, hh, _, _, _, ht⟩
  · omega
  · exact ⟨g, c, cur.toList, rfl, hb, by unfold Blk; simpa using hh, ht⟩
theorem drew_row {w W w' : World} {g c : Nat} {A : Option Addr} {xs : List UInt8} {row : Option Nat} (h : Drew w g A c xs W) (hg : W.grownBy w' row) (hrow : ∀ b, row = some b → w.heap.size ≤ b) (hgw : g < w.heap.size) : Drew w g A c xs w' := by
  have hs := h.2.size
  refine ⟨cur_below h.1 ⟨hg.os, hg.tape, hg.output, hg.size, fun k hk => hg.block k (by omega) fun e => ?_⟩, ⟨hg.os.trans h.2.os, hg.tape.trans h.2.tape, hg.output.trans h.2.output, Nat.le_trans hs hg.size, fun k hk hr => (hg.block k (by omega) fun e => ?_).trans (h.2.block k hk hr)⟩⟩
  · have := hrow k e.symm; omega
  · have := hrow k e.symm; omega
theorem step_app4 {W : World} {o : Oper} {a : Act} {ops : Array Oper} {K : Act → World → Prop} {Q : Exit → Act → World → Prop} {E : Prop} (hg : o.guard = none) (s x : Operand)
    (ho : o.op = .call { callee := .builtin .append, args := #[s, x], argTypes := #[90, 90] }) (base : Nat) (i0 : TypeInfo) (hi : Tryz.prog.info? 92 = some i0) (hz0 : i0.zero = some (nv 0 0 [] none 0 0)) (hz1 : i0.size = 4) (hz2 : i0.bytes = 56)
    (v : Value) (n : Nat) (xs : List Value) (hs : a.eval s = v) (hown : W.ownsRow base 92 4 v n xs) (ad : Addr) (ys : List Value) (hx : a.eval x = .slice (some ad) 1 1) (hys : ys.length = 4) (hc : ∀ j u, ys[j]? = some u → W.cell? (ad.add j) = some u) (hone : ∀ u ∈ ys, u.oneCell' = true) (hl : n ≤ 10000000) (hbase : base ≤ W.heap.size)
    (hK : ∀ v' w', w'.ownsRow base 92 4 v' (n + 1) (xs ++ ys) → W.grownBy w' v.ownBlock → (v'.ownBlock = v.ownBlock ∨ v'.ownBlock = some W.heap.size) → K (a.put o.dst v') w') :
    if Region.wanted o (yielded ops a.tmps) = true then Oper.wp Tryz.prog o a W K Q else E := by
  have hw : Region.wanted o (yielded ops a.tmps) = true := by simp [Region.wanted, hg]
  rw [if_pos hw]
  obtain ⟨v', w', hr, h2, h3, _, h5⟩ := run_append_own_at (P := Tryz.prog) W base 90 o.type 92 i0 _ 4 56 Tryz.underlying90 hi hz0 hz1 hz2 rfl (by decide) v n xs hown ad 1 1 ys (by omega) hc hone (by unfold maxLen; omega) (by omega) hbase
  unfold Oper.wp execOp
  simp only [ho, resolve, invoke, builtin, Sem.run_bind, Sem.run_pure, Result.andThen_ok, List.map_toArray, List.map_cons, List.map_nil, hs, hx, hr]
  exact hK _ _ h2 h3 h5
theorem new_node (W : World) (cs : List Value) : ∀ j u, cs[j]? = some u → (W.alloc (.cells cs.toArray 92)).cell? ((⟨W.heap.size, 0, none⟩ : Addr).add j) = some u := by
  intro j u hj
  rw [add_zero, (Blk.new W _ cs).cell]; exact hj
theorem own_row_lt {ty : TypeId} {w : World} {lo hi : Nat} {k n : Int} {s : List UInt8} {A : Option Addr} {l c : Nat} {t : T} (h : OwnE ty w lo hi (nv k n s A l c) t) (hl : l ≠ 0) : ∃ g, A = some ⟨g, 0, none⟩ ∧ g < hi ∧ lo ≤ g := by
  cases h with
  | mk A c vs ls hs hsl hkl hA hin hdis hk =>
    obtain ⟨g, cs, e, h1, h2, _⟩ := hA hl
    exact ⟨g, e, h2, h1⟩
theorem bent_any (g : Nat) (A : Option Addr) (c : Nat) (xs : List UInt8) (w : World) (hc : CurAt w g A c xs) :
    Calls Tryz.prog 76 #[.pointer (some ⟨g, 0, none⟩)] w fun e w' => ∃ v t, e = .returned v ∧ OwnX w.heap.size w'.heap.size w' v t ∧ cntT t ≤ 40 ∧ Drew w g A c xs w' := by
  have hgw := cur_lt hc
  have s1 := size_alloc' w (.cells #[.int .i64 0, .int .i64 0, .string ⟨#[]⟩, .slice none 0 0] 92)
  have B1 := Blk.new w 92 [.int .i64 0, .int .i64 0, .string ⟨#[]⟩, .slice none 0 0]
  have hc1 := cur_alloc hc (.cells #[.int .i64 0, .int .i64 0, .string ⟨#[]⟩, .slice none 0 0] 92)
  have hD1 : Drew w g A c xs (w.alloc (.cells #[.int .i64 0, .int .i64 0, .string ⟨#[]⟩, .slice none 0 0] 92)) := ⟨hc1, World.grownBy_alloc w _ _⟩
  have D2 := drew_be hD1 (box_below (w.alloc (.cells #[.int .i64 0, .int .i64 0, .string ⟨#[]⟩, .slice none 0 0] 92)) (.cells #[sv [120], sv [121]] 9))
  have n2 := Blk.new (w.alloc (.cells #[.int .i64 0, .int .i64 0, .string ⟨#[]⟩, .slice none 0 0] 92)) 9 [sv [120], sv [121]]
  rw [s1] at n2
  have V2 : VarsAt ((w.alloc (.cells #[.int .i64 0, .int .i64 0, .string ⟨#[]⟩, .slice none 0 0] 92)).alloc (.cells #[sv [120], sv [121]] 9)) g (some ⟨w.heap.size + 1, 0, none⟩) [[120], [121]] := Or.inr ⟨w.heap.size + 1, [sv [120], sv [121]], rfl, n2, rfl, by omega⟩
  have B2 := B1.alloc (.cells #[sv [120], sv [121]] 9)
  have z2 := size_alloc' (w.alloc (.cells #[.int .i64 0, .int .i64 0, .string ⟨#[]⟩, .slice none 0 0] 92)) (.cells #[sv [120], sv [121]] 9)
  replace z2 := hid (show w.heap.size + 2 ≤ ((w.alloc (.cells #[.int .i64 0, .int .i64 0, .string ⟨#[]⟩, .slice none 0 0] 92)).alloc (.cells #[sv [120], sv [121]] 9)).heap.size by omega)
  replace D2 := hid D2
  replace V2 := hid V2
  replace B2 := hid B2
  clear hc hc1 hD1 B1 n2 s1
  go_enter Tryz.func76, Tryz.ntmps76
  go_wp2_with fail
  generalize ((w.alloc (.cells #[.int .i64 0, .int .i64 0, .string ⟨#[]⟩, .slice none 0 0] 92)).alloc (.cells #[sv [120], sv [121]] 9)) = w2 at *
  refine (below_any g A c xs 4 w2 D2.out.1 (by omega) (by omega)).mono ?_
  rintro e w3 ⟨⟨x, rfl, hx, hx2⟩, hd⟩
  have e1 : IntKind.i64.wrap (1 + (x : Int)) = 1 + (x : Int) := IntWalk.i64_in _ (by omega)
  have D3 := hid (drew_tr D2.out hd)
  have V3 := hid (V2.out.drew hd.2)
  have B3 := hid (B2.out.gb hd.2 (by omega))
  have z3 := hd.2.size
  clear hd
  go_wp2_with fail
  refine (draw_any g A c xs (some ⟨w.heap.size + 1, 0, none⟩) 2 [[120], [121]] (1 + (x : Int)) w3 (by omega) (by omega) D3.out.1 V3.out (by simp) (by simp)).mono ?_
  rintro e w4 ⟨v, t, rfl, hm, hcnt, hd⟩
  obtain ⟨k, n, s, KA, l, kc, rfl⟩ := form_made hm
  obtain ⟨ks, rfl, rfl, hsl⟩ := own_inv hm.1
  have D4 := hid (drew_tr D3.out hd)
  have B4 := hid (B3.out.gb hd.2 (by omega))
  have z4 := hd.2.size
  have hb := box_below w4 (.cells #[.int .i64 k, .int .i64 n, sv s, .slice KA ks.length kc] 92)
  have E5 := hid (box_blk w4 k n s KA ks.length kc 92)
  have D5 := hid (drew_be D4.out hb)
  have B5 := hid (B4.out.below hb B4.out.lt)
  have O5 := hid (hm.1.same (same_below hb (Nat.le_refl _)))
  have R5 := hid (hm.2.chg (chg_of_below hb 0 0) (Nat.zero_le _))
  have hlo : w.heap.size + 1 ≤ w3.heap.size := by have := z2.out; omega
  have hgl : g + 1 ≤ w3.heap.size := by omega
  clear hd hm hb
  go_wp2_with fail
  generalize (w4.alloc (.cells #[.int .i64 k, .int .i64 n, sv s, .slice KA ks.length kc] 92)) = w5 at *
  refine (below_any g A c xs 12 w5 D5.out.1 (by omega) (by omega)).mono ?_
  rintro e w6 ⟨⟨y, rfl, hy, hy2⟩, hd⟩
  have D6 := hid (drew_tr D5.out hd)
  have B6 := hid (B5.out.gb hd.2 (by omega))
  have E6 := hid (E5.out.gb hd.2 (by omega))
  have O6 := hid (O5.out.chg (chg_of_gbs hd.2) (Or.inr hgl))
  have R6 := hid (R5.out.chg (chg_of_gbs hd.2) hgl)
  clear hd D2 V2 B2 D3 V3 B3 D4 B4 D5 B5 E5 O5 R5 e1
  by_cases h0 : y = 0
  · subst h0
    go_wp2_with fail
    refine (below_any g A c xs 6 w6 D6.out.1 (by omega) (by omega)).mono ?_
    rintro e w7 ⟨⟨q, rfl, _, hq2⟩, hd⟩
    have D7 := drew_tr D6.out hd
    have B7 := B6.out.gb hd.2 (by omega)
    have E7 := E6.out.gb hd.2 (by omega)
    have O7 := O6.out.chg (chg_of_gbs hd.2) (Or.inr hgl)
    obtain ⟨u0, u1, u2, u3⟩ := four E7
    have f0 := E7.frozen 0
    have hcg := chg_set (w := w7) (g := w4.heap.size) (i := 0) (lo := w4.heap.size) (hi := w4.heap.size + 1) (Nat.le_refl _) (Nat.lt_succ_self _) (.int .i64 (q : Nat))
    have D8 := hid (show Drew w g A c xs (w7.setCell ⟨w4.heap.size, 0, none⟩ (.int .i64 (q : Nat))) from ⟨cur_set D7.1 (by omega) 0 _, gb_new D7.2 (by omega) 0 _⟩)
    have B8 := hid (blk_chg B7 hcg (by omega))
    have E8 := hid (show Blk (w7.setCell ⟨w4.heap.size, 0, none⟩ (.int .i64 (q : Nat))) w4.heap.size 92 [.int .i64 ((q : Nat)), .int .i64 (n), sv (s), .slice KA ks.length kc] from E7.set_ 0 _)
    have O8 := hid (own_root (O7.chg hcg (Or.inl (Nat.le_refl _))) ((q : Nat)) (n) (s) (hsl))
    clear hcg D7 B7 E7 O7 hd
    have f := bent_fin hgw D8.out B8.out O8.out hlo (Nat.le_of_lt E8.out.lt)
    have f1 := hid f.1
    have f2 := hid f.2.1
    have f3 := hid f.2.2
    have hcc := hid (show cntT (.mk ((q : Nat)) (n) (s) ks) ≤ 40 from by rw [cntT_mk] at hcnt ⊢; omega)
    obtain ⟨x0, x1, x2, x3⟩ := four B8.out
    obtain ⟨y0, y1, y2, y3⟩ := four E8.out
    have r0 := B8.out.frozen 0
    have r1 := B8.out.frozen 1
    have r2 := B8.out.frozen 2
    have r3 := B8.out.frozen 3
    clear f
    go_wp2_with fail
    exact bodyPost_ret (results_cell_row Tryz.results76 _ _ w.heap.size 92 _ (0, 0) _ rfl f1.out Tryz.underlying92 rfl (by kernel_rfl)) rfl ⟨_, _, rfl, f2.out, hcc.out, f3.out⟩
  by_cases h1 : y = 1
  · subst h1
    go_wp2_with fail
    refine (pickInt_lit g A c xs [-1, 4, 9, 1] w6 D6.out.1 (by simp) (by simp)).mono ?_
    rintro e w7 ⟨⟨q, hq, rfl⟩, hd⟩
    have D7 := drew_tr D6.out hd
    have B7 := B6.out.gb hd.2 (by omega)
    have E7 := E6.out.gb hd.2 (by omega)
    have O7 := O6.out.chg (chg_of_gbs hd.2) (Or.inr hgl)
    obtain ⟨u0, u1, u2, u3⟩ := four E7
    have f0 := E7.frozen 1
    have hcg := chg_set (w := w7) (g := w4.heap.size) (i := 1) (lo := w4.heap.size) (hi := w4.heap.size + 1) (Nat.le_refl _) (Nat.lt_succ_self _) (.int .i64 q)
    have D8 := hid (show Drew w g A c xs (w7.setCell ⟨w4.heap.size, 1, none⟩ (.int .i64 q)) from ⟨cur_set D7.1 (by omega) 1 _, gb_new D7.2 (by omega) 1 _⟩)
    have B8 := hid (blk_chg B7 hcg (by omega))
    have E8 := hid (show Blk (w7.setCell ⟨w4.heap.size, 1, none⟩ (.int .i64 q)) w4.heap.size 92 [.int .i64 (k), .int .i64 (q), sv (s), .slice KA ks.length kc] from E7.set_ 1 _)
    have O8 := hid (own_root (O7.chg hcg (Or.inl (Nat.le_refl _))) (k) (q) (s) (hsl))
    clear hcg D7 B7 E7 O7 hd
    have f := bent_fin hgw D8.out B8.out O8.out hlo (Nat.le_of_lt E8.out.lt)
    have f1 := hid f.1
    have f2 := hid f.2.1
    have f3 := hid f.2.2
    have hcc := hid (show cntT (.mk (k) (q) (s) ks) ≤ 40 from by rw [cntT_mk] at hcnt ⊢; omega)
    obtain ⟨x0, x1, x2, x3⟩ := four B8.out
    obtain ⟨y0, y1, y2, y3⟩ := four E8.out
    have r0 := B8.out.frozen 0
    have r1 := B8.out.frozen 1
    have r2 := B8.out.frozen 2
    have r3 := B8.out.frozen 3
    clear f
    go_wp2_with fail
    exact bodyPost_ret (results_cell_row Tryz.results76 _ _ w.heap.size 92 _ (0, 0) _ rfl f1.out Tryz.underlying92 rfl (by kernel_rfl)) rfl ⟨_, _, rfl, f2.out, hcc.out, f3.out⟩
  by_cases h2 : y = 2
  · subst h2
    go_wp2_with fail
    refine (pick_lit g A c xs [[105, 102], [], [120]] w6 D6.out.1 (by simp) (by simp)).mono ?_
    rintro e w7 ⟨⟨q, hq, rfl⟩, hd⟩
    have D7 := drew_tr D6.out hd
    have B7 := B6.out.gb hd.2 (by omega)
    have E7 := E6.out.gb hd.2 (by omega)
    have O7 := O6.out.chg (chg_of_gbs hd.2) (Or.inr hgl)
    obtain ⟨u0, u1, u2, u3⟩ := four E7
    have f0 := E7.frozen 2
    have hcg := chg_set (w := w7) (g := w4.heap.size) (i := 2) (lo := w4.heap.size) (hi := w4.heap.size + 1) (Nat.le_refl _) (Nat.lt_succ_self _) (sv q)
    have D8 := hid (show Drew w g A c xs (w7.setCell ⟨w4.heap.size, 2, none⟩ (sv q)) from ⟨cur_set D7.1 (by omega) 2 _, gb_new D7.2 (by omega) 2 _⟩)
    have B8 := hid (blk_chg B7 hcg (by omega))
    have E8 := hid (show Blk (w7.setCell ⟨w4.heap.size, 2, none⟩ (sv q)) w4.heap.size 92 [.int .i64 (k), .int .i64 (n), sv (q), .slice KA ks.length kc] from E7.set_ 2 _)
    have O8 := hid (own_root (O7.chg hcg (Or.inl (Nat.le_refl _))) (k) (n) (q) (by simp at hq; rcases hq with rfl | rfl | rfl <;> simp))
    clear hcg D7 B7 E7 O7 hd
    have f := bent_fin hgw D8.out B8.out O8.out hlo (Nat.le_of_lt E8.out.lt)
    have f1 := hid f.1
    have f2 := hid f.2.1
    have f3 := hid f.2.2
    have hcc := hid (show cntT (.mk (k) (n) (q) ks) ≤ 40 from by rw [cntT_mk] at hcnt ⊢; omega)
    obtain ⟨x0, x1, x2, x3⟩ := four B8.out
    obtain ⟨y0, y1, y2, y3⟩ := four E8.out
    have r0 := B8.out.frozen 0
    have r1 := B8.out.frozen 1
    have r2 := B8.out.frozen 2
    have r3 := B8.out.frozen 3
    clear f
    go_wp2_with fail
    exact bodyPost_ret (results_cell_row Tryz.results76 _ _ w.heap.size 92 _ (0, 0) _ rfl f1.out Tryz.underlying92 rfl (by kernel_rfl)) rfl ⟨_, _, rfl, f2.out, hcc.out, f3.out⟩
  by_cases h3 : y = 3
  · subst h3
    have hks : ks.length ≤ 1000 := by have := len_cntK ks; rw [cntT_mk] at hcnt; omega
    obtain ⟨csr, hown, hcl, hAr⟩ := root_row R6.out hks
    have hane : ∀ ad, KA = some ad → ad.block ≠ w4.heap.size := by
      intro ad e h
      have hB := (hAr ad e).2
      by_cases hl0 : ks.length = 0
      · rw [h] at hB
        have h2 := E6.out
        unfold Blk at hB h2
        rw [h2] at hB
        injection hB with h3; injection h3 with h4 _ _
        have h5 := congrArg Array.size h4
        simp at h5; omega
      · obtain ⟨g1, e1, hlt, _⟩ := own_row_lt O6.out hl0
        rw [e] at e1; cases e1; exact absurd h (by simp only; omega)
    obtain ⟨i0, hi0, hz0, hz1, hz2⟩ := info_parts zeroE
    have hsz6 := E6.out.lt
    obtain ⟨q0, q1, q2, q3⟩ := four E6.out
    replace hown := hid hown
    replace hAr := hid hAr
    replace hane := hid hane
    go_wp2_with fail
    go_region_law (first
      | (refine step_app4 rfl (.tmp 33) (.tmp 35) rfl w3.heap.size i0 hi0 hz0 hz1 hz2 (.slice KA ks.length kc) ks.length csr rfl (hown8.alloc _) ⟨w8.heap.size, 0, none⟩ [.int .i64 1, .int .i64 0, sv [], .slice none 0 0] rfl rfl (new_node w8 [.int .i64 1, .int .i64 0, sv [], .slice none 0 0]) (by intro u hu; simp at hu; rcases hu with rfl | rfl | rfl | rfl <;> rfl) (by omega) (by rw [size_alloc']; have := b8.size; omega) ?_; intro v9 w9 hown9 hg9 hloc; obtain ⟨g2, c2, cs2, rfl, hlo2, hB2, htk2⟩ := row_full hown9 (Nat.succ_pos _); have E9 := row_keep E8a hg9 (own_ne hane.out); have q5 := E9.cell 3; have f5 := E9.frozen 3)
      | (go_simp; go_at_call 77; refine (const4 0 _).mono ?_; rintro e w8 ⟨rfl, hb8⟩; have b8 : Below w6.heap.size w6 w8 := (Below.refl _ _).drew.trans hb8; have E8 := E6.out.below b8 E6.out.lt; have E8a := E8.alloc (.cells #[.int .i64 1, .int .i64 0, sv [], .slice none 0 0] 92); obtain ⟨p0, p1, p2, p3⟩ := four E8; have p3o := fun o => some_alloc p3 o; have hown8 := own_below hown.out b8))
    all_goals
      have bA : Below w6.heap.size w6 (w8.alloc (.cells #[.int .i64 1, .int .i64 0, sv [], .slice none 0 0] 92)) := b8.alloc b8.size (.cells #[.int .i64 1, .int .i64 0, sv [], .slice none 0 0] 92)
      have hszA := size_alloc' w8 (.cells #[.int .i64 1, .int .i64 0, sv [], .slice none 0 0] 92)
      have hszb := b8.size
      have hrow : ∀ b, (Value.slice KA ks.length kc).ownBlock = some b → w3.heap.size ≤ b := fun b e => (hown.out.lt b e).1
      have D9 := drew_row (drew_be D6.out bA) hg9 (fun b e => by have := hrow b e; omega) hgw
      have B9 := row_keep (B6.out.below bA B6.out.lt) hg9 (fun e => by have := hrow _ e; omega)
      have hgg : (∃ ad, KA = some ad ∧ ad.block = g2) ∨ w4.heap.size + 1 ≤ g2 := by
        rcases hloc with e | e
        · left
          cases KA with
          | none => cases e
          | some ad => exact ⟨ad, rfl, (by injection e with e; exact e.symm)⟩
        · right
          have e2 : g2 = (w8.alloc (.cells #[.int .i64 1, .int .i64 0, sv [], .slice none 0 0] 92)).heap.size := by injection e
          omega
      have hge : g2 ≠ w4.heap.size := by
        rcases hgg with ⟨ad, e, e2⟩ | e
        · exact fun h => hane.out ad e (e2.trans h)
        · omega
      have hcg := chg_set (w := w9) (g := w4.heap.size) (i := 3) (lo := w4.heap.size) (hi := w4.heap.size + 1) (Nat.le_refl _) (Nat.lt_succ_self _) (.slice (some ⟨g2, 0, none⟩) (ks.length + 1) c2)
      have hlt2 := hB2.lt
      have hB2' : Blk (w9.setCell ⟨w4.heap.size, 3, none⟩ (.slice (some ⟨g2, 0, none⟩) (ks.length + 1) c2)) g2 92 cs2 := (heap_setCell_other _ _ _ _ hge).trans hB2
      have ownT := hid (own_snoc (c2 := c2) O6.out hAr.out hcl (fun q hq hn => by
        have hq' : q < w4.heap.size := hq
        refine (heap_setCell_other _ _ _ _ (Nat.ne_of_lt hq')).trans ((hg9.block q (by omega) fun e => ?_).trans (bA.block q (by omega)))
        cases KA with
        | none => cases e
        | some ad => exact hn ad rfl (by injection e)) hB2' htk2 (by rcases hgg with h | h; exact Or.inl h; exact Or.inr (by omega)) hlo2 hks)
      have D10 := hid (show Drew w g A c xs (w9.setCell ⟨w4.heap.size, 3, none⟩ (.slice (some ⟨g2, 0, none⟩) (ks.length + 1) c2)) from ⟨cur_set D9.1 (by omega) 3 _, gb_new D9.2 (by omega) 3 _⟩)
      have B10 := hid (blk_chg B9 hcg (by omega))
      have E10 := hid (show Blk (w9.setCell ⟨w4.heap.size, 3, none⟩ (.slice (some ⟨g2, 0, none⟩) (ks.length + 1) c2)) w4.heap.size 92 [.int .i64 k, .int .i64 n, sv s, .slice (some ⟨g2, 0, none⟩) (ks.length + 1) c2] from E9.set_ 3 _)
      have hmx : max w4.heap.size (g2 + 1) ≤ (w9.setCell ⟨w4.heap.size, 3, none⟩ (.slice (some ⟨g2, 0, none⟩) (ks.length + 1) c2)).heap.size := by have h1 := E10.out.lt; have h2 := hB2'.lt; omega
      clear bA hrow D9 B9 hgg hge hcg hlt2 hB2' hB2 E9 q5 f5 b8 hb8 E8 E8a p0 p1 p2 p3 p3o hown8 hown9 hg9 hloc q0 q1 q2 q3
      have f := bent_fin hgw D10.out B10.out ownT.out hlo hmx
      have f1 := hid f.1
      have f2 := hid f.2.1
      have f3 := hid f.2.2
      have hcc := hid (show cntT (.mk k n s (ks ++ [.mk 1 0 [] []])) ≤ 40 from by rw [cntT_mk] at hcnt ⊢; simp [cntK, cntT_mk] at hcnt ⊢; omega)
      obtain ⟨x0, x1, x2, x3⟩ := four B10.out
      obtain ⟨y0, y1, y2, y3⟩ := four E10.out
      have r0 := B10.out.frozen 0
      have r1 := B10.out.frozen 1
      have r2 := B10.out.frozen 2
      have r3 := B10.out.frozen 3
      clear f
      go_wp2_with fail
      exact bodyPost_ret (results_cell_row Tryz.results76 _ _ w.heap.size 92 _ (0, 0) _ rfl f1.out Tryz.underlying92 rfl (by kernel_rfl)) rfl ⟨_, _, rfl, f2.out, hcc.out, f3.out⟩
  by_cases h4 : y = 4
  · subst h4
    have C6 := hid (Chain.zero (lo := w3.heap.size) O6.out)
    have hcc0 : cntT (.mk k n s ks) ≤ 15 + 2 * 0 := by omega
    go_wp2_with fail
    go_loopw [4] (fun i wr => ∃ (m hi : Nat) (k' n' : Int) (s' : List UInt8) (A' : Option Addr) (l' c' : Nat) (t' : T), m ≤ 5 ∧ i = .int .i64 (m : Nat) ∧ Drew w g A c xs wr ∧ Blk wr w.heap.size 92 [.int .i64 0, .int .i64 0, .string ⟨#[]⟩, .slice none 0 0] ∧ Blk wr w4.heap.size 92 [.int .i64 k', .int .i64 n', sv s', .slice A' l' c'] ∧ Chain wr w3.heap.size w4.heap.size m hi (nv k' n' s' A' l' c') t' ∧ hi ≤ wr.heap.size ∧ cntT t' ≤ 15 + 2 * m) (fun i _ => 5 - (Go.RowKit.intOf i).toNat)
    case atStart => exact ⟨0, w4.heap.size, k, n, s, KA, ks.length, kc, _, by omega, rfl, D6.out, B6.out, E6.out, C6.out, Nat.le_of_lt E6.out.lt, hcc0⟩
    case round =>
      obtain ⟨m, hi, k', n', s', A', l', c', t', hm5, rfl, D7, B7, E7, C7, hhi, hc7⟩ := hrel
      clear D6 B6 E6 O6 R6 C6
      have hz7 := E7.lt
      by_cases hlt : m < 5
      · have t0 : decide ((m : Int) < 5) = true := decide_eq_true (by omega)
        obtain ⟨u0, u1, u2, u3⟩ := four E7
        replace D7 := hid D7
        replace B7 := hid B7
        replace E7 := hid E7
        replace C7 := hid C7
        go_wp2_with fail
        go_region_with (first
            | (go_at_call 77; refine (const4 1 _).mono ?_; rintro e w8 ⟨rfl, hb8⟩; have b8 : Below wr.heap.size wr w8 := (Below.refl _ _).drew.trans hb8; have E8 := E7.out.below b8 E7.out.lt; obtain ⟨q0, q1, q2, q3⟩ := four E8)
            | (go_at_call 98; refine (op4 1 k' n' 1 1 s' [] A' none l' c' 0 0 w8).mono ?_; rintro e w9 ⟨rfl, hB9, hb9⟩; have E9 := E8.below hb9 E8.lt; obtain ⟨p0, p1, p2, p3⟩ := four E9; have f0 := E9.frozen 0; have f1 := E9.frozen 1; have f2 := E9.frozen 2; have f3 := E9.frozen 3))
        all_goals
          have hsz8 := b8.size
          have hsz9 := hb9.size
          have D9 := drew_be (drew_be D7.out b8) hb9
          have hcg := setR_chg w9 w4.heap.size 3 1 [] (.slice (some ⟨w8.heap.size + 1 + 1 + 1, 0, none⟩) 2 2)
          have D10 := hid (show Drew w g A c xs (setR w9 w4.heap.size 3 1 [] (.slice (some ⟨w8.heap.size + 1 + 1 + 1, 0, none⟩) 2 2)) from ⟨setR_cur D9.1 (by omega) 3 1 [] (.slice (some ⟨w8.heap.size + 1 + 1 + 1, 0, none⟩) 2 2), setR_gb D9.2 (by omega) 3 1 [] (.slice (some ⟨w8.heap.size + 1 + 1 + 1, 0, none⟩) 2 2)⟩)
          have B10 := hid (blk_chg ((B7.out.below b8 B7.out.lt).below hb9 (Nat.lt_of_lt_of_le B7.out.lt hsz8)) hcg (by omega))
          have E10 := hid (setR_blk E9 3 1 [] (.slice (some ⟨w8.heap.size + 1 + 1 + 1, 0, none⟩) 2 2))
          have C9 : Chain w9 w3.heap.size w4.heap.size m hi (nv k' n' s' A' l' c') t' := C7.out.chg hz7 (fun q hq _ => (hb9.block q (by omega)).trans (b8.block q hq))
          have C9' := C9.succ (b := w8.heap.size + 1 + 1 + 1) (by omega) (by omega) hB9
          have C10 := hid (C9'.chg (by omega) (fun q hq hne => hcg.block q hq (by omega)))
          have hsz10 := hcg.size
          have hlt9 := hB9.lt
          have hc10 : cntT (.mk 3 1 [] [t', .mk 1 1 [] []]) ≤ 15 + 2 * (m + 1) := by rw [cntT_mk]; simp [cntK, cntT_mk]; omega
          clear b8 hb8 hb9 E8 E9 hB9 D9 hcg C9 C9'
          go_wp2_with fail
          exact ⟨⟨m + 1, w8.heap.size + 1 + 1 + 1 + 1, 3, 1, [], some ⟨w8.heap.size + 1 + 1 + 1, 0, none⟩, 2, 2, _, hlt, by go_num, D10.out, B10.out, E10.out, C10.out, Nat.le_trans hlt9 hsz10, hc10⟩, by simp [Go.RowKit.intOf]; omega⟩
      · obtain rfl : m = 5 := by omega
        have t0 : decide (((5 : Nat) : Int) < 5) = false := by decide
        have O7 := hid (C7.own (by omega))
        replace D7 := hid D7
        replace B7 := hid B7
        replace E7 := hid E7
        have f := bent_fin hgw D7.out B7.out O7.out hlo hhi
        have f1 := hid f.1
        have f2 := hid f.2.1
        have f3 := hid f.2.2
        have hcc := hid (show cntT (t') ≤ 40 from by omega)
        obtain ⟨x0, x1, x2, x3⟩ := four B7.out
        obtain ⟨y0, y1, y2, y3⟩ := four E7.out
        have r0 := B7.out.frozen 0
        have r1 := B7.out.frozen 1
        have r2 := B7.out.frozen 2
        have r3 := B7.out.frozen 3
        clear f
        go_wp2_with fail
        exact bodyPost_ret (results_cell_row Tryz.results76 _ _ w.heap.size 92 _ (0, 0) _ rfl f1.out Tryz.underlying92 rfl (by kernel_rfl)) rfl ⟨_, _, rfl, f2.out, hcc.out, f3.out⟩
  have t0 : ((y : Int) == 0) = false := beq_false_of_ne (by omega)
  have t1 : ((y : Int) == 1) = false := beq_false_of_ne (by omega)
  have t2 : ((y : Int) == 2) = false := beq_false_of_ne (by omega)
  have t3 : ((y : Int) == 3) = false := beq_false_of_ne (by omega)
  have t4 : ((y : Int) == 4) = false := beq_false_of_ne (by omega)
  have f := bent_fin hgw D6.out B6.out O6.out hlo (Nat.le_of_lt E6.out.lt)
  have f1 := hid f.1
  have f2 := hid f.2.1
  have f3 := hid f.2.2
  have hcc := hid (show cntT (.mk k n s ks) ≤ 40 from by omega)
  obtain ⟨x0, x1, x2, x3⟩ := four B6.out
  obtain ⟨y0, y1, y2, y3⟩ := four E6.out
  have r0 := B6.out.frozen 0
  have r1 := B6.out.frozen 1
  have r2 := B6.out.frozen 2
  have r3 := B6.out.frozen 3
  clear f
  go_wp2_with fail
  exact bodyPost_ret (results_cell_row Tryz.results76 _ _ w.heap.size 92 _ (0, 0) _ rfl f1.out Tryz.underlying92 rfl (by kernel_rfl)) rfl ⟨_, _, rfl, f2.out, hcc.out, f3.out⟩
end Go.Proofs.YtnmomlaimffonaaGreat.Dr
