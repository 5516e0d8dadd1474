/- Chapter 8's draws: l8Bent. -/
import Derived.Test.YtnmomlaimffonaaGreatZDr13
import Derived.Test.YtnmomlaimffonaaGreatZDr4f
set_option maxHeartbeats 16000000
set_option maxRecDepth 100000
namespace Go.Proofs.YtnmomlaimffonaaGreat.Gd
open Go.RowKit Go.Lib Com Mem Cur YtnmomlaimffonaaGreat.Os Ow Tr Dr Pl
theorem cell_al {w : World} {a : Addr} {v : Value} (h : w.cell? a = some v) (o : Obj) : (w.alloc o).cell? a = some v := ((box_below w o).cell (block_lt_of_cell h)).trans h
theorem new_cells8 (W : World) (cs : List Value) (ty : TypeId) : ∀ j u, cs[j]? = some u → (W.alloc (.cells cs.toArray ty)).cell? ((⟨W.heap.size, 0, none⟩ : Addr).add j) = some u := by
  intro j u hj
  rw [add_zero, (Blk.new W ty cs).cell]; exact hj
theorem one_str (s : List UInt8) : ∀ u ∈ [sv s], u.oneCell' = true := by intro u hu; simp at hu; subst hu; rfl
theorem ownx_rd {w : World} {lo hi : Nat} {v : Value} {t : T} (h : OwnX lo hi w v t) : Ex (ezb w lo) w.heap.size v t := by
  have h1 := own_pln (OwnE.same (w' := ezb0 w lo) h fun k h1 _ => ezb0_at w h1)
  rw [ezb0_size] at h1
  exact h1
theorem GrowO.ne {w : World} {lo n pb : Nat} {v : Value} {L : List (List D)} (hG : GrowO w lo (some pb) n v L) : v.ownBlock ≠ some pb := by
  obtain ⟨⟨rfl, _⟩ | ⟨g, off, cap, cs, rows, rfl, h1, h2, h3, h4, h5, h6, h7, h8⟩⟩ := hG
  · exact fun e => by cases e
  · exact fun e => by cases e; exact h8 _ rfl rfl
theorem set_gb (w : World) (b i : Nat) (u : Value) : w.grownBy (w.setCell ⟨b, i, none⟩ u) (some b) :=
  ⟨rfl, rfl, rfl, by simp, fun k _ hne => heap_setCell_other _ _ _ _ fun e => hne (by rw [e])⟩
theorem PbD.grown {w6 w8 : World} {b hi pb : Nat} {vv v v8 : Value} {V : List (List UInt8)} {L L8 : List St} (hP : PbD w6 b hi pb vv v V L) (hlow : ∀ k, vv.ownBlock = some k → k < hi) (hpb : hi ≤ pb) (hG : GrowO w8 hi (some pb) 1 v8 (dl L8)) (hg : w6.grownBy w8 v.ownBlock) :
    Blk w8 pb PI [vv, v] ∧ PbD (w8.setCell ⟨pb, 1, none⟩ v8) b hi pb vv v8 V L8 := by
  have hown := fun k (h : v.ownBlock = some k) => (hP.body.own h).1
  have hB : Blk w8 pb PI [vv, v] := (hg.block pb hP.blk.lt fun e => hP.body.ne e.symm).trans hP.blk
  refine ⟨hB, own_keep hP.vars fun k hk => ?_, hG.turn (set_gb _ _ _ _), hP.le, hB.set_ 1 v8⟩
  have h1 := hlow k hk
  have h2 := (own_ge hP.vars hk).2
  exact (heap_setCell_other _ _ _ _ (show k ≠ pb by omega)).trans (hg.block k h2 fun e => by have := hown k e.symm; omega)
theorem PbD.wrap {w6 : World} {b hi pb : Nat} {vv v : Value} {V : List (List UInt8)} {L : List St} (hP : PbD w6 b hi pb vv v V L) (hlow : ∀ k, vv.ownBlock = some k → k < hi) (hpb : hi ≤ pb) (new : List Value) (s : St) (hn : new.length = wd 1) (hr : Rd8 (ezo (ezb w6 hi) (some pb)) w6.heap.size new s.d) :
    PbD ((w6.alloc (.cells new.toArray SI)).setCell ⟨pb, 1, none⟩ (.slice (some ⟨w6.heap.size, 0, none⟩) 1 1)) b hi pb vv (.slice (some ⟨w6.heap.size, 0, none⟩) 1 1) V [s] := by
  have hlt := hP.blk.lt
  have hb := box_below w6 (.cells new.toArray SI)
  refine ⟨own_keep (own_keep hP.vars fun k hk => hb.block k (own_ge hP.vars hk).2) fun k hk => ?_, (GrowO.one (n := 1) (by omega) (fun q e => by cases e; exact hlt) new s.d hn hr).turn (set_gb _ _ _ _), hP.le, (hP.blk.below hb hlt).set_ 1 _⟩
  have h1 := hlow k hk
  exact heap_setCell_other _ _ _ _ (show k ≠ pb by omega)
theorem PbD.vgrown {w6 w8 : World} {b hi pb : Nat} {vv v v8 : Value} {V : List (List UInt8)} {L : List St} {s : List UInt8} (hP : PbD w6 b hi pb vv v V L) (hlow : ∀ k, vv.ownBlock = some k → k < hi) (hpb : hi ≤ pb) (ho : w8.ownsRow b 9 1 v8 (V.length + 1) (V.map sv ++ [sv s])) (hg : w6.grownBy w8 vv.ownBlock) :
    Blk w8 pb PI [vv, v] ∧ PbD (w8.setCell ⟨pb, 0, none⟩ v8) b hi pb v8 v (V ++ [s]) L := by
  have hB : Blk w8 pb PI [vv, v] := (hg.block pb hP.blk.lt fun e => by have := hlow pb e.symm; omega).trans hP.blk
  have hG : GrowO w8 hi (some pb) 1 v (dl L) := by
    cases hv : vv.ownBlock with
    | none =>
      rw [hv] at hg
      exact hP.body.below ⟨hg.os, hg.tape, hg.output, hg.size, fun k hk => hg.block k hk (by simp)⟩
    | some k => rw [hv] at hg; exact hP.body.keep (hlow k hv) hg
  refine ⟨hB, ?_, hG.turn (set_gb _ _ _ _), hP.le, hB.set_ 0 v8⟩
  have h1 : w8.ownsRow b 9 1 v8 (V ++ [s]).length ((V ++ [s]).map sv) := by simpa using ho
  refine own_keep h1 fun k hk => heap_setCell_other _ _ _ _ (show k ≠ pb from fun e => ?_)
  subst e
  rcases ho.2 with ⟨rfl, hz⟩ | ⟨g, cap, cur, rfl, hg', hblk, _⟩
  · cases hk
  · cases hk
    unfold Blk at hB
    rw [hblk] at hB
    injection hB with h3; injection h3 with _ h5 _
    exact absurd h5 (by decide)
theorem bent8 (g : Nat) (A : Option Addr) (c : Nat) (xs : List UInt8) (w : World) (hc : CurAt w g A c xs) :
    Calls Tryz.prog 52 #[.pointer (some ⟨g, 0, none⟩)] w fun e w' => ∃ v V L, e = .returned v ∧ PgOut w' w.heap.size v V L ∧ V.length ≤ 3 ∧ (∀ s ∈ V, s.length ≤ 9) ∧ cntL L ≤ 200 ∧ nxL L ≤ 5000 ∧ Drew w g A c xs w' := by
  have hgw := cur_lt hc
  have s0 := size_alloc' w (.cells #[.slice none 0 0, .slice none 0 0] PI)
  have R0 := hid (Blk.new w PI [.slice none 0 0, .slice none 0 0])
  have D0 := hid (show Drew w g A c xs (w.alloc (.cells #[.slice none 0 0, .slice none 0 0] PI)) from ⟨cur_alloc hc _, World.grownBy_alloc w _ _⟩)
  clear hc
  go_enter Tryz.func52, Tryz.ntmps52
  go_wp2_with fail
  generalize (w.alloc (.cells #[.slice none 0 0, .slice none 0 0] PI)) = w1 at *
  refine (names8 g A c xs w1 D0.out.1).mono ?_
  rintro e w2 ⟨vb, vc, V, cs, rfl, hVl, hVc, hVs, hvb, hVB, hVt, hd⟩
  have D2 := hid (drew_tr D0.out hd)
  have R2 := hid (R0.out.gb hd.2 (by omega))
  have z2 := hd.2.size
  clear hd D0 R0
  go_wp2_with fail
  refine (draw8 g A c xs vb vc V cs w2 D2.out.1 hVl hVs (by omega) hVB hVt).mono ?_
  rintro e w3 ⟨vv, v, hi, L, rfl, hP, hLl, hLc, hLx, hd⟩
  have D3 := hid (drew_tr D2.out hd)
  have R3 := hid (R2.out.gb hd.2 (by omega))
  have z3 := hd.2.size
  obtain ⟨VA, vc3, rfl, hvc3, _, _⟩ := own_rdb hP.vars
  obtain ⟨B, bc, rows, rfl, hbc, _, _⟩ := hP.body.rd
  rw [dl_len] at hbc
  have hlow := hP.low
  have hle := hP.le
  have htop := hP.top
  have P3 := hid (show PgD w3 (w.heap.size + 1) hi (.slice VA V.length vc3) (.slice B L.length bc) V L from by
    have := hP.mono (lo' := w.heap.size + 1) (by omega)
    rw [dl_len] at this; exact this)
  rw [dl_len]
  have hb4 := box_below w3 (.cells #[.slice VA V.length vc3, .slice B L.length bc] PI)
  have s4 := size_alloc' w3 (.cells #[.slice VA V.length vc3, .slice B L.length bc] PI)
  have P4 := hid (show PbD (w3.alloc (.cells #[.slice VA V.length vc3, .slice B L.length bc] PI)) (w.heap.size + 1) hi w3.heap.size (.slice VA V.length vc3) (.slice B L.length bc) V L from
    ⟨own_keep P3.out.vars fun b h => hb4.block b (own_ge P3.out.vars h).2, (P3.out.body.seal (Nat.le_refl _)).below hb4, by have := P3.out.le; omega, Blk.new w3 PI _⟩)
  have D4 := hid (drew_be D3.out hb4)
  have R4 := hid (R3.out.below hb4 R3.out.lt)
  clear hP hd D2 D3 R2 R3 P3 hb4 hVB hVt
  go_wp2_with fail
  generalize (w3.alloc (.cells #[.slice VA V.length vc3, .slice B L.length bc] PI)) = w4 at *
  refine (below_any g A c xs 12 w4 D4.out.1 (by omega) (by omega)).mono ?_
  rintro e w5 ⟨⟨y, rfl, hy, -⟩, hd⟩
  have hy : y < 12 := by omega
  have D5 := hid (drew_tr D4.out hd)
  have R5 := hid (R4.out.gb hd.2 (by omega))
  have P5 := hid (P4.out.keep (by omega) (by omega) hd.2)
  have z5 := hd.2.size
  clear hd D4 R4 P4
  have hpb : w3.heap.size ≠ w.heap.size := by omega
  by_cases h0 : y = 0
  · subst h0
    have hb5 : Below w5.heap.size w5 w5.drew := (Below.refl _ _).drew
    have PD := hid (P5.out.below hb5)
    have RD := hid (R5.out.below hb5 R5.out.lt)
    have DD := hid (drew_be D5.out hb5)
    have hp := hid (pick_lit g A c xs [[120], [122], [105, 102]] w5.drew DD.out.1 (by simp) (by simp))
    have step : ∀ w6, Drew w5.drew g A c xs w6 → Hid (PbD w6 (w.heap.size + 1) hi w3.heap.size (.slice VA V.length vc3) (.slice B L.length bc) V L) ∧ Hid (Blk w6 w.heap.size PI [.slice none 0 0, .slice none 0 0]) ∧ Hid (Drew w g A c xs w6) ∧
        Hid (∀ o, (w6.alloc o).ownsRow (w.heap.size + 1) 9 1 (.slice VA V.length vc3) (V.map sv).length (V.map sv)) ∧ Hid (w.heap.size + 1 ≤ w6.heap.size) := fun w6 hd => by
      have hP6 := PD.out.keep (h := g) (by omega) (by omega) hd.2
      exact ⟨hid hP6, hid (RD.out.gb hd.2 (by omega)), hid (drew_tr DD.out hd), hid (fun o => by rw [List.length_map]; exact own_keep hP6.vars fun b h => (box_below w6 o).block b (own_ge hP6.vars h).2), hid (by have := hP6.blk.lt; omega)⟩
    obtain ⟨k0, k1⟩ := two P5.out.blk
    have k0o := fun o => cell_al k0 o
    have hml : (V.map sv).length = V.length := List.length_map _
    clear hb5 P5 R5 D5
    go_wp2_with fail
    go_region_law (first
      | (refine step_own strT rfl (.tmp 15) (.tmp 19) rfl (w.heap.size + 1) (.slice VA V.length vc3) (V.map sv) rfl (o6.out _) ⟨w6.heap.size, 0, none⟩ 1 1 [sv s] rfl rfl (new_cells8 w6 [sv s] _) (one_str s) ?_ ?_ ?_; (simp; omega); (rw [size_alloc']; have := hw6.out; omega); intro v8 w8 ho8 hg8 _; obtain ⟨A8, c8, rfl, _, _, _⟩ := own_rdb ho8; rw [hml] at ho8; rw [hml]; obtain ⟨Q8, P9⟩ := P6.out.vgrown hlow htop ho8 (gb_trans (World.grownBy_alloc w6 _ _) hg8); obtain ⟨j0, j1⟩ := two Q8; have f0 := Q8.frozen 0)
      | (go_simp; go_at_call 75; refine hp.out.mono ?_; rintro e w6 ⟨⟨s, hs, rfl⟩, hd⟩; obtain ⟨P6, R6, D6, o6, hw6⟩ := step w6 hd; obtain ⟨i0, i1⟩ := two P6.out.blk; have i0o := fun o => cell_al i0 o))
    all_goals
      have own6 := fun b (h : (Value.slice VA V.length vc3).ownBlock = some b) => (own_ge P6.out.vars h).1
      have hg9 := gb_trans (World.grownBy_alloc w6 _ _) hg8
      have R9 := (blk_row R6.out own6 (by omega) hg9).gb (set_gb w8 w3.heap.size 0 (.slice A8 (V.length + 1) c8)) (by omega)
      have D9 := drew_row (lo := w.heap.size) (drew_row D6.out own6 (by omega) hgw hg9) (fun b e => by cases e; omega) (Nat.le_refl _) hgw (set_gb w8 w3.heap.size 0 (.slice A8 (V.length + 1) c8))
      obtain ⟨F1, F2, F3⟩ := pb_fin P9 R9 D9 (Nat.le_refl _) hgw hpb
      obtain ⟨k0, k1⟩ := two P9.blk
      obtain ⟨x0, x1⟩ := two R9
      have r0 := R9.frozen 0
      have r1 := R9.frozen 1
      have hs9 : ∀ x ∈ V ++ [s], x.length ≤ 9 := fun x hx => by
        rcases List.mem_append.1 hx with h | h
        · exact hVs x h
        · simp at h hs
          subst h
          rcases hs with rfl | rfl | rfl <;> decide
      have hl9 : (V ++ [s]).length ≤ 3 := by simp; omega
      replace hs9 := hid hs9
      replace hl9 := hid hl9
      clear hp step hd P6 R6 D6 o6 hw6 i0 i1 i0o ho8 hg8 Q8 P9 j0 j1 own6 hg9 R9 D9 hs
      go_wp2_with fail
      exact bodyPost_ret (results_cell_row Tryz.results52 _ _ w.heap.size PI _ (0, 0) _ rfl F1.out Tryz.underlying27 rfl (by kernel_rfl)) rfl ⟨_, _, _, rfl, F2.out, hl9.out, hs9.out, by omega, by omega, F3.out⟩
  by_cases h1 : y = 1
  · subst h1
    have hb5 : Below w5.heap.size w5 w5.drew := (Below.refl _ _).drew
    have PD := hid (P5.out.below hb5)
    have RD := hid (R5.out.below hb5 R5.out.lt)
    have DD := hid (drew_be D5.out hb5)
    have hgd : g < w5.drew.heap.size := cur_lt DD.out.1
    have NA := hid (Blk.new w5.drew 9 [sv [120], sv [113], sv []])
    have stepA : ∀ w6, Drew w5.drew g A c xs w6 → Hid (PbD w6 (w.heap.size + 1) hi w3.heap.size (.slice VA V.length vc3) (.slice B L.length bc) V L) := fun w6 hd => hid (PD.out.keep (h := g) (by omega) (by omega) hd.2)
    have step : ∀ (w7 w8 : World) (q : Int) (s : List UInt8) tk tn ts KA tl tc t, Drew w5.drew g A c xs w7 → Drew w7 g A c xs w8 → OwnX w7.heap.size w8.heap.size w8 (nv tk tn ts KA tl tc) t → cntT t ≤ 40 → s.length ≤ 9 →
        (Hid (PbD w8 (w.heap.size + 1) hi w3.heap.size (.slice VA V.length vc3) (.slice B L.length bc) V L) ∧ Hid (Blk w8 w.heap.size PI [.slice none 0 0, .slice none 0 0]) ∧ Hid (Drew w g A c xs w8) ∧ Hid (hi ≤ w8.heap.size) ∧ Hid (∀ b, some w3.heap.size = some b → b < w8.heap.size)) ∧
        Hid (Rd8 (ezo (ezo (ezb w8 hi) (Value.slice B L.length bc).ownBlock) (some w3.heap.size)) w8.heap.size (sc q s tk tn ts KA tl tc none 0 0 none 0 0) (St.mk q s t [] []).d) ∧
        Hid (cntL (L ++ [St.mk q s t [] []]) ≤ 200 ∧ nxL (L ++ [St.mk q s t [] []]) ≤ 5000) := fun w7 w8 q s tk tn ts KA tl tc t hd7 hd8 hO hcn hs => by
      have P7 := (stepA w7 hd7).out
      have P8 := P7.keep (h := g) (by omega) (by omega) hd8.2
      have z8 := hd8.2.size
      have hl7 := P7.blk.lt
      have own7 := fun b (h : (Value.slice B L.length bc).ownBlock = some b) => (P7.body.own h).2
      have hE := Ex.cry (ownx_rd hO) (Cry.later2 (lo := hi) (o := (Value.slice B L.length bc).ownBlock) (P := some w3.heap.size) (by omega) own7 (fun b e => by cases e; exact hl7) _) (Nat.le_refl _)
      refine ⟨⟨hid P8, hid ((RD.out.gb hd7.2 (by omega)).gb hd8.2 (by omega)), hid (drew_tr (drew_tr DD.out hd7) hd8), hid (by omega), hid (fun b e => by cases e; omega)⟩, hid (rd_st (bs := []) (es := []) (Nat.le_trans hs (by decide)) hE (row_none _ _) (by simp) (by simp) (row_none _ _) (by simp) (by simp)), hid ⟨?_, ?_⟩⟩
      · rw [cntL_snoc]; simp [cntSt, cntL]; omega
      · rw [nxL_snoc]; simp [nxSt, nxL]; omega
    obtain ⟨k0, k1⟩ := two P5.out.blk
    have k1o := fun o => cell_al k1 o
    have hq6 : (dl L).length < 1000000 := by rw [dl_len]; omega
    have hnm : ∀ s ∈ ([[120], [113], []] : List (List UInt8)), s.length ≤ 9 := by decide
    clear hb5 P5 R5 D5
    go_wp2_with fail
    go_region_law (first
      | (refine GrowO.step P8.out.body hw8.out hpw.out (sc (q : Int) s tk tn ts KA tl tc none 0 0 none 0 0) _ rfl r8.out hq6 stT zeroSt rfl (by omega) rfl (.tmp 25) (.tmp 34) rfl rfl _ rfl rfl ?_; intro v9 w9 hG9 hg9; rw [← dl_snoc] at hG9; generalize L ++ [St.mk (q : Int) s t [] []] = L9 at hG9 hcx ⊢; obtain ⟨B9, c9, rows9, rfl, _⟩ := hG9.rd; rw [dl_len] at hG9; rw [dl_len]; obtain ⟨Q9, P10⟩ := P8.out.grown hlow htop hG9 hg9; obtain ⟨j0, j1⟩ := two Q9; have f1 := Q9.frozen 1)
      | (go_simp; first
        | (go_at_call 55; refine (below_any g A c xs 6 w5.drew DD.out.1 (by omega) (by omega)).mono ?_; rintro e w6 ⟨⟨q, rfl, -, -⟩, hd6⟩; obtain ⟨i0, i1⟩ := two (stepA w6 hd6).out.blk; have i1o := fun o => cell_al i1 o)
        | (go_at_call 55; refine (below_any g A c xs 6 (w5.drew.alloc (.cells #[sv [120], sv [113], sv []] 9)) (cur_alloc DD.out.1 _) (by omega) (by omega)).mono ?_; rintro e w6 ⟨⟨q, rfl, -, -⟩, hd6'⟩; have hd6 := drew_alloc hd6'; obtain ⟨i0, i1⟩ := two (stepA w6 hd6).out.blk; have i1o := fun o => cell_al i1 o; have NB := hid (NA.out.gb hd6'.2 (Nat.ne_of_gt hgd)))
        | (go_at_call 75; refine (pick_any g A c xs (some ⟨w5.drew.heap.size, 0, none⟩) 3 [[120], [113], []] w6 hd6.1 (NB.out.rd.more NB.out.lt) (fun ad e => by cases e; exact Nat.ne_of_gt hgd) (by simp) (by simp)).mono ?_; rintro e w7 ⟨⟨s, hsm, rfl⟩, hd7⟩; have hs9 := hnm s hsm; have hd57 := drew_tr hd6 hd7; obtain ⟨m0, m1⟩ := two (stepA w7 hd57).out.blk)
        | (go_at_call 75; refine (pick_lit g A c xs [[120], [113], []] w6 hd6.1 (by simp) (by simp)).mono ?_; rintro e w7 ⟨⟨s, hsm, rfl⟩, hd7⟩; have hs9 := hnm s hsm; have hd57 := drew_tr hd6 hd7; obtain ⟨m0, m1⟩ := two (stepA w7 hd57).out.blk)
        | (go_at_call 76; refine (bent_any g A c xs w7 hd7.1).mono ?_; rintro e w8 ⟨v0, t, rfl, hO, hcn, hd8⟩; obtain ⟨tk, tn, ts, KA, tl, tc, rfl⟩ := OwnE.form hO; obtain ⟨⟨P8, R8, D8, hw8, hpw⟩, r8, hcx⟩ := step w7 w8 q s tk tn ts KA tl tc t hd57 hd8 hO hcn hs9; obtain ⟨n0, n1⟩ := two P8.out.blk; have n1o := fun o => cell_al n1 o)))
    all_goals
      have own8 := fun b (h : (Value.slice B L.length bc).ownBlock = some b) => (show hi ≤ b from (by have := P8.out.body.own h; omega))
      have R10 := (blk_row R8.out own8 (by omega) hg9).gb (set_gb w9 w3.heap.size 1 (.slice B9 L9.length c9)) (by omega)
      have D10 := drew_row (lo := w.heap.size) (drew_row D8.out own8 (by omega) hgw hg9) (fun b e => by cases e; omega) (Nat.le_refl _) hgw (set_gb w9 w3.heap.size 1 (.slice B9 L9.length c9))
      obtain ⟨F1, F2, F3⟩ := pb_fin P10 R10 D10 (Nat.le_refl _) hgw hpb
      obtain ⟨k0, k1⟩ := two P10.blk
      obtain ⟨x0, x1⟩ := two R10
      have r0 := R10.frozen 0
      have r1 := R10.frozen 1
      clear step stepA hd6 hd7 hd57 hd8 hO P8 R8 D8 hw8 hpw r8 i0 i1 i1o m0 m1 n0 n1 n1o hG9 hg9 Q9 P10 j0 j1 own8 R10 D10
      go_wp2_with fail
      exact bodyPost_ret (results_cell_row Tryz.results52 _ _ w.heap.size PI _ (0, 0) _ rfl F1.out Tryz.underlying27 rfl (by kernel_rfl)) rfl ⟨_, _, _, rfl, F2.out, by omega, hVs, hcx.out.1, hcx.out.2, F3.out⟩
  by_cases h2 : y = 2
  · subst h2
    have atS := hid (show PbD w5 (w.heap.size + 1) hi w3.heap.size (.slice VA V.length vc3) (.slice B L.length bc) V L ∧ Blk w5 w.heap.size PI [.slice none 0 0, .slice none 0 0] ∧ Drew w g A c xs w5 from ⟨P5.out, R5.out, D5.out⟩)
    clear P5 R5 D5
    go_wp2_with fail
    go_loopw [4] (fun i wr => ∃ (k : Nat) (B' : Option Addr) (L' : List St) (bc' : Nat), k ≤ 3 ∧ i = .int .i64 k ∧ PbD wr (w.heap.size + 1) hi w3.heap.size (.slice VA V.length vc3) (.slice B' L'.length bc') V L' ∧ Blk wr w.heap.size PI [.slice none 0 0, .slice none 0 0] ∧ cntL L' ≤ 192 + k ∧ nxL L' ≤ 4608 + k ∧ Drew w g A c xs wr) (fun i _ => 3 - (Go.RowKit.intOf i).toNat)
    case atStart => exact ⟨0, B, L, bc, Nat.zero_le _, rfl, atS.out.1, atS.out.2.1, by omega, by omega, atS.out.2.2⟩
    case round =>
      obtain ⟨k, B', L', bc', hk, rfl, hP, hR, n2, n3, hD⟩ := hrel
      clear atS
      by_cases hlt : k < 3
      · have step : ∀ w6, Below wr.drew.heap.size wr.drew w6 → Hid (PbD w6 (w.heap.size + 1) hi w3.heap.size (.slice VA V.length vc3) (.slice B' L'.length bc') V L') ∧ Hid (Blk w6 w.heap.size PI [.slice none 0 0, .slice none 0 0]) ∧ Hid (Drew w g A c xs w6) ∧
            Hid (Rd8 (ezo (ezb w6 hi) (some w3.heap.size)) w6.heap.size (sc 2 [] 1 1 [] none 0 0 B' L'.length bc' none 0 0) (St.mk 2 [] (.mk 1 1 [] []) L' []).d) := fun w6 hb => by
          have hb6 : Below wr.heap.size wr w6 := (Below.refl _ wr).drew.trans hb
          have hP6 := hP.below hb6
          obtain ⟨B0, c0, rows0, e0, q1, q2, q3⟩ := hP6.body.rdP
          rw [dl_len] at e0 q1 q3
          cases e0
          exact ⟨hid hP6, hid (hR.below hb6 hR.lt), hid (drew_be hD hb6), hid (rd_st (es := []) (by simp) (ex_leaf _ _ 1 1 [] (by simp)) q2 q3 q1 (row_none _ _) (by simp) (by simp))⟩
        obtain ⟨k0, k1⟩ := two hP.blk
        have hcs := hid (show cntL [St.mk 2 [] (.mk 1 1 [] []) L' []] ≤ 192 + (k + 1) by simp [cntL, cntSt]; omega)
        have hxs := hid (show nxL [St.mk 2 [] (.mk 1 1 [] []) L' []] ≤ 4608 + (k + 1) by simp [nxSt, nxL, cntT_mk, cntK]; omega)
        clear hP hR hD n2 n3
        go_wp2_with fail
        go_region_law (first
          | (go_simp; go_at_call 77; refine (const4 1 _).mono ?_; rintro e w6 ⟨rfl, hb6⟩; obtain ⟨P6, R6, D6, r6⟩ := step w6 hb6; obtain ⟨i0, i1⟩ := two P6.out.blk; have f1 := P6.out.blk.frozen 1; have i1o := fun o => cell_al i1 o; have f1o := fun o => (P6.out.blk.alloc o).frozen 1))
        all_goals
          have hz6 := P6.out.blk.lt
          have P9 := hid (P6.out.wrap hlow htop _ _ rfl r6.out)
          have bA := box_below w6 (.cells (sc 2 [] 1 1 [] none 0 0 B' L'.length bc' none 0 0).toArray SI)
          have R9 := hid ((R6.out.below bA R6.out.lt).gb (set_gb (w6.alloc (.cells (sc 2 [] 1 1 [] none 0 0 B' L'.length bc' none 0 0).toArray SI)) w3.heap.size 1 (.slice (some ⟨w6.heap.size, 0, none⟩) 1 1)) (by omega))
          have D9 := hid (drew_row (lo := w.heap.size) (drew_be D6.out bA) (fun b e => by cases e; omega) (Nat.le_refl _) hgw (set_gb (w6.alloc (.cells (sc 2 [] 1 1 [] none 0 0 B' L'.length bc' none 0 0).toArray SI)) w3.heap.size 1 (.slice (some ⟨w6.heap.size, 0, none⟩) 1 1)))
          rw [World.setCell_alloc_past _ _ _ _ hz6] at P9 R9 D9
          clear step r6 P6 R6 D6 bA i0 i1 f1 i1o f1o
          go_wp2_with fail
          exact ⟨⟨k + 1, _, [St.mk 2 [] (.mk 1 1 [] []) L' []], 1, hlt, by go_num, P9.out, R9.out, hcs.out, hxs.out, D9.out⟩, by simp [Go.RowKit.intOf]; omega⟩
      · obtain rfl : k = 3 := by omega
        obtain ⟨F1, F2, F3⟩ := pb_fin hP hR hD (Nat.le_refl _) hgw hpb
        obtain ⟨k0, k1⟩ := two hP.blk
        obtain ⟨x0, x1⟩ := two hR
        have f0 := hR.frozen 0
        have f1 := hR.frozen 1
        clear hP hR hD
        go_wp2_with fail
        exact bodyPost_ret (results_cell_row Tryz.results52 _ _ w.heap.size PI _ (0, 0) _ rfl F1.out Tryz.underlying27 rfl (by kernel_rfl)) rfl ⟨_, _, _, rfl, F2.out, by omega, hVs, by omega, by omega, F3.out⟩
  by_cases h3 : y = 3
  · subst h3
    have atS := hid (show PbD w5 (w.heap.size + 1) hi w3.heap.size (.slice VA V.length vc3) (.slice B L.length bc) V L ∧ Blk w5 w.heap.size PI [.slice none 0 0, .slice none 0 0] ∧ Drew w g A c xs w5 from ⟨P5.out, R5.out, D5.out⟩)
    clear P5 R5 D5
    go_wp2_with fail
    go_loopw [5] (fun i wr => ∃ (k : Nat) (B' : Option Addr) (L' : List St) (bc' : Nat), k ≤ 5 ∧ i = .int .i64 k ∧ PbD wr (w.heap.size + 1) hi w3.heap.size (.slice VA V.length vc3) (.slice B' L'.length bc') V L' ∧ Blk wr w.heap.size PI [.slice none 0 0, .slice none 0 0] ∧ L'.length ≤ 3 + k ∧ cntL L' ≤ 192 + k ∧ nxL L' ≤ 4608 + k ∧ Drew w g A c xs wr) (fun i _ => 5 - (Go.RowKit.intOf i).toNat)
    case atStart => exact ⟨0, B, L, bc, Nat.zero_le _, rfl, atS.out.1, atS.out.2.1, by omega, by omega, by omega, atS.out.2.2⟩
    case round =>
      obtain ⟨k, B', L', bc', hk, rfl, hP, hR, n1, n2, n3, hD⟩ := hrel
      clear atS
      by_cases hlt : k < 5
      · have hwr : hi ≤ wr.heap.size := by have := hP.blk.lt; omega
        have step : ∀ w6, Below wr.drew.heap.size wr.drew w6 → Hid (PbD w6 (w.heap.size + 1) hi w3.heap.size (.slice VA V.length vc3) (.slice B' L'.length bc') V L') ∧ Hid (Blk w6 w.heap.size PI [.slice none 0 0, .slice none 0 0]) ∧ Hid (Drew w g A c xs w6) ∧ Hid (hi ≤ w6.heap.size) ∧ Hid (∀ b, some w3.heap.size = some b → b < w6.heap.size) ∧
            Hid (Rd8 (ezo (ezo (ezb w6 hi) (Value.slice B' L'.length bc').ownBlock) (some w3.heap.size)) w6.heap.size (sc 4 [] 1 1 [] none 0 0 none 0 0 none 0 0) (St.mk 4 [] (.mk 1 1 [] []) [] []).d) := fun w6 hb => by
          have hb6 : Below wr.heap.size wr w6 := (Below.refl _ wr).drew.trans hb
          have hP6 := hP.below hb6
          exact ⟨hid hP6, hid (hR.below hb6 hR.lt), hid (drew_be hD hb6), hid (Nat.le_trans hwr hb6.size), hid (fun b e => by cases e; exact hP6.blk.lt), hid (rd_st (bs := []) (es := []) (by simp) (ex_leaf _ _ 1 1 [] (by simp)) (row_none _ _) (by simp) (by simp) (row_none _ _) (by simp) (by simp))⟩
        have hq6 : (dl L').length < 1000000 := by rw [dl_len]; omega
        obtain ⟨k0, k1⟩ := two hP.blk
        have hcs : cntL (L' ++ [.mk 4 [] (.mk 1 1 [] []) [] []]) = cntL L' + 1 := by rw [cntL_snoc]; simp [cntSt, cntL]
        have hxs : nxL (L' ++ [.mk 4 [] (.mk 1 1 [] []) [] []]) = nxL L' + 1 := by rw [nxL_snoc]; simp [nxSt, nxL, cntT_mk, cntK]
        have hls : (L' ++ [St.mk 4 [] (.mk 1 1 [] []) [] []]).length = L'.length + 1 := by simp
        replace hls := hid hls
        replace hcs := hid hcs
        replace hxs := hid hxs
        clear hP hR hD
        go_wp2_with fail
        go_region_law (first
          | (refine GrowO.step P6.out.body hw6.out hpw.out (sc 4 [] 1 1 [] none 0 0 none 0 0 none 0 0) _ rfl r6.out hq6 stT zeroSt rfl (by omega) rfl (.tmp 56) (.tmp 59) rfl rfl _ rfl rfl ?_; intro v8 w8 hG8 hg8; rw [← dl_snoc] at hG8; generalize L' ++ [St.mk 4 [] (.mk 1 1 [] []) [] []] = L8 at hG8 hcs hxs hls ⊢; obtain ⟨B8, c8, rows8, rfl, _⟩ := hG8.rd; rw [dl_len] at hG8; rw [dl_len]; obtain ⟨Q8, P9⟩ := P6.out.grown hlow htop hG8 hg8; obtain ⟨j0, j1⟩ := two Q8; have f1 := Q8.frozen 1)
          | (go_simp; go_at_call 77; refine (const4 1 _).mono ?_; rintro e w6 ⟨rfl, hb6⟩; obtain ⟨P6, R6, D6, hw6, hpw, r6⟩ := step w6 hb6; obtain ⟨i0, i1⟩ := two P6.out.blk; have i1o := fun o => cell_al i1 o))
        all_goals
          have own6 := fun b (h : (Value.slice B' L'.length bc').ownBlock = some b) => (show hi ≤ b from (by have := P6.out.body.own h; omega))
          have R9 := hid ((blk_row R6.out own6 (by omega) hg8).gb (set_gb w8 w3.heap.size 1 (.slice B8 L8.length c8)) (by omega))
          have D8 := hid (drew_row (lo := w.heap.size) (drew_row D6.out own6 (by omega) hgw hg8) (fun b e => by cases e; omega) (Nat.le_refl _) hgw (set_gb w8 w3.heap.size 1 (.slice B8 L8.length c8)))
          have P9 := hid P9
          clear hG8 hg8 step Q8 j0 j1 f1 r6 P6 R6 D6 own6
          go_wp2_with fail
          have hls := hls.out
          have hcs := hcs.out
          have hxs := hxs.out
          exact ⟨⟨k + 1, B8, L8, c8, hlt, by go_num, P9.out, R9.out, by omega, by omega, by omega, D8.out⟩, by simp [Go.RowKit.intOf]; omega⟩
      · obtain rfl : k = 5 := by omega
        obtain ⟨F1, F2, F3⟩ := pb_fin hP hR hD (Nat.le_refl _) hgw hpb
        obtain ⟨k0, k1⟩ := two hP.blk
        obtain ⟨x0, x1⟩ := two hR
        have f0 := hR.frozen 0
        have f1 := hR.frozen 1
        clear hP hR hD
        go_wp2_with fail
        exact bodyPost_ret (results_cell_row Tryz.results52 _ _ w.heap.size PI _ (0, 0) _ rfl F1.out Tryz.underlying27 rfl (by kernel_rfl)) rfl ⟨_, _, _, rfl, F2.out, by omega, hVs, by omega, by omega, F3.out⟩
  have t0 : ((y : Int) == 0) = false := beq_false_of_ne (by omega)
  have t1 : ((y : Int) == 1) = false := beq_false_of_ne (by omega)
  have t2 : ((y : Int) == 2) = false := beq_false_of_ne (by omega)
  have t3 : ((y : Int) == 3) = false := beq_false_of_ne (by omega)
  obtain ⟨F1, F2, F3⟩ := pb_fin P5.out R5.out D5.out (Nat.le_refl _) hgw hpb
  obtain ⟨k0, k1⟩ := two P5.out.blk
  obtain ⟨x0, x1⟩ := two R5.out
  have f0 := R5.out.frozen 0
  have f1 := R5.out.frozen 1
  clear P5 R5 D5
  go_wp2_with fail
  exact bodyPost_ret (results_cell_row Tryz.results52 _ _ w.heap.size PI _ (0, 0) _ rfl F1.out Tryz.underlying27 rfl (by kernel_rfl)) rfl ⟨_, _, _, rfl, F2.out, by omega, hVs, by omega, by omega, F3.out⟩
end Go.Proofs.YtnmomlaimffonaaGreat.Gd
