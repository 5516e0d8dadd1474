/- The program's measure of a tree. -/
import Derived.Test.YtnmomlaimffonaaGreatZEv
set_option maxHeartbeats 16000000
set_option maxRecDepth 100000
namespace Go.Proofs.YtnmomlaimffonaaGreat.Gs
open Go.RowKit Go.Lib Go.Sort Com Mem Tr Im Ag Pl Kd
abbrev XT : TypeId := 114
structure MSt (w wr : World) (rb wb sb nodes depth : Nat) (S : List (LN Gd.St)) : Prop where
  old : Below w.heap.size w wr
  whole : Blk wr wb XT [.int .i64 nodes, .int .i64 depth]
  seen : EMap encP wr sb (kvS S)
  wbge : w.heap.size ≤ wb
  sbge : w.heap.size ≤ sb
  res : Blk wr rb XT [.int .i64 0, .int .i64 0]
  rne : rb ≠ wb
theorem blk_obj {wr w' : World} {b g : Nat} {o : Obj} {ty : TypeId} {cs : List Value} (hk : wr.heap[b]? = some o) (ho : ∀ c t f, o ≠ .cells c t f) (hg : wr.grownBy w' (some b)) (hB : Blk wr g ty cs) : Blk w' g ty cs :=
  hB.gb hg (fun e => by subst e; unfold Blk at hB; rw [hk] at hB; cases hB; exact ho _ _ _ rfl)
section
variable {w wr w' : World} {rb wb sb nodes depth : Nat} {S : List (LN Gd.St)}
theorem MSt.below_ (h : MSt w wr rb wb sb nodes depth S) (hb : Below wr.heap.size wr w') : MSt w w' rb wb sb nodes depth S :=
  ⟨h.old.trans (hb.mono h.old.size), h.whole.below hb h.whole.lt, h.seen.below hb h.seen.lt, h.wbge, h.sbge, h.res.below hb h.res.lt, h.rne⟩
theorem gb_old {a wr w' : World} {n g : Nat} (h : Below n a wr) (hg : wr.grownBy w' (some g)) (hn : n ≤ wr.heap.size) (hng : n ≤ g) : Below n a w' := h.grown hg hn (fun k hk => by cases hk; exact hng)
theorem MSt.obj_ {b : Nat} {o : Obj} (h : MSt w wr rb wb sb nodes depth S) (hk : wr.heap[b]? = some o) (ho : ∀ c t f, o ≠ .cells c t f) (hg : wr.grownBy w' (some b)) (hne : sb ≠ b) (hge : w.heap.size ≤ b) : MSt w w' rb wb sb nodes depth S :=
  ⟨gb_old h.old hg h.old.size hge, blk_obj hk ho hg h.whole, h.seen.gb hg (fun e => hne (by cases e; rfl)), h.wbge, h.sbge, blk_obj hk ho hg h.res, h.rne⟩
theorem MSt.seen_ {S' : List (LN Gd.St)} (h : MSt w wr rb wb sb nodes depth S) (hm : EMap encP w' sb (kvS S')) (hg : wr.grownBy w' (some sb)) : MSt w w' rb wb sb nodes depth S' := by
  have hs := h.seen
  exact ⟨gb_old h.old hg h.old.size h.sbge, blk_obj hs (fun _ _ _ e => by cases e) hg h.whole, hm, h.wbge, h.sbge, blk_obj hs (fun _ _ _ e => by cases e) hg h.res, h.rne⟩
theorem blk_far {wr : World} {g g' i ty : Nat} {cs : List Value} (hB : Blk wr g ty cs) (hne : g ≠ g') (u : Value) : Blk (wr.setCell ⟨g', i, none⟩ u) g ty cs := (heap_setCell_other _ _ _ _ hne).trans hB
theorem emap_set {wr : World} {g i b ty : Nat} {cs : List Value} {u : Value} {l : List (Pk × Value)} (hB : Blk wr g ty cs) (hm : EMap encP wr b l) : EMap encP (wr.setCell ⟨g, i, none⟩ u) b l :=
  IMap.same hm (heap_setCell_other _ _ _ _ (by rintro rfl; unfold Blk at hB; unfold EMap IMap at hm; rw [hB] at hm; cases hm))
theorem iter_set {wr : World} {g i b r ty : Nat} {cs : List Value} {u : Value} {kvs left : List (Value × Value)} (hB : Blk wr g ty cs) (hi : Iter wr r b kvs left) : Iter (wr.setCell ⟨g, i, none⟩ u) r b kvs left :=
  hi.same (heap_setCell_other _ _ _ _ (by rintro rfl; obtain ⟨s, h, _⟩ := hi; unfold Blk at hB; rw [hB] at h; cases h))
theorem MSt.nodes_ {nodes' : Nat} (h : MSt w wr rb wb sb nodes depth S) : MSt w (wr.setCell ⟨wb, 0, none⟩ (.int .i64 (nodes' : Nat))) rb wb sb nodes' depth S :=
  ⟨h.old.setCell (p := ⟨wb, 0, none⟩) h.wbge _, h.whole.set_ 0 _, emap_set h.whole h.seen, h.wbge, h.sbge, blk_far h.res h.rne _, h.rne⟩
theorem MSt.nodesP (m : Nat) (h : MSt w wr rb wb sb nodes depth S) : MSt w (wr.setCell ⟨wb, 0, none⟩ (.int .i64 ((nodes : Int) + (m : Int)))) rb wb sb (nodes + m) depth S := h.nodes_ (nodes' := nodes + m)
theorem MSt.depth_ {depth' : Nat} (h : MSt w wr rb wb sb nodes depth S) : MSt w (wr.setCell ⟨wb, 1, none⟩ (.int .i64 (depth' : Nat))) rb wb sb nodes depth' S :=
  ⟨h.old.setCell (p := ⟨wb, 1, none⟩) h.wbge _, h.whole.set_ 1 _, emap_set h.whole h.seen, h.wbge, h.sbge, blk_far h.res h.rne _, h.rne⟩
theorem MSt.depth1 (h : MSt w wr rb wb sb nodes depth S) : MSt w (wr.setCell ⟨wb, 1, none⟩ (.int .i64 ((depth : Int) + 1))) rb wb sb nodes (depth + 1) S := h.depth_ (depth' := depth + 1)
end
def nodesAt (wr : World) (wb : Nat) : Nat := match wr.cell? ⟨wb, 0, none⟩ with
  | some v => (Go.RowKit.intOf v).toNat
  | none => 0
theorem nodesAt_is {w wr : World} {rb wb sb nodes depth : Nat} {S : List (LN Gd.St)} (h : MSt w wr rb wb sb nodes depth S) : nodesAt wr wb = nodes := by
  unfold nodesAt
  have := h.whole.cell 0
  rw [show ([Value.int .i64 nodes, Value.int .i64 depth] : List Value)[0]? = some (.int .i64 nodes) from rfl] at this
  rw [this]; simp [Go.RowKit.intOf]
abbrev mW (w : World) : World := ((((w.alloc (.cells #[.int .i64 0, .int .i64 0] XT)).alloc (.cells #[.int .i64 0, .int .i64 0] XT)).alloc (.map #[] 0)).alloc (.map #[] 0))
theorem mstart (w : World) : MSt w (mW w) w.heap.size (w.heap.size + 1) (w.heap.size + 1 + 1) 0 0 [] ∧ EMap encP (mW w) (w.heap.size + 1 + 1 + 1) (kvH ([] : He Gd.St)) ∧ (mW w).heap.size = w.heap.size + 1 + 1 + 1 + 1 := by
  let o2 : Obj := .cells #[.int .i64 0, .int .i64 0] XT
  have s2 := size_alloc' w o2
  have s3 := size_alloc' (w.alloc o2) o2
  have s4 := size_alloc' ((w.alloc o2).alloc o2) (.map #[] 0)
  have s5 := size_alloc' (((w.alloc o2).alloc o2).alloc (.map #[] 0)) (.map #[] 0)
  have b : Below w.heap.size w (mW w) := ((((Below.refl _ _).alloc (Nat.le_refl _) o2).alloc (by omega) o2).alloc (by omega) _).alloc (by omega) _
  have r1 := Blk.new w XT [.int .i64 0, .int .i64 0]
  have r2 := Blk.new (w.alloc o2) XT [.int .i64 0, .int .i64 0]
  have m1 := EMap.new (enc := encP) ((w.alloc o2).alloc o2)
  have m2 := EMap.new (enc := encP) (((w.alloc o2).alloc o2).alloc (.map #[] 0))
  rw [s2] at r2 s3
  rw [s3] at m1 s4
  rw [s4] at m2 s5
  exact ⟨⟨b, ((r2.alloc _).alloc _), m1.alloc _, by omega, by omega, (((r1.alloc _).alloc _).alloc _), by omega⟩, m2, s5⟩
abbrev entH (p : LN Gd.St × Nat) : Value × Value := (encP p.1.key, .agg #[slv p.1, .int .i64 (p.2 : Nat)])
theorem kvE_H (h : He Gd.St) : kvE encP (kvH h) = h.map entH := by
  unfold kvE kvH
  rw [List.map_map]; rfl
theorem perm_map_cons {α β : Type} {f : α → β} {L : List α} {y : β} {l : List β} (h : (L.map f).Perm (y :: l)) : ∃ G L', f G = y ∧ L.Perm (G :: L') ∧ l.Perm (L'.map f) := by
  obtain ⟨G, hG, e⟩ := List.mem_map.1 (h.mem_iff.2 (List.mem_cons_self))
  obtain ⟨s, t, rfl⟩ := List.append_of_mem hG
  have hp : (s ++ G :: t).Perm (G :: (s ++ t)) := List.perm_middle
  refine ⟨G, s ++ t, e, hp, ?_⟩
  have h2 := (hp.map f).symm.trans h
  rw [List.map_cons, e] at h2
  exact (h2.cons_inv).symm
abbrev PW (w : World) : LN Gd.St → Prop := LA (pln w) w.heap.size
abbrev ZXw (w : World) := ZX kdS (PW w)
theorem pt_go {w wr : World} {l : LN Gd.St} (h : PW w l) (hb : Below w.heap.size w wr) : PtOk wr l.key.1 := PtOk_go (la_pt h) hb
theorem kvS_pt {w wr : World} {S : List (LN Gd.St)} (h : ∀ q ∈ S, PW w q) (hb : Below w.heap.size w wr) : ∀ p ∈ kvS S, PtOk wr p.1.1 := fun p hp => by
  obtain ⟨q, hq, rfl⟩ := List.mem_map.1 hp
  exact pt_go (h q hq) hb
section
variable {w : World} {N Dp nodes depth m : Nat} {S : List (LN Gd.St)} {Lf Bl : He Gd.St} {cur l : List Gd.St} {ls : List (List Gd.St)} {t : Gd.St}
theorem ZX_m (h : ZXw w N Dp nodes depth S Lf m (t :: cur) ls Bl) : nodes + m ≤ N := by
  have h1 := h.cnt
  have h2 := (kdS).cnt_pos t
  rw [Kd.cntL_cons, Nat.mul_add] at h1
  have h3 : m * 1 ≤ m * (kdS).cnt t := Nat.mul_le_mul_left _ h2
  omega
theorem ZX_add (h : ZXw w N Dp nodes depth S Lf m cur (l :: ls) Bl) (hne : l ≠ []) (k : Pk) : getE Bl k + m ≤ N := by
  have h1 := h.cnt
  have h2 := (kdS).cntL_pos hne
  have h3 := getE_le (K := kdS) k fun p hp => (h.neB p hp).1
  rw [Kd.cntLL_cons, Nat.mul_add] at h1
  have h4 : m * 1 ≤ m * (kdS).cntL l := Nat.mul_le_mul_left _ h2
  omega
end
theorem imeasure (ln : LN Gd.St) (w : World) (hl : PW w ln) (hbd : (kdS).cntL ln.ks ≤ 4000000) :
    Calls Tryz.prog 81 #[slv ln, belowF] w fun e w' => e = .returned (.agg #[.int .i64 ((kdS).cntL ln.ks), .int .i64 ((kdS).depL ln.ks)]) ∧ Below w.heap.size w w' := by
  obtain ⟨hM, hm0, hsz⟩ := mstart w
  have hdN := (kdS).depL_cntL ln.ks
  obtain ⟨N, hN⟩ : ∃ N, N = (kdS).cntL ln.ks := ⟨_, rfl⟩
  obtain ⟨Dp, hDp⟩ : ∃ Dp, Dp = (kdS).depL ln.ks := ⟨_, rfl⟩
  have hfirst : ∃ H, ZO kdS (PW w) N Dp 0 0 [] H ∧ Calls Tryz.prog 102 #[.map (some (w.heap.size + 1 + 1 + 1)), slv ln, .int .i64 1] (mW w) fun e w' => e = .returned (.tuple #[]) ∧ EMap encP w' (w.heap.size + 1 + 1 + 1) (kvH H) ∧ (mW w).grownBy w' (some (w.heap.size + 1 + 1 + 1)) := by
    by_cases h0 : ln.ks = []
    · refine ⟨[], ?_, ?_⟩
      · subst hN; subst hDp
        rw [h0]
        exact ⟨rfl, fun p hp => absurd hp (by simp), Or.inl ⟨rfl, rfl⟩, fun i hi => absurd hi (Nat.not_lt_zero _), fun p hp => absurd hp (by simp), fun p hp => absurd hp (by simp), fun q hq => absurd hq (by simp)⟩
      · obtain ⟨A, c, ks⟩ := ln
        obtain rfl : ks = [] := h0
        exact (add0 (w.heap.size + 1 + 1 + 1) A c 1 (mW w)).mono fun e w' h => ⟨h.1, by rw [h.2]; exact hm0, by rw [h.2]; exact gb_refl _ _⟩
    · obtain ⟨ad, hA, hp, hB⟩ := la_ad hl h0
      refine ⟨[(ln, 1)], by subst hN; subst hDp; exact ZO.first hl h0, ?_⟩
      exact add1 (w.heap.size + 1 + 1 + 1) [] ln 1 ad hA h0 (mW w) hm0 (hp.below hM.old hB) (fun p hp => absurd hp (by simp)) (by simp [getE])
  obtain ⟨H0, hO, hadd⟩ := hfirst
  rw [← hN] at hdN hbd ⊢
  rw [← hDp] at hdN ⊢
  replace hadd := hid hadd
  replace hM := hid hM
  replace hO := hid hO
  replace hm0 := hid hm0
  replace hbd := hid hbd
  clear hN hDp hl
  have qm := fun w => run_makeMap (P := Tryz.prog) 137 w
  have qm2 := fun w => run_makeMap (P := Tryz.prog) 139 w
  go_enter Tryz.func81, Tryz.ntmps81
  go_wp2_with fail
  refine hadd.out.mono ?_
  rintro e w1 ⟨rfl, hm1, hg1⟩
  have hM1 := hid (hM.out.obj_ hm0.out (fun _ _ _ e => by cases e) hg1 (by omega) (by omega))
  replace hm1 := hid hm1
  clear hadd hm0 hg1 hM hsz
  go_wp2_with fail
  go_loopw [7] (fun h wr => ∃ (hb nodes depth : Nat) (Lf : He Gd.St) (S : List (LN Gd.St)), h = .map (some hb) ∧ MSt w wr w.heap.size (w.heap.size + 1) (w.heap.size + 1 + 1) nodes depth S ∧ EMap encP wr hb (kvH Lf) ∧ w.heap.size ≤ hb ∧ w.heap.size + 1 + 1 ≠ hb ∧ ZO kdS (PW w) N Dp nodes depth S Lf) (fun _ wr => N - nodesAt wr (w.heap.size + 1))
  case atStart => exact ⟨_, 0, 0, H0, [], rfl, hM1.out, hm1.out, by omega, by omega, hO.out⟩
  case round =>
    obtain ⟨hb, nodes, depth, Lf, S, rfl, hM, hm, hge, hne, hO⟩ := hrel
    clear hM1 hm1 qm
    have hcnt := hO.cnt
    have hbd1 := hbd.out
    by_cases hL : Lf = []
    · subst hL
      obtain ⟨e1, e2⟩ := hO.end_
      subst e1 e2
      have hw := hM.whole
      have x0 : wr.cell? ⟨w.heap.size + 1, 0, none⟩ = some (.int .i64 (nodes : Nat)) := hw.cell 0
      have x1 : wr.cell? ⟨w.heap.size + 1, 1, none⟩ = some (.int .i64 (depth : Nat)) := hw.cell 1
      have hr := hM.res
      have y0 : wr.cell? ⟨w.heap.size, 0, none⟩ = some (.int .i64 0) := hr.cell 0
      have y1 : wr.cell? ⟨w.heap.size, 1, none⟩ = some (.int .i64 0) := hr.cell 1
      have f0 := hr.frozen 0
      have f1 := hr.frozen 1
      have hfin := hid (((hr.set_ 0 (.int .i64 (nodes : Nat))).set_ 1 (.int .i64 (depth : Nat))))
      have hold := hid ((hM.old.setCell (p := ⟨w.heap.size, 0, none⟩) (Nat.le_refl _) (.int .i64 (nodes : Nat))).setCell (p := ⟨w.heap.size, 1, none⟩) (Nat.le_refl _) (.int .i64 (depth : Nat)))
      replace hm := hid hm
      clear hO hcnt hw hr hM hbd1
      go_wp2_with (at_len; refine wpList_len rfl _ rfl Tryz.underlying139 hb [] hm.out rfl ?_)
      refine bodyPost_ret (results_cell_row Tryz.results81 _ _ w.heap.size 114 _ (0, 0) _ rfl hfin.out Tryz.underlying114 rfl (by kernel_rfl)) rfl ⟨rfl, hold.out⟩
    · have hX := hid (hO.start hL)
      have hLl : 0 < Lf.length := List.length_pos_iff.2 hL
      have hkl : (kvE encP (kvH Lf)).length = Lf.length := by simp [kvH]
      have tL : decide ((0 : Int) < ((kvE encP (kvH Lf)).length : Int)) = true := decide_eq_true (by omega)
      have hlt1 := hm.lt
      have hold := hM.old.size
      have hM0 := hid (nodesAt_is hM)
      replace hM := hid hM
      replace hm := hid hm
      clear hO
      go_wp2_with (first
        | (at_len; refine wpList_len rfl _ rfl Tryz.underlying139 hb (kvE encP (kvH Lf)) hm.out rfl ?_)
        | (at_range; refine wpList_range rfl _ rfl Tryz.underlying139 hb (kvE encP (kvH Lf)) (IMap.alloc hm.out _) rfl ?_; intro w2 hit2 hw2))
      have hb2 : Below wr.heap.size wr w2 := by
        obtain ⟨o2, rfl⟩ := hw2
        exact (box_below wr _).trans ((box_below _ _).mono (by rw [size_alloc']; omega))
      have hbl : EMap encP w2 wr.heap.size (kvH ([] : He Gd.St)) := by
        obtain ⟨o2, rfl⟩ := hw2
        exact (EMap.new wr).alloc _
      rw [size_alloc'] at hit2 ⊢
      have hM2 := hid (hM.out.below_ hb2)
      have hm2 := hid (hm.out.below hb2 hlt1)
      rw [kvE_H] at hit2
      replace hit2 := hid hit2
      replace hbl := hid hbl
      have hbbge : w.heap.size ≤ wr.heap.size := hold
      have hsb2 : w.heap.size + 1 + 1 < wr.heap.size := hM.out.seen.lt
      have hne2 : w.heap.size + 1 + 1 ≠ wr.heap.size := by omega
      have hne3 : hb ≠ wr.heap.size := by omega
      clear hw2 hb2
      go_frame
      generalize wr.heap.size = bb at *
      go_loopw [9] (fun _ wr2 => ∃ (nodes' : Nat) (Lf' Bl : He Gd.St) (S' : List (LN Gd.St)) (left : List (Value × Value)), MSt w wr2 w.heap.size (w.heap.size + 1) (w.heap.size + 1 + 1) nodes' depth S' ∧ EMap encP wr2 hb (kvH Lf) ∧ Iter wr2 (bb + 1) hb (Lf.map entH) left ∧ left.Perm (Lf'.map entH) ∧ EMap encP wr2 bb (kvH Bl) ∧ ZXw w N Dp nodes' depth S' Lf' 0 [] [] Bl ∧ nodes + Lf.length ≤ nodes' + Lf'.length) (fun _ wr2 => N - nodesAt wr2 (w.heap.size + 1))
      case atStart => exact ⟨nodes, Lf, [], S, _, hM2.out, hm2.out, hit2.out, List.Perm.refl _, hbl.out, hX.out, Nat.le_refl _⟩
      case round =>
        obtain ⟨nodes', Lf', Bl, S', left, hM3, hm3, hit3, hpl, hbl3, hX3, hnn⟩ := hrel
        clear hM2 hm2 hit2 hbl hX
        have hcnt3 := hX3.cnt
        have hx0 := hM3.whole
        have hm3' : IMap wr hb (Lf.map entH) := by rw [← kvE_H]; exact hm3
        go_wp2_with (at_next; refine wpList_next rfl _ rfl (bb + 1) hb (Lf.map entH) left hm3' hit3 rfl ?_ ?_)
        · intro hl
          subst hl
          have hLf : Lf' = [] := by
            have := hpl.length_eq
            simp only [List.length_nil, List.length_map] at this
            exact List.eq_nil_of_length_eq_zero this.symm
          subst hLf
          obtain ⟨hO', hmore, hmoreD⟩ := hX3.turn
          replace hO' := hid hO'
          have hn3 := hid (nodesAt_is hM3)
          simp only [List.length_nil, Nat.add_zero] at hnn
          have hM4 := hid (hM3.depth1)
          have x1 : wr.cell? ⟨w.heap.size + 1, 1, none⟩ = some (.int .i64 (depth : Nat)) := hx0.cell 1
          have f1 := hx0.frozen 1
          have hbl4 := hid (emap_set (i := 1) (u := .int .i64 ((depth : Int) + 1)) hx0 hbl3)
          have e1 : IntKind.i64.wrap ((depth : Int) + 1) = (depth : Int) + 1 := IntWalk.i64_in _ (by omega)
          have hkS : (kvE encP (kvS S')).length = S'.length := by simp [kvS]
          have hkS' : (kvS S').length = S'.length := by simp [kvS]
          have tS : decide (((kvS S').length : Int) < (depth : Int) + 1) = false := decide_eq_false (by omega)
          replace hkS' := hid hkS'
          have hcn : nodes' ≤ N := by omega
          replace hkS := hid hkS
          clear hM3 hm3 hm3' hit3 hpl hbl3 hX3 hx0 hcnt3
          go_wp2_with (at_len; refine wpList_len rfl _ rfl Tryz.underlying137 (w.heap.size + 1 + 1) (kvE encP (kvS S')) hM4.out.seen rfl ?_)
          exact ⟨⟨bb, nodes', depth + 1, Bl, S', rfl, hM4.out, hbl4.out, hbbge, hne2, hO'.out⟩, by rw [nodesAt_is hM4.out, hM0.out]; omega⟩
        · intro key v left' w3 hp3 hm4 hit4 hg4 hsz4 hen
          obtain ⟨⟨G, m⟩, Lf2, eG, hpL, hpl2⟩ := perm_map_cons (hpl.symm.trans hp3)
          obtain ⟨ek, ev⟩ := Prod.mk.inj eG
          clear eG hp3 hpl
          have hGm : (G, m) ∈ Lf' := hpL.mem_iff.2 (List.mem_cons_self)
          obtain ⟨hGne, hm1⟩ := hX3.neL _ hGm
          have hGP : PW w G := hX3.inL _ hGm
          obtain ⟨ga, hGA, hGpl, hGB⟩ := la_ad hGP hGne
          have hGkey : G.key = (some ga, G.ks.length) := by rw [LN.key_ne hGne, hGA]
          have ek : key = .agg #[.pointer (some ga), .int .i64 (G.ks.length : Nat)] := by
            rw [← ek]; show encP G.key = _; rw [hGkey]
          have ev : v = .agg #[.slice (some ga) G.ks.length G.c, .int .i64 (m : Nat)] := by
            rw [← ev]; show Value.agg #[.slice G.A G.ks.length G.c, .int .i64 (m : Nat)] = _; rw [hGA]
          subst ek; subst ev
          obtain ⟨snI, hsnI, _⟩ := hit3
          have hMi := hM3.obj_ hsnI (fun _ _ _ e => by cases e) hg4 (by omega) (by omega)
          have hbl4 := hbl3.gb hg4 (fun e => by have := Option.some.inj e; omega)
          have hX4 := hid (hX3.take la_fun hpL)
          have hlen2 : Lf'.length = Lf2.length + 1 := by have := hpL.length_eq; simpa using this
          have hNpos : 0 < G.ks.length := List.length_pos_iff.2 hGne
          have hm1 : 1 ≤ m := hm1
          have hNb : G.ks.length ≤ 4000000 := by
            have h1 := (kdS).len_cntL G.ks
            have h2 := hX4.out.cnt
            have h3 : 1 * (kdS).cntL G.ks ≤ m * (kdS).cntL G.ks := Nat.mul_le_mul_right _ hm1
            omega
          have hbA : Below w3.heap.size w3 ((w3.alloc (.cells #[.pointer (some ga), .int .i64 (G.ks.length : Nat)] PT)).alloc (.cells #[.slice (some ga) G.ks.length G.c, .int .i64 m] RT)) :=
            (box_below w3 _).trans ((box_below _ _).mono (by rw [size_alloc']; omega))
          have hBA := Blk.new (w3.alloc (.cells #[.pointer (some ga), .int .i64 (G.ks.length : Nat)] PT)) RT [.slice (some ga) G.ks.length G.c, .int .i64 m]
          rw [size_alloc'] at hBA
          have hBP := (Blk.new w3 PT [.pointer (some ga), .int .i64 (G.ks.length : Nat)]).alloc (.cells #[.slice (some ga) G.ks.length G.c, .int .i64 m] RT)
          have hlb : w.heap.size ≤ w3.heap.size + 1 := by have := hMi.old.size; omega
          have hMA := hid (hMi.below_ hbA)
          have hmA := hid (EMap.below (show EMap encP w3 hb (kvH Lf) by unfold EMap; rw [kvE_H]; exact hm4) hbA hm4.lt)
          have hitA := hid (hit4.same (hbA.block _ hit4.lt))
          have hblA := hid (hbl4.below hbA hbl4.lt)
          have hD := hid (dec_place (k := G.key) (l := kvS S') (pt_go hGP hMA.out.old) (kvS_pt hX3.inS hMA.out.old))
          have hput := hid (aput_kvS S' G)
          rw [hGkey] at hD hput
          replace hBA := hid hBA
          replace hBP := hid hBP
          have hn3 := nodesAt_is hM3
          replace hn3 := hid hn3
          replace hGP := hid hGP
          have hGA' := hid hGA
          replace hGkey := hid hGkey
          clear hM3 hm3 hm3' hsnI hbl3 hX3 hx0 hm4 hit4 hMi hbl4 hg4 hsz4 hbA hpL hGm hGA
          go_wp2_with (at_mapUpdate; refine wpList_aput rfl _ _ _ (Or.inr rfl) Tryz.underlying137 wideP (w.heap.size + 1 + 1) (kvS S') hMA.out.seen (some ga, G.ks.length) (.bool true) hD.out rfl rfl rfl ?_; intro w5 hm5 hg5 _; rw [hput.out] at hm5; have hM5 := hid (hMA.out.seen_ hm5 hg5); have hB5 := blk_obj hMA.out.seen (fun _ _ _ e => by cases e) hg5 hBA.out; have hm6 := hid (hmA.out.gb hg5 (fun e => by have := Option.some.inj e; omega)); have hit6 := hid (hitA.out.gb hg5 (fun e => by have := Option.some.inj e; omega)); have hbl6 := hid (hblA.out.gb hg5 (fun e => by have := Option.some.inj e; omega)); have z0 : w5.cell? ⟨w3.heap.size + 1, 0, none⟩ = some (.slice (some ga) G.ks.length G.c) := hB5.cell 0; replace hB5 := hid hB5; clear hm5 hg5)
          obtain ⟨lb, hlbe⟩ : ∃ lb, lb = w3.heap.size + 1 := ⟨_, rfl⟩
          rw [← hlbe] at hB5 hlb ⊢
          clear hMA hmA hitA hblA z0 hBA hBP hen hlbe ek ev hput hD hGkey hGpl hGB
          go_loopw [36] (fun i wr3 => ∃ (D nodes2 : Nat) (Bl2 : He Gd.St), i = .int .i64 (D : Nat) ∧ D ≤ G.ks.length ∧ MSt w wr3 w.heap.size (w.heap.size + 1) (w.heap.size + 1 + 1) nodes2 depth (putS S' G) ∧ EMap encP wr3 hb (kvH Lf) ∧ Iter wr3 (bb + 1) hb (Lf.map entH) left' ∧ EMap encP wr3 bb (kvH Bl2) ∧
            Blk wr3 lb RT [.slice (some ga) G.ks.length G.c, .int .i64 (m : Nat)] ∧ ZXw w N Dp nodes2 depth (putS S' G) Lf2 m (G.ks.drop D) [] Bl2 ∧ nodes' + D ≤ nodes2) (fun i _ => G.ks.length - (Go.RowKit.intOf i).toNat)
          case atStart => exact ⟨0, nodes', Bl, rfl, Nat.zero_le _, hM5.out, hm6.out, hit6.out, hbl6.out, hB5.out, by rw [List.drop_zero]; exact hX4.out, Nat.le_refl _⟩
          case round =>
            obtain ⟨D, nodes2, Bl2, rfl, hDl, hM7, hm7, hit7, hbl7, hB7, hX7, hge7⟩ := hrel
            clear hM5 hm6 hit6 hbl6 hB5 hX4
            have hcnt7 := hX7.cnt
            by_cases hC : D = G.ks.length
            · have t0 : decide ((D : Int) < (G.ks.length : Int)) = false := decide_eq_false (by omega)
              have hn7 := hid (nodesAt_is hM7)
              rw [List.drop_of_length_le (by omega)] at hX7
              replace hM7 := hid hM7
              have hX7 := hid (hX7.m_ (m' := 0))
              clear hcnt7
              have hcn := hX7.out.cnt
              replace hm7 := hid hm7
              replace hit7 := hid hit7
              replace hbl7 := hid hbl7
              replace hB7 := hid hB7
              go_wp2_with fail
              exact ⟨⟨nodes2, Lf2, Bl2, _, left', hM7.out, hm7.out, hit7.out, hpl2, hbl7.out, hX7.out, by omega⟩, by rw [hn7.out, hn3.out]; omega⟩
            · have hDlt : D < G.ks.length := by omega
              have t0 : decide ((D : Int) < (G.ks.length : Int)) = true := decide_eq_true (by omega)
              have t1 : (D : Int) < (G.ks.length : Int) := by omega
              obtain ⟨tt, htt⟩ : ∃ tt, G.ks[D]? = some tt := ⟨_, List.getElem?_eq_getElem hDlt⟩
              have hdrop : G.ks.drop D = tt :: G.ks.drop (D + 1) := by
                rw [List.drop_eq_getElem_cons hDlt]
                rw [List.getElem?_eq_getElem hDlt] at htt
                cases htt; rfl
              rw [hdrop] at hX7
              have hnm := ZX_m hX7
              obtain ⟨ad, nk, ns, ek, en, es, nA, nl, nc, qA, ql, qc, oA, ol, oc, hGA2, hld, hrd⟩ := la_node hGP.out hM7.old htt
              obtain rfl : ad = ga := by rw [hGA'.out] at hGA2; exact (Option.some.inj hGA2).symm
              obtain ⟨KL, hKk, hKP, hK2, hcall⟩ := below_any hrd
              have hX8 := hX7.node
              rw [show (kdS).kids tt = KL.map LN.ks from hKk.symm] at hX8
              obtain ⟨c0, c1, c2, c3, c4, c5, c6, c7⟩ := ldC_at hld
              have hbA := box_below wr (.cells #[.int .i64 nk, sv ns, .int .i64 ek, .int .i64 en, sv es, .slice nA nl nc, .slice qA ql qc, .slice oA ol oc] ET)
              have hBn := Blk.new wr ET [.int .i64 nk, sv ns, .int .i64 ek, .int .i64 en, sv es, .slice nA nl nc, .slice qA ql qc, .slice oA ol oc]
              have hMA := hM7.below_ hbA
              have hmA := hid (hm7.below hbA hm7.lt)
              have hitA := hid (hit7.same (hbA.block _ hit7.lt))
              have hblA := hid (hbl7.below hbA hbl7.lt)
              have hB7A := hB7.below hbA hB7.lt
              have hbs : w.heap.size + 1 ≠ wr.heap.size := fun e => by have := hM7.whole.lt; omega
              have hlbne : lb ≠ w.heap.size + 1 := fun e => by
                have h1 := hM7.whole
                have h2 := hB7
                rw [e] at h2
                unfold Blk at h1 h2
                rw [h1] at h2
                injection h2 with h3; injection h3 with _ h4 _
                revert h4; decide
              have hadd := hid (addWO nodes2 m (by omega) (wr.alloc (.cells #[.int .i64 nk, sv ns, .int .i64 ek, .int .i64 en, sv es, .slice nA nl nc, .slice qA ql qc, .slice oA ol oc] ET)))
              have z0 : (wr.alloc (.cells #[.int .i64 nk, sv ns, .int .i64 ek, .int .i64 en, sv es, .slice nA nl nc, .slice qA ql qc, .slice oA ol oc] ET)).cell? ⟨w.heap.size + 1, 0, none⟩ = some (.int .i64 (nodes2 : Nat)) := hMA.whole.cell 0
              have z1 : (wr.alloc (.cells #[.int .i64 nk, sv ns, .int .i64 ek, .int .i64 en, sv es, .slice nA nl nc, .slice qA ql qc, .slice oA ol oc] ET)).cell? ⟨lb, 1, none⟩ = some (.int .i64 (m : Nat)) := hB7A.cell 1
              replace hMA := hid hMA
              replace hBn := hid hBn
              replace hB7A := hid hB7A
              replace hX8 := hid hX8
              replace hcall := hid hcall
              replace hKP := hid hKP
              clear hM7 hm7 hit7 hbl7 hB7 hbA hX7 hrd hld hKk hcnt7 htt
              go_wp2_with fail
              refine hadd.out.mono ?_
              rintro e w' ⟨rfl, rfl⟩
              generalize (wr.alloc (.cells #[.int .i64 nk, sv ns, .int .i64 ek, .int .i64 en, sv es, .slice nA nl nc, .slice qA ql qc, .slice oA ol oc] ET)) = WA at *
              have hMB := hMA.out.nodesP m
              have hwh := hMA.out.whole
              have f0 : WA.frozen? ⟨w.heap.size + 1, 0, none⟩ = false := hwh.frozen 0
              have hBnB := blk_far (i := 0) hBn.out (Ne.symm hbs) (.int .i64 ((nodes2 : Int) + (m : Int)))
              have hB7B := hid (blk_far (i := 0) hB7A.out hlbne (.int .i64 ((nodes2 : Int) + (m : Int))))
              have p0 := hBnB.cell 0
              have p1 := hBnB.cell 1
              have p2 := hBnB.cell 2
              have p3 := hBnB.cell 3
              have p4 := hBnB.cell 4
              have p5 := hBnB.cell 5
              have p6 := hBnB.cell 6
              have p7 := hBnB.cell 7
              have hmB := hid (emap_set (i := 0) (u := .int .i64 ((nodes2 : Int) + (m : Int))) hwh hmA.out)
              have hitB := hid (iter_set (i := 0) (u := .int .i64 ((nodes2 : Int) + (m : Int))) hwh hitA.out)
              have hblB := hid (emap_set (i := 0) (u := .int .i64 ((nodes2 : Int) + (m : Int))) hwh hblA.out)
              replace hMB := hid hMB
              clear hMA hmA hitA hblA hB7A hBn hBnB hwh hadd
              go_wp2_with fail
              refine (hcall.out _).mono ?_
              rintro e w6 ⟨g, rfl, hgge, hBg, hb6⟩
              have hM9 := hid (hMB.out.below_ hb6)
              have hm9 := hid (hmB.out.below hb6 hmB.out.lt)
              have hit9 := hid (hitB.out.same (hb6.block _ hitB.out.lt))
              have hB9 := hid (hB7B.out.below hb6 hB7B.out.lt)
              have hbl9 := hid (hblB.out.below hb6 hblB.out.lt)
              have hgb : g ≠ bb := fun e => by have := hblB.out.lt; omega
              replace hBg := hid hBg
              clear hMB hmB hitB hblB hB7B hb6 hcall hgge c0 c1 c2 c3 p0 p1 p2 p3
              clear c4 c5 c6 c7 p4 p5 p6 p7
              go_wp2_with fail
              go_loopw [50] (fun i wr4 => ∃ (j : Nat) (Bl3 : He Gd.St), i = .int .i64 (j : Nat) ∧ j ≤ KL.length ∧ MSt w wr4 w.heap.size (w.heap.size + 1) (w.heap.size + 1 + 1) (nodes2 + m) depth (putS S' G) ∧ EMap encP wr4 hb (kvH Lf) ∧ Iter wr4 (bb + 1) hb (Lf.map entH) left' ∧ EMap encP wr4 bb (kvH Bl3) ∧
                Blk wr4 lb RT [.slice (some ad) G.ks.length G.c, .int .i64 (m : Nat)] ∧ Blk wr4 g RowT (KL.map slv) ∧ ZXw w N Dp (nodes2 + m) depth (putS S' G) Lf2 m (G.ks.drop (D + 1)) ((KL.drop j).map LN.ks) Bl3) (fun i _ => KL.length - (Go.RowKit.intOf i).toNat)
              case atStart => exact ⟨0, Bl2, rfl, Nat.zero_le _, hM9.out, hm9.out, hit9.out, hbl9.out, hB9.out, hBg.out, by rw [List.drop_zero]; exact hX8.out⟩
              case round =>
                obtain ⟨j, Bl3, rfl, hjl, hMc, hmc, hitc, hblc, hBc, hBgc, hXc⟩ := hrel
                clear hM9 hm9 hit9 hB9 hbl9 hBg hX8
                by_cases hJ : j = KL.length
                · have q0 : decide ((j : Int) < (KL.length : Int)) = false := decide_eq_false (by omega)
                  rw [show KL.drop j = [] from List.drop_of_length_le (by omega), List.map_nil] at hXc
                  replace hXc := hid hXc
                  replace hMc := hid hMc
                  replace hmc := hid hmc
                  replace hitc := hid hitc
                  replace hblc := hid hblc
                  replace hBc := hid hBc
                  clear hBgc
                  go_wp2_with fail
                  exact ⟨⟨D + 1, nodes2 + m, Bl3, by go_num, by omega, hMc.out, hmc.out, hitc.out, hblc.out, hBc.out, hXc.out, by omega⟩, by simp [Go.RowKit.intOf]; omega⟩
                · have hjlt : j < KL.length := by omega
                  have q0 : decide ((j : Int) < (KL.length : Int)) = true := decide_eq_true (by omega)
                  have q1 : (j : Int) < (KL.length : Int) := by omega
                  have hdj : KL.drop j = KL[j] :: KL.drop (j + 1) := List.drop_eq_getElem_cons hjlt
                  have hlP := hKP.out KL[j] (List.getElem_mem _)
                  have hcj : wr.cell? ⟨g, j, none⟩ = some (slv KL[j]) := by
                    rw [hBgc.cell, List.getElem?_map, List.getElem?_eq_getElem hjlt]; rfl
                  have z1 : wr.cell? ⟨lb, 1, none⟩ = some (.int .i64 (m : Nat)) := hBc.cell 1
                  rw [hdj, List.map_cons] at hXc
                  clear hdj
                  generalize KL[j] = l at *
                  replace hBgc := hid hBgc
                  have hPt : ∀ p ∈ Bl3, PtOk wr p.1.key.1 := fun p hp => pt_go (hXc.inB p hp) hMc.old
                  by_cases hl0 : l.ks = []
                  · obtain ⟨lA, lc, lk⟩ := l
                    obtain rfl : lk = [] := hl0
                    have hcj : wr.cell? ⟨g, j, none⟩ = some (.slice lA 0 lc) := hcj
                    have hcall := hid (add0 bb lA lc m wr)
                    have hX9 := hid hXc.none_
                    replace hMc := hid hMc
                    replace hmc := hid hmc
                    replace hitc := hid hitc
                    replace hblc := hid hblc
                    replace hBc := hid hBc
                    clear hXc hPt hlP
                    go_wp2_with fail
                    refine hcall.out.mono ?_
                    rintro e w' ⟨rfl, rfl⟩
                    go_wp2_with fail
                    exact ⟨⟨j + 1, Bl3, by go_num, by omega, hMc.out, hmc.out, hitc.out, hblc.out, hBc.out, hBgc.out, hX9.out⟩, by simp [Go.RowKit.intOf]; omega⟩
                  · obtain ⟨la, hlA, hlpl, hlB⟩ := la_ad hlP hl0
                    have hcall := hid (add1 bb Bl3 l m la hlA hl0 wr hblc (hlpl.below hMc.old hlB) hPt (by have := ZX_add hXc hl0 l.key; omega))
                    have hX9 := hid (hXc.some_ la_fun hlP hl0 hm1)
                    replace hMc := hid hMc
                    replace hmc := hid hmc
                    replace hitc := hid hitc
                    replace hblc := hid hblc
                    replace hBc := hid hBc
                    clear hXc hPt hlP hlA hlpl
                    go_wp2_with fail
                    refine hcall.out.mono ?_
                    rintro e w7 ⟨rfl, hm7', hg7'⟩
                    have hMd := hid (hMc.out.obj_ hblc.out (fun _ _ _ e => by cases e) hg7' hne2 hbbge)
                    have hmd := hid (hmc.out.gb hg7' (fun e => hne3 (Option.some.inj e)))
                    have hitd := hid (hitc.out.gb hg7' (fun e => by have := Option.some.inj e; omega))
                    have hBd := hid (blk_obj hblc.out (fun _ _ _ e => by cases e) hg7' hBc.out)
                    have hBgd := hid (blk_obj hblc.out (fun _ _ _ e => by cases e) hg7' hBgc.out)
                    replace hm7' := hid hm7'
                    clear hg7' hblc hMc hmc hitc hBc hBgc
                    go_wp2_with fail
                    exact ⟨⟨j + 1, _, by go_num, by omega, hMd.out, hmd.out, hitd.out, hm7'.out, hBd.out, hBgd.out, hX9.out⟩, by simp [Go.RowKit.intOf]; omega⟩
end Go.Proofs.YtnmomlaimffonaaGreat.Gs
set_option maxRecDepth 100000
namespace Go.Proofs.YtnmomlaimffonaaGreat.Gd
open Go.RowKit Go.Lib Go.Sort Com Mem YtnmomlaimffonaaGreat.Os Tr Pl Kd Gs
theorem la_row {W : World} {B : Nat} {A : Option Addr} {c : Nat} {L : List St} {rows : Nat → List Value} (h : Row W B 1 A (dl L) rows) (hl : L.length ≤ maxI) : LA W B ⟨A, c, L⟩ := by
  refine ⟨rows, fun j hj => ?_, fun j t ht => ?_, hl⟩
  · obtain ⟨hw, ad, ea, hB, hld⟩ := h.cell j (by simpa [dl] using hj)
    exact ⟨ad, ea, hB, hw, hld⟩
  · have ht : L[j]? = some t := ht
    exact h.kid j _ (by simp [dl, ht])
theorem dep_max (L : List St) : (depL L : Int) = max 1 ((kdS.depL L : Nat) : Int) := by
  by_cases h : L = []
  · subst h
    have e1 : depL [] = 1 := by simp [depL]
    have e2 : kdS.depL ([] : List St) = 0 := rfl
    rw [e1, e2]; rfl
  · have e : depL L = kdS.depL L := depL_mx h
    have := depL_pos L
    rw [e] at this ⊢
    omega
theorem extS0 (a b : Int) (w : World) : (Instr.field 114 (.agg #[.int .i64 a, .int .i64 b]) 0).run Tryz.prog w = .ok (.int .i64 a) w := by kernel_rfl
theorem extS1 (a b : Int) (w : World) : (Instr.field 114 (.agg #[.int .i64 a, .int .i64 b]) 1).run Tryz.prog w = .ok (.int .i64 b) w := by kernel_rfl
theorem icountL (ln : LN St) (w : World) (h : LA (pln w) w.heap.size ln) (hbd : cntL ln.ks ≤ 4000000) : Calls Tryz.prog 57 #[slv ln] w fun e w' => e = .returned (.int .i64 (cntL ln.ks)) ∧ Below w.heap.size w w' := by
  have hcl := imeasure ln w h (by rw [cntL_S]; exact hbd)
  rw [cntL_S] at hcl
  replace hcl := hid hcl
  have q0 := fun w => extS0 (cntL ln.ks) (kdS.depL ln.ks) w
  clear h hbd
  go_enter Tryz.func57, Tryz.ntmps57
  go_wp2_with fail
  refine hcl.out.mono ?_
  rintro e w2 ⟨rfl, hb2⟩
  have hb2 := hid hb2
  go_wp2_with fail
  go_ret
  exact ⟨rfl, hb2.out⟩
theorem idepthL (ln : LN St) (w : World) (h : LA (pln w) w.heap.size ln) (hbd : cntL ln.ks ≤ 4000000) : Calls Tryz.prog 58 #[slv ln] w fun e w' => e = .returned (.int .i64 (depL ln.ks)) ∧ Below w.heap.size w w' := by
  have hcl := imeasure ln w h (by rw [cntL_S]; exact hbd)
  rw [cntL_S] at hcl
  replace hcl := hid hcl
  have hm := hid (dep_max ln.ks)
  have q0 := fun w => extS1 (cntL ln.ks) (kdS.depL ln.ks) w
  clear h hbd
  go_enter Tryz.func58, Tryz.ntmps58
  go_wp2_with fail
  refine hcl.out.mono ?_
  rintro e w2 ⟨rfl, hb2⟩
  have hb2 := hid hb2
  go_wp2_with fail
  go_ret
  exact ⟨by rw [hm.out]; rfl, hb2.out⟩
end Go.Proofs.YtnmomlaimffonaaGreat.Gd
