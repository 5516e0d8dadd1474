/- Chapter 4: the program's measure of an expression. -/
import Derived.Test.YtlkfejcnkckgkaaMx
set_option maxRecDepth 100000
namespace Go.Proofs.Ytlkfejcnkckgkaa.Tr
open Go.RowKit Go.Lib Go.Sort Go.Proofs.Ytlkfejcnkckgkaa.Com Go.Proofs.Ytlkfejcnkckgkaa.Mem Go.Proofs.Ytlkfejcnkckgkaa.Os Go.Proofs.Ytlkfejcnkckgkaa.Im

abbrev XT : TypeId := 71
structure MSt (w W0 wr : World) (rb wb sb nodes depth : Nat) (S : List (Nat × Nat)) : Prop where
  old : Below w.heap.size w wr
  keep : KeepS XT W0 wr
  whole : Blk wr wb XT [.int .i64 nodes, .int .i64 depth]
  seen : IMap wr sb (S.map skey)
  wbge : w.heap.size ≤ wb
  sbge : w.heap.size ≤ sb
  res : Blk wr rb XT [.int .i64 0, .int .i64 0]
  rne : rb ≠ wb
theorem keepS_obj {ty : TypeId} {wr w' : World} {b : Nat} {o : Obj} (hk : wr.heap[b]? = some o) (ho : ∀ c t f, o ≠ .cells c t f) (hg : wr.grownBy w' (some b)) : KeepS ty wr w' :=
  ⟨hg.size, fun k c t fr hkc _ => hg.block k (by
    rcases Nat.lt_or_ge k wr.heap.size with h | h
    · exact h
    · rw [Array.getElem?_eq_none h] at hkc; cases hkc) (fun e => by cases e; rw [hk] at hkc; cases hkc; exact ho _ _ _ rfl)⟩
theorem blk_obj {wr w' : World} {b g : Nat} {o : Obj} {ty : TypeId} {cs : List Value} (hk : wr.heap[b]? = some o) (ho : ∀ c t f, o ≠ .cells c t f) (hg : wr.grownBy w' (some b)) (hB : Blk wr g ty cs) : Blk w' g ty cs :=
  hB.gb hg (fun e => by subst e; unfold Blk at hB; rw [hk] at hB; cases hB; exact ho _ _ _ rfl)
section
variable {w W0 wr w' : World} {rb wb sb nodes depth : Nat} {S : List (Nat × Nat)}
theorem MSt.below_ (h : MSt w W0 wr rb wb sb nodes depth S) (hb : Below wr.heap.size wr w') : MSt w W0 w' rb wb sb nodes depth S :=
  ⟨h.old.trans (hb.mono h.old.size), h.keep.trans (KeepS.of_below hb), h.whole.below hb h.whole.lt, h.seen.below hb h.seen.lt, h.wbge, h.sbge, h.res.below hb h.res.lt, h.rne⟩
theorem gb_old {a wr w' : World} {n g : Nat} (h : Below n a wr) (hg : wr.grownBy w' (some g)) (hn : n ≤ wr.heap.size) (hng : n ≤ g) : Below n a w' := h.grown hg hn (fun k hk => by cases hk; exact hng)
/-- another map, or an iterator, turns -/
theorem MSt.obj_ {b : Nat} {o : Obj} (h : MSt w W0 wr rb wb sb nodes depth S) (hk : wr.heap[b]? = some o) (ho : ∀ c t f, o ≠ .cells c t f) (hg : wr.grownBy w' (some b)) (hne : sb ≠ b) (hge : w.heap.size ≤ b) : MSt w W0 w' rb wb sb nodes depth S :=
  ⟨gb_old h.old hg h.old.size hge, h.keep.trans (keepS_obj hk ho hg), blk_obj hk ho hg h.whole, h.seen.gb hg (fun e => hne (by cases e; rfl)), h.wbge, h.sbge, blk_obj hk ho hg h.res, h.rne⟩
theorem MSt.seen_ {S' : List (Nat × Nat)} (h : MSt w W0 wr rb wb sb nodes depth S) (hm : IMap w' sb (S'.map skey)) (hg : wr.grownBy w' (some sb)) : MSt w W0 w' rb wb sb nodes depth S' := by
  have hs := h.seen
  exact ⟨gb_old h.old hg h.old.size h.sbge, h.keep.trans (keepS_obj hs (fun _ _ _ e => by cases e) hg), blk_obj hs (fun _ _ _ e => by cases e) hg h.whole, hm, h.wbge, h.sbge, blk_obj hs (fun _ _ _ e => by cases e) hg h.res, h.rne⟩
theorem keepS_set {ty : TypeId} {wr : World} {g i : Nat} {cs : List Value} {u : Value} (hB : Blk wr g ty cs) : KeepS ty wr (wr.setCell ⟨g, i, none⟩ u) :=
  ⟨by simp [World.setCell], fun k c t fr hkc hne => heap_setCell_other _ _ _ _ (by
    rintro rfl
    unfold Blk at hB
    rw [hkc] at hB
    injection hB with h1; injection h1 with _ h2 _
    exact hne h2)⟩
theorem blk_far {wr : World} {g g' i ty : Nat} {cs : List Value} (hB : Blk wr g ty cs) (hne : g ≠ g') (u : Value) : Blk (wr.setCell ⟨g', i, none⟩ u) g ty cs := (heap_setCell_other _ _ _ _ hne).trans hB
theorem imap_set {wr : World} {g i b ty : Nat} {cs : List Value} {u : Value} {kvs : List (Value × Value)} (hB : Blk wr g ty cs) (hm : IMap wr b kvs) : IMap (wr.setCell ⟨g, i, none⟩ u) b kvs :=
  hm.same (heap_setCell_other _ _ _ _ (by rintro rfl; unfold Blk at hB; unfold IMap at hm; rw [hB] at hm; cases hm))
theorem iter_set {wr : World} {g i b r ty : Nat} {cs : List Value} {u : Value} {kvs left : List (Value × Value)} (hB : Blk wr g ty cs) (hi : Iter wr r b kvs left) : Iter (wr.setCell ⟨g, i, none⟩ u) r b kvs left :=
  hi.same (heap_setCell_other _ _ _ _ (by rintro rfl; obtain ⟨s, h, _⟩ := hi; unfold Blk at hB; rw [hB] at h; cases h))
theorem MSt.nodes_ {nodes' : Nat} (h : MSt w W0 wr rb wb sb nodes depth S) : MSt w W0 (wr.setCell ⟨wb, 0, none⟩ (.int .i64 (nodes' : Nat))) rb wb sb nodes' depth S :=
  ⟨h.old.setCell (p := ⟨wb, 0, none⟩) h.wbge _, h.keep.trans (keepS_set h.whole), h.whole.set_ 0 _, imap_set h.whole h.seen, h.wbge, h.sbge, blk_far h.res h.rne _, h.rne⟩
theorem MSt.nodes1 (h : MSt w W0 wr rb wb sb nodes depth S) : MSt w W0 (wr.setCell ⟨wb, 0, none⟩ (.int .i64 ((nodes : Int) + 1))) rb wb sb (nodes + 1) depth S := h.nodes_ (nodes' := nodes + 1)
theorem MSt.depth_ {depth' : Nat} (h : MSt w W0 wr rb wb sb nodes depth S) : MSt w W0 (wr.setCell ⟨wb, 1, none⟩ (.int .i64 (depth' : Nat))) rb wb sb nodes depth' S :=
  ⟨h.old.setCell (p := ⟨wb, 1, none⟩) h.wbge _, h.keep.trans (keepS_set h.whole), h.whole.set_ 1 _, imap_set h.whole h.seen, h.wbge, h.sbge, blk_far h.res h.rne _, h.rne⟩
theorem MSt.depth1 (h : MSt w W0 wr rb wb sb nodes depth S) : MSt w W0 (wr.setCell ⟨wb, 1, none⟩ (.int .i64 ((depth : Int) + 1))) rb wb sb nodes (depth + 1) S := h.depth_ (depth' := depth + 1)
end
/-- blocks of no kids are out of reach -/
theorem own_shrink {ty : TypeId} {w : World} {lo hi : Nat} {v : Value} {t : T} (h : OwnE ty w lo hi v t) : OwnE ty w lo (min hi w.heap.size) v t := by
  induction h with
  | mk A c vs ls hs hsl hkl hA hin hdis hk ih =>
    refine .mk A c vs ls (fun j => min (hs j) _) hsl hkl (fun hne => ?_) (fun j hj => ?_) (fun i j hij hj => ?_) ih
    · obtain ⟨g, cs, e, h1, h2, hb, hr, hd⟩ := hA hne
      refine ⟨g, cs, e, h1, ?_, hb, hr, fun j hj => ?_⟩
      · have := hb.lt; omega
      · have := hd j hj; omega
    · have := hin j hj; omega
    · have := hdis i j hij hj; omega

theorem blk_step {w : World} {g ty : Nat} {cs : List Value} {o : Obj} (h : Blk w g ty cs) : Blk (w.alloc o) g ty cs := h.alloc o
/-- the world in which the loops begin -/
abbrev mW (w : World) (k n : Int) (s : List UInt8) (A : Option Addr) (l c : Nat) : World :=
  ((((((w.alloc (.cells #[.int .i64 k, .int .i64 n, sv s, .slice A l c] EE)).alloc (.cells #[.int .i64 0, .int .i64 0] XT)).alloc (.cells #[.int .i64 0, .int .i64 0] XT)).alloc (.map #[] 0)).alloc (.map #[] 0)).alloc (.cells #[.int .i64 k, .int .i64 n, sv s, .slice A l c] EE))
theorem mstart (w : World) (k n : Int) (s : List UInt8) (A : Option Addr) (l c : Nat) :
    MSt w (mW w k n s A l c) (mW w k n s A l c) (w.heap.size + 1) (w.heap.size + 1 + 1) (w.heap.size + 1 + 1 + 1) 0 0 [] ∧ IMap (mW w k n s A l c) (w.heap.size + 1 + 1 + 1 + 1) [] ∧ Blk (mW w k n s A l c) (w.heap.size + 1 + 1 + 1 + 1 + 1) EE [.int .i64 k, .int .i64 n, sv s, .slice A l c] ∧
      (mW w k n s A l c).heap.size = w.heap.size + 1 + 1 + 1 + 1 + 1 + 1 := by
  let o1 : Obj := .cells #[.int .i64 k, .int .i64 n, sv s, .slice A l c] EE
  let o2 : Obj := .cells #[.int .i64 0, .int .i64 0] XT
  have s1 := size_alloc' w o1
  have s2 := size_alloc' (w.alloc o1) o2
  have s3 := size_alloc' ((w.alloc o1).alloc o2) o2
  have s4 := size_alloc' (((w.alloc o1).alloc o2).alloc o2) (.map #[] 0)
  have s5 := size_alloc' ((((w.alloc o1).alloc o2).alloc o2).alloc (.map #[] 0)) (.map #[] 0)
  have s6 := size_alloc' (((((w.alloc o1).alloc o2).alloc o2).alloc (.map #[] 0)).alloc (.map #[] 0)) o1
  have b : Below w.heap.size w (mW w k n s A l c) := ((((((Below.refl _ _).alloc (Nat.le_refl _) o1).alloc (by omega) o2).alloc (by omega) o2).alloc (by omega) _).alloc (by omega) _).alloc (by omega) o1
  have r1 := Blk.new (w.alloc o1) XT [.int .i64 0, .int .i64 0]
  have r2 := Blk.new ((w.alloc o1).alloc o2) XT [.int .i64 0, .int .i64 0]
  have m1 := IMap.new (((w.alloc o1).alloc o2).alloc o2)
  have m2 := IMap.new ((((w.alloc o1).alloc o2).alloc o2).alloc (.map #[] 0))
  have r3 := Blk.new (((((w.alloc o1).alloc o2).alloc o2).alloc (.map #[] 0)).alloc (.map #[] 0)) EE [.int .i64 k, .int .i64 n, sv s, .slice A l c]
  rw [s1] at r1 s2
  rw [s2] at r2 s3
  rw [s3] at m1 s4
  rw [s4] at m2 s5
  rw [s5] at r3 s6
  exact ⟨⟨b, KeepS.refl _ _, ((((r2.alloc _).alloc _).alloc _)), (m1.alloc _).alloc _, by omega, by omega, ((((r1.alloc _).alloc _).alloc _).alloc _), by omega⟩, m2.alloc _, r3, s6⟩

/-- the count of nodes, as the variable holds it -/
def nodesAt (wr : World) (wb : Nat) : Nat := match wr.cell? ⟨wb, 0, none⟩ with
  | some v => (Go.RowKit.intOf v).toNat
  | none => 0
theorem nodesAt_is {w W0 wr : World} {rb wb sb nodes depth : Nat} {S : List (Nat × Nat)} (h : MSt w W0 wr rb wb sb nodes depth S) : nodesAt wr wb = nodes := by
  unfold nodesAt
  have := h.whole.cell 0
  rw [show ([Value.int .i64 nodes, Value.int .i64 depth] : List Value)[0]? = some (.int .i64 nodes) from rfl] at this
  rw [this]; simp [Go.RowKit.intOf]
set_option maxHeartbeats 8000000 in
theorem imeasure (t : T) (v : Value) (lo hi : Nat) (w : World) (hv0 : OwnX lo hi w v t) (hbd : cntT t ≤ 2000000) :
    Calls Try.prog 48 #[v] w fun e w' => e = .returned (.agg #[.int .i64 (cntT t), .int .i64 (depT t)]) ∧ Below w.heap.size w w' := by
  have hv := own_shrink hv0
  clear hv0
  obtain ⟨k0, n0, s0, A0, l0, c0, rfl⟩ := OwnE.form hv
  replace hbd := hid hbd
  have qm := fun w => run_makeMap (P := Try.prog) 73 w
  have qm2 := fun w => run_makeMap (P := Try.prog) 95 w
  obtain ⟨hM, hm0, hB0, hsz⟩ := mstart w k0 n0 s0 A0 l0 c0
  have hO : OInv (mW w k0 n0 s0 A0 l0 c0) t [] [⟨w.heap.size + 1 + 1 + 1 + 1 + 1, 1, [⟨nv k0 n0 s0 A0 l0 c0, t, lo, min hi w.heap.size⟩]⟩] 0 0 := by
    have hown := hv.same (same_below hM.old (by omega))
    refine OInv.mk (MInv.mk (Pend.mk (fun p hp => ?_) ?_) (fun G hG => ?_) (fun g hg => ?_) ?_ (fun g hg q hq => ?_)) ?_ (fun q hq => ?_) ?_ ?_
    · simp [nodesOf] at hp; subst hp; exact hown
    · simp [nodesOf]
    · simp at hG; subst hG
      exact ⟨by simp, _, hB0, rfl⟩
    · cases hg
    · simp
    · simp [nodesOf] at hg hq; subst hg; subst hq
      right; show min hi w.heap.size ≤ _; omega
    · simp [nodesOf, cntQ]
    · simp [nodesOf] at hq; subst hq; show 0 + depT t ≤ depT t; omega
    · exact Or.inr ⟨⟨nv k0 n0 s0 A0 l0 c0, t, lo, min hi w.heap.size⟩, by simp [nodesOf], by show 0 + depT t = depT t; omega⟩
    · simp
  have hadd := hid (add1 (w.heap.size + 1 + 1 + 1 + 1) (w.heap.size + 1 + 1 + 1 + 1 + 1) 1 1 (by omega) _ [] hm0 (fun W hW => new_place (hB0.below hW hB0.lt) (fun p hp => by cases hp)))
  replace hM := hid hM
  replace hO := hid hO
  replace hm0 := hid hm0
  replace hB0 := hid hB0
  clear hv
  go_enter Try.func48, Try.ntmps48
  go_wp2_with fail
  refine hadd.out.mono ?_
  rintro e w1 ⟨rfl, hm1, hg1⟩
  have hM1 := hid (hM.out.obj_ hm0.out (fun _ _ _ e => by cases e) hg1 (by omega) (by omega))
  replace hm1 := hid hm1
  clear hadd hm0 hB0 hg1 hM hsz
  generalize mW w k0 n0 s0 A0 l0 c0 = W0 at *
  go_wp2_with fail
  go_loopw [5] (fun h wr => ∃ (hb nodes depth : Nat) (Lf : List Gp) (S : List (Nat × Nat)), h = .map (some hb) ∧ MSt w W0 wr (w.heap.size + 1) (w.heap.size + 1 + 1) (w.heap.size + 1 + 1 + 1) nodes depth S ∧ IMap wr hb (Lf.map entG) ∧ w.heap.size ≤ hb ∧ w.heap.size + 1 + 1 + 1 ≠ hb ∧ OInv W0 t S Lf nodes depth) (fun _ wr => cntT t - nodesAt wr (w.heap.size + 1 + 1))
  case atStart => exact ⟨_, 0, 0, [⟨w.heap.size + 1 + 1 + 1 + 1 + 1, 1, [⟨nv k0 n0 s0 A0 l0 c0, t, lo, min hi w.heap.size⟩]⟩], [], rfl, hM1.out, hm1.out, by omega, by omega, hO.out⟩
  case round =>
    obtain ⟨hb, nodes, depth, Lf, S, rfl, hM, hm, hge, hne, hO⟩ := hrel
    clear hM1 hm1 qm
    have hcnt := hO.cnt
    have hbd1 := hbd.out
    by_cases hL : Lf = []
    · subst hL
      obtain ⟨e1, e2⟩ := hO.end_
      subst e1 e2
      have hw := hM.whole
      have x0 : wr.cell? ⟨w.heap.size + 1 + 1, 0, none⟩ = some (.int .i64 (cntT t : Nat)) := hw.cell 0
      have x1 : wr.cell? ⟨w.heap.size + 1 + 1, 1, none⟩ = some (.int .i64 (depT t : Nat)) := hw.cell 1
      have hr := hM.res
      have y0 : wr.cell? ⟨w.heap.size + 1, 0, none⟩ = some (.int .i64 0) := hr.cell 0
      have y1 : wr.cell? ⟨w.heap.size + 1, 1, none⟩ = some (.int .i64 0) := hr.cell 1
      have f0 := hr.frozen 0
      have f1 := hr.frozen 1
      have hfin := hid (((hr.set_ 0 (.int .i64 (cntT t : Nat))).set_ 1 (.int .i64 (depT t : Nat))))
      have hold := hid ((hM.old.setCell (p := ⟨w.heap.size + 1, 0, none⟩) (by show _ ≤ w.heap.size + 1; omega) (.int .i64 (cntT t : Nat))).setCell (p := ⟨w.heap.size + 1, 1, none⟩) (by show _ ≤ w.heap.size + 1; omega) (.int .i64 (depT t : Nat)))
      replace hm := hid hm
      clear hO hcnt hw hr hM hbd1
      go_wp2_with (at_len; refine wpList_len rfl _ rfl Try.underlying95 hb [] hm.out rfl ?_)
      refine bodyPost_ret (results_cell_row Try.results48 _ _ (w.heap.size + 1) 71 _ (0, 0) _ rfl hfin.out Try.underlying71 rfl (by kernel_rfl)) rfl ⟨rfl, hold.out⟩
    · have hX := hid (hO.start hL)
      have hdc := dep_cnt t
      have hLl : 0 < Lf.length := List.length_pos_iff.2 hL
      have tL : decide ((0 : Int) < (Lf.length : Int)) = true := decide_eq_true (by omega)
      have hup := hO.seen
      have hdb : depth ≤ depT t := by
        rcases hO.wit with ⟨_, e⟩ | ⟨q, _, e⟩ <;> omega
      have hlt1 := hm.lt
      have hlt2 := hM.seen.lt
      have hold := hM.old.size
      replace hM := hid hM
      replace hm := hid hm
      replace hO := hid hO
      go_wp2_with (first
        | (at_len; refine wpList_len rfl _ rfl Try.underlying95 hb (Lf.map entG) hm.out rfl ?_)
        | (at_range; refine wpList_range rfl _ rfl Try.underlying95 hb (Lf.map entG) (hm.out.alloc _) rfl ?_; intro w2 hit2 hw2))
      have hb2 : Below wr.heap.size wr w2 := by
        obtain ⟨o2, rfl⟩ := hw2
        exact (box_below wr _).trans ((box_below _ _).mono (by rw [size_alloc']; omega))
      have hbl : IMap w2 wr.heap.size (([] : List Gp).map entG) := by
        obtain ⟨o2, rfl⟩ := hw2
        exact (IMap.new wr).alloc _
      rw [size_alloc'] at hit2 ⊢
      have hM2 := hid (hM.out.below_ hb2)
      have hm2 := hid (hm.out.below hb2 hlt1)
      replace hit2 := hid hit2
      replace hbl := hid hbl
      have hbbge : w.heap.size ≤ wr.heap.size := hold
      have hne2 : w.heap.size + 1 + 1 + 1 ≠ wr.heap.size := by omega
      have hne3 : hb ≠ wr.heap.size := by omega
      clear hw2 hb2
      go_frame
      generalize wr.heap.size = bb at *
      go_loopw [7] (fun _ wr2 => ∃ (nodes' : Nat) (Lf' Bl : List Gp) (S' : List (Nat × Nat)) (left : List (Value × Value)), MSt w W0 wr2 (w.heap.size + 1) (w.heap.size + 1 + 1) (w.heap.size + 1 + 1 + 1) nodes' depth S' ∧ IMap wr2 hb (Lf.map entG) ∧ Iter wr2 (bb + 1) hb (Lf.map entG) left ∧ left.Perm (Lf'.map entG) ∧ IMap wr2 bb (Bl.map entG) ∧ XInv W0 t S' Lf' [] Bl nodes' depth ∧ nodes + Lf.length ≤ nodes' + Lf'.length) (fun _ wr2 => cntT t - nodesAt wr2 (w.heap.size + 1 + 1))
      case atStart => exact ⟨nodes, Lf, [], S, _, hM2.out, hm2.out, hit2.out, List.Perm.refl _, hbl.out, hX.out, Nat.le_refl _⟩
      case round =>
        obtain ⟨nodes', Lf', Bl, S', left, hM3, hm3, hit3, hpl, hbl3, hX3, hnn⟩ := hrel
        clear hM2 hm2 hit2 hbl hX
        have hcnt3 := hX3.cnt
        have hmore := hX3.more
        have hx0 := hM3.whole
        go_wp2_with (at_next; refine wpList_next rfl _ rfl (bb + 1) hb (Lf.map entG) left hm3 hit3 rfl ?_ ?_)
        · intro hl
          subst hl
          have hLf : Lf' = [] := by
            have := hpl.length_eq
            simp only [List.length_nil, List.length_map] at this
            exact List.eq_nil_of_length_eq_zero this.symm
          subst hLf
          have hO' := hid hX3.turn
          have hn3 := hid (nodesAt_is hM3)
          simp only [List.length_nil, Nat.add_zero] at hmore hnn
          have hM4 := hid (hM3.depth1)
          have x1 : wr.cell? ⟨w.heap.size + 1 + 1, 1, none⟩ = some (.int .i64 (depth : Nat)) := hx0.cell 1
          have f1 := hx0.frozen 1
          have hbl4 := hid (imap_set (i := 1) (u := .int .i64 ((depth : Int) + 1)) hx0 hbl3)
          have e1 : IntKind.i64.wrap ((depth : Int) + 1) = (depth : Int) + 1 := IntWalk.i64_in _ (by omega)
          have tS : decide ((S'.length : Int) < (depth : Int) + 1) = false := decide_eq_false (by omega)
          have hcn : nodes' ≤ cntT t := by omega
          clear hM3 hm3 hit3 hpl hbl3 hX3 hx0 hcnt3
          go_wp2_with (at_len; refine wpList_len rfl _ rfl Try.underlying73 (w.heap.size + 1 + 1 + 1) (S'.map skey) hM4.out.seen rfl ?_)
          exact ⟨⟨bb, nodes', depth + 1, Bl, S', rfl, hM4.out, hbl4.out, hbbge, hne2, hO'.out⟩, by rw [nodesAt_is hM4.out, nodesAt_is hM.out]; omega⟩
        · intro key v left' w3 hp3 hm4 hit4 hg4 hsz4 hen
          obtain ⟨G, Lf2, eG, hpL, hpl2⟩ := perm_map_cons (hpl.symm.trans hp3)
          obtain ⟨rfl, rfl⟩ := Prod.mk.inj eG
          clear eG hp3 hpl
          obtain ⟨snI, hsnI, _⟩ := hit3
          have hMi := hM3.obj_ hsnI (fun _ _ _ e => by cases e) hg4 (by omega) (by omega)
          have hbl4 := hbl3.gb hg4 (fun e => by have := Option.some.inj e; omega)
          have hX4 := hid (hX3.take hpL G.Ks.length)
          have hGm : G ∈ Lf' := hpL.mem_iff.2 (List.mem_cons_self)
          obtain ⟨hGne, cs, hGb, hGt⟩ := hX3.m.grp G (List.mem_append.2 (Or.inl hGm))
          have hown : ∀ p ∈ G.Ks, OwnX p.lo p.hi W0 p.v p.t := fun p hp => hX3.m.pend.own p (by simp only [List.nil_append]; exact List.mem_append.2 (Or.inl (List.mem_flatMap.2 ⟨G, hGm, hp⟩)))
          have hlen2 : Lf'.length = Lf2.length + 1 := by have := hpL.length_eq; simpa using this
          have hNpos : 0 < G.Ks.length := List.length_pos_iff.2 hGne
          have hNb : G.Ks.length ≤ 4000000 := by
            have h1 := cntQ_len G.Ks
            have h2 := hX4.out.cnt
            omega
          have hbA : Below w3.heap.size w3 ((w3.alloc (.cells #[.pointer (some ⟨G.g, 0, none⟩), .int .i64 (G.Ks.length : Nat)] 67)).alloc (.cells #[.slice (some ⟨G.g, 0, none⟩) G.Ks.length G.c, .int .i64 1] 98)) :=
            (box_below w3 _).trans ((box_below _ _).mono (by rw [size_alloc']; omega))
          have hBA := Blk.new (w3.alloc (.cells #[.pointer (some ⟨G.g, 0, none⟩), .int .i64 (G.Ks.length : Nat)] 67)) 98 [.slice (some ⟨G.g, 0, none⟩) G.Ks.length G.c, .int .i64 1]
          rw [size_alloc'] at hBA
          have hlb : w.heap.size ≤ w3.heap.size + 1 := by have := hMi.old.size; omega
          have hMA := hid (hMi.below_ hbA)
          have hmA := hid (hm4.below hbA hm4.lt)
          have hitA := hid (hit4.same (hbA.block _ hit4.lt))
          have hblA := hid (hbl4.below hbA hbl4.lt)
          replace hBA := hid hBA
          have hfr := hid (hX3.fresh (W := ((w3.alloc (.cells #[.pointer (some ⟨G.g, 0, none⟩), .int .i64 (G.Ks.length : Nat)] 67)).alloc (.cells #[.slice (some ⟨G.g, 0, none⟩) G.Ks.length G.c, .int .i64 1] 98))) hpL (fun g cs hb => hMA.out.keep.blk hb (by decide)) G.Ks.length)
          have hn3 := nodesAt_is hM3
          replace hn3 := hid hn3
          replace hGb := hid hGb
          replace hGt := hid hGt
          replace hown := hid hown
          clear hM3 hm3 hsnI hbl3 hX3 hx0 hm4 hit4 hMi hbl4 hg4 hsz4 hbA hpL hGm
          go_wp2_with (at_mapUpdate; refine wpList_upd rfl _ _ _ (Or.inr rfl) Try.underlying73 wideP (w.heap.size + 1 + 1 + 1) (S'.map skey) hMA.out.seen (pkey G.g G.Ks.length) (.bool true) hfr.out rfl rfl rfl ?_; intro w5 hm5 hg5 _; have hM5 := hid (hMA.out.seen_ (S' := S' ++ [(G.g, G.Ks.length)]) (by rw [List.map_append]; exact hm5) hg5); have hB5 := blk_obj hMA.out.seen (fun _ _ _ e => by cases e) hg5 hBA.out; have hm6 := hid (hmA.out.gb hg5 (fun e => by have := Option.some.inj e; omega)); have hit6 := hid (hitA.out.gb hg5 (fun e => by have := Option.some.inj e; omega)); have hbl6 := hid (hblA.out.gb hg5 (fun e => by have := Option.some.inj e; omega)); have z0 : w5.cell? ⟨w3.heap.size + 1, 0, none⟩ = some (.slice (some ⟨G.g, 0, none⟩) G.Ks.length G.c) := hB5.cell 0; replace hB5 := hid hB5; clear hm5 hg5)
          obtain ⟨lb, hlbe⟩ : ∃ lb, lb = w3.heap.size + 1 := ⟨_, rfl⟩
          rw [← hlbe] at hB5 hlb ⊢
          clear hMA hmA hitA hblA hfr z0 hBA hen hlbe
          go_loopw [33] (fun i wr3 => ∃ (Dn cur : List PN) (nodes2 : Nat) (Bl2 : List Gp), i = .int .i64 (Dn.length : Nat) ∧ G.Ks = Dn ++ cur ∧ MSt w W0 wr3 (w.heap.size + 1) (w.heap.size + 1 + 1) (w.heap.size + 1 + 1 + 1) nodes2 depth (S' ++ [(G.g, G.Ks.length)]) ∧ IMap wr3 hb (Lf.map entG) ∧ Iter wr3 (bb + 1) hb (Lf.map entG) left' ∧ IMap wr3 bb (Bl2.map entG) ∧
            Blk wr3 lb 98 [.slice (some ⟨G.g, 0, none⟩) G.Ks.length G.c, .int .i64 1] ∧ XInv W0 t (S' ++ [(G.g, G.Ks.length)]) Lf2 cur Bl2 nodes2 depth ∧ nodes' + Dn.length ≤ nodes2) (fun i _ => G.Ks.length - (Go.RowKit.intOf i).toNat)
          case atStart => exact ⟨[], G.Ks, nodes', Bl, rfl, rfl, hM5.out, hm6.out, hit6.out, hbl6.out, hB5.out, hX4.out, Nat.le_refl _⟩
          case round =>
            obtain ⟨Dn, cur, nodes2, Bl2, rfl, hKs, hM7, hm7, hit7, hbl7, hB7, hX7, hge7⟩ := hrel
            clear hM5 hm6 hit6 hbl6 hB5 hX4
            have hcnt7 := hX7.cnt
            have hKl : G.Ks.length = Dn.length + cur.length := by rw [hKs, List.length_append]
            by_cases hC : cur = []
            · subst hC
              simp only [List.length_nil, Nat.add_zero] at hKl
              have t0 : decide ((Dn.length : Int) < (G.Ks.length : Int)) = false := decide_eq_false (by omega)
              have hn7 := hid (nodesAt_is hM7)
              replace hM7 := hid hM7
              replace hX7 := hid hX7
              go_wp2_with fail
              exact ⟨⟨nodes2, Lf2, Bl2, _, left', hM7.out, hm7, hit7, hpl2, hbl7, hX7.out, by omega⟩, by rw [hn7.out, hn3.out]; omega⟩
            · obtain ⟨p, cur', rfl⟩ := List.exists_cons_of_ne_nil hC
              obtain ⟨k, n, s, ks, ht⟩ : ∃ k n s ks, p.t = .mk k n s ks := by cases h : p.t; exact ⟨_, _, _, _, rfl⟩
              have hp := hX7.m.pend.own p (by simp)
              rw [ht] at hp
              obtain ⟨A, c, Ks, hv, hs, hmk, hK⟩ := own_open hp
              have hl : Ks.length = ks.length := by rw [← hmk, List.length_map]
              simp only [List.length_cons] at hKl
              have t0 : decide ((Dn.length : Int) < (G.Ks.length : Int)) = true := decide_eq_true (by omega)
              have t1 : (Dn.length : Int) < (G.Ks.length : Int) := by omega
              have hGb7 := hM7.keep.blk hGb.out (by decide)
              have hcell := row_cells hGt.out hGb7
              have hDn : (cellsOf Dn).length = Dn.length * 4 := cellsOf_len (w := W0) fun q hq => hown.out q (by rw [hKs]; exact List.mem_append.2 (Or.inl hq))
              obtain ⟨c0, c1, c2, c3⟩ := cellsOf_at (P := Dn) (Q := cur') hDn hv
              rw [← hKs] at c0 c1 c2 c3
              replace c0 := hcell _ _ c0
              replace c1 := hcell _ _ c1
              replace c2 := hcell _ _ c2
              replace c3 := hcell _ _ c3
              rw [add_zero] at c0 c1 c2 c3
              have hbA := box_below wr (.cells #[.int .i64 k, .int .i64 n, sv s, .slice A ks.length c] EE)
              have hBn := box_blk wr k n s A ks.length c EE
              have hMA := hM7.below_ hbA
              have hmA := hid (hm7.below hbA hm7.lt)
              have hitA := hid (hit7.same (hbA.block _ hit7.lt))
              have hblA := hid (hbl7.below hbA hbl7.lt)
              have hB7A := hB7.below hbA hB7.lt
              have hbs : w.heap.size + 1 + 1 ≠ wr.heap.size := fun e => by have := hM7.whole.lt; omega
              have hlbne : lb ≠ w.heap.size + 1 + 1 := fun e => by
                have h1 := hM7.whole
                have h2 := hB7
                rw [e] at h2
                unfold Blk at h1 h2
                rw [h1] at h2
                injection h2 with h3; injection h3 with _ h4 _
                revert h4; decide
              have hadd := hid (addWO nodes2 (by omega) (wr.alloc (.cells #[.int .i64 k, .int .i64 n, sv s, .slice A ks.length c] EE)))
              have z0 : (wr.alloc (.cells #[.int .i64 k, .int .i64 n, sv s, .slice A ks.length c] EE)).cell? ⟨w.heap.size + 1 + 1, 0, none⟩ = some (.int .i64 (nodes2 : Nat)) := hMA.whole.cell 0
              have z1 : (wr.alloc (.cells #[.int .i64 k, .int .i64 n, sv s, .slice A ks.length c] EE)).cell? ⟨lb, 1, none⟩ = some (.int .i64 1) := hB7A.cell 1
              replace hMA := hid hMA
              replace hBn := hid hBn
              replace hB7A := hid hB7A
              clear hM7 hm7 hit7 hbl7 hB7 hcell hGb7 hDn hbA hp
              replace hX7 := hid hX7
              replace hKl := hid hKl
              replace hKs := hid hKs
              replace hK := hid hK
              go_wp2_with fail
              refine hadd.out.mono ?_
              rintro e w' ⟨rfl, rfl⟩
              generalize (wr.alloc (.cells #[.int .i64 k, .int .i64 n, sv s, .slice A ks.length c] EE)) = WA at *
              have hMB := hMA.out.nodes1
              have hwh := hMA.out.whole
              have f0 : WA.frozen? ⟨w.heap.size + 1 + 1, 0, none⟩ = false := hwh.frozen 0
              have hBnB := blk_far (i := 0) hBn.out (Ne.symm hbs) (.int .i64 ((nodes2 : Int) + 1))
              have hB7B := blk_far (i := 0) hB7A.out hlbne (.int .i64 ((nodes2 : Int) + 1))
              have p3 : (WA.setCell ⟨w.heap.size + 1 + 1, 0, none⟩ (.int .i64 ((nodes2 : Int) + 1))).cell? ⟨wr.heap.size, 3, none⟩ = some (.slice A ks.length c) := hBnB.cell 3
              have y1 : (WA.setCell ⟨w.heap.size + 1 + 1, 0, none⟩ (.int .i64 ((nodes2 : Int) + 1))).cell? ⟨lb, 1, none⟩ = some (.int .i64 1) := hB7B.cell 1
              have hmB := hid (imap_set (i := 0) (u := .int .i64 ((nodes2 : Int) + 1)) hwh hmA.out)
              have hitB := hid (iter_set (i := 0) (u := .int .i64 ((nodes2 : Int) + 1)) hwh hitA.out)
              have hblB := imap_set (i := 0) (u := .int .i64 ((nodes2 : Int) + 1)) hwh hblA.out
              replace hB7B := hid hB7B
              clear hMA hmA hitA hblA hB7A hBn hBnB hwh hadd
              by_cases h0 : ks.length = 0
              · have hks : ks = [] := List.eq_nil_of_length_eq_zero h0
                rw [h0] at p3
                have hcall := hid (add0 bb A c (WA.setCell ⟨w.heap.size + 1 + 1, 0, none⟩ (.int .i64 ((nodes2 : Int) + 1))))
                have hX8 := hid (hX7.out.leaf (by rw [ht, hks]))
                replace hMB := hid hMB
                replace hblB := hid hblB
                clear hX7
                go_wp2_with fail
                refine hcall.out.mono ?_
                rintro e w' ⟨rfl, rfl⟩
                go_wp2_with fail
                exact ⟨⟨Dn ++ [p], cur', nodes2 + 1, Bl2, by simp, by rw [hKs.out]; simp, hMB.out, hmB.out, hitB.out, hblB.out, hB7B.out, hX8.out, by simp; omega⟩, by simp [Go.RowKit.intOf]; omega⟩
              · have hKn : Ks ≠ [] := fun e => h0 (by rw [← hl, e]; rfl)
                obtain ⟨g, cs', rfl, hlo, hhi, hBk, htk, hap⟩ := hK.out.row hKn
                have hpos : 0 < ks.length := by omega
                have hcall := add1 bb g ks.length c hpos _ (Bl2.map entG) hblB (fun W hW => hX7.out.fresh2 (W := W) hBk hlo hhi (fun g cs hb => (hMB.below_ hW).keep.blk hb (by decide)) ks.length)
                have hX8 := hid (hX7.out.node ht hmk hK.out hKn hBk htk hlo hhi hap)
                replace hcall := hid hcall
                replace hMB := hid hMB
                replace hblB := hid hblB
                clear hX7 hK hBk htk hlo hhi hap h0
                go_wp2_with fail
                refine hcall.out.mono ?_
                rintro e w6 ⟨rfl, hm6', hg6'⟩
                have hM9 := hid (hMB.out.obj_ hblB.out (fun _ _ _ e => by cases e) hg6' hne2 hbbge)
                have hm9 := hid (hmB.out.gb hg6' (fun e => hne3 (Option.some.inj e)))
                have hit9 := hid (hitB.out.gb hg6' (fun e => by have := Option.some.inj e; omega))
                have hB9 := hid (blk_obj hblB.out (fun _ _ _ e => by cases e) hg6' hB7B.out)
                have hbl9 : IMap w6 bb ((Bl2 ++ [(⟨g, c, Ks⟩ : Gp)]).map entG) := by
                  rw [List.map_append]; rw [← hl] at hm6'; exact hm6'
                replace hbl9 := hid hbl9
                clear hm6' hg6'
                go_wp2_with fail
                exact ⟨⟨Dn ++ [p], cur', nodes2 + 1, _, by simp, by rw [hKs.out]; simp, hM9.out, hm9.out, hit9.out, hbl9.out, hB9.out, hX8.out, by simp; omega⟩, by simp [Go.RowKit.intOf]; omega⟩
end Go.Proofs.Ytlkfejcnkckgkaa.Tr
