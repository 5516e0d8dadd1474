/- The program's measure of a tree. -/
import Derived.Test.YtjglllpemhkkdaaGreatDoorZPss
import Derived.Test.YtjglllpemhkkdaaGreatDoorZKs
import Derived.Maps.RangeWalk
import Derived.Test.YtjglllpemhkkdaaGreatDoorZNix
import Derived.Test.YtjglllpemhkkdaaGreatDoorZE8
set_option maxRecDepth 100000
namespace Go.Proofs.YtjglllpemhkkdaaGreatDoor.Gs
open Go.RowKit Go.Lib Go.Sort Com Mem Tr Im Ag Pl Kd

abbrev XT : TypeId := 178
structure MSt (w wr : World) (rb wb sb nodes depth : Nat) (S : List (LN Gd.St)) : Prop where
  old : Below w.heap.size w wr
  whole : Blk wr wb XT [.int .i64 nodes, .int .i64 depth]
  seen : EMap encP wr sb (kvS S)
  wbge : w.heap.size ≤ wb
  sbge : w.heap.size ≤ sb
  res : Blk wr rb XT [.int .i64 0, .int .i64 0]
  rne : rb ≠ wb
theorem blk_obj {wr w' : World} {b g : Nat} {o : Obj} {ty : TypeId} {cs : List Value} (hk : wr.heap[b]? = some o) (ho : ∀ c t f, o ≠ .cells c t f) (hg : wr.grownBy w' (some b)) (hB : Blk wr g ty cs) : Blk w' g ty cs :=
  hB.gb hg (fun e => by subst e; unfold Blk at hB; rw [hk] at hB; cases hB; exact ho _ _ _ rfl)
section
variable {w wr w' : World} {rb wb sb nodes depth : Nat} {S : List (LN Gd.St)}
theorem MSt.below_ (h : MSt w wr rb wb sb nodes depth S) (hb : Below wr.heap.size wr w') : MSt w w' rb wb sb nodes depth S :=
  ⟨h.old.trans (hb.mono h.old.size), h.whole.below hb h.whole.lt, h.seen.below hb h.seen.lt, h.wbge, h.sbge, h.res.below hb h.res.lt, h.rne⟩
theorem gb_old {a wr w' : World} {n g : Nat} (h : Below n a wr) (hg : wr.grownBy w' (some g)) (hn : n ≤ wr.heap.size) (hng : n ≤ g) : Below n a w' := h.grown hg hn (fun k hk => by cases hk; exact hng)
theorem MSt.obj_ {b : Nat} {o : Obj} (h : MSt w wr rb wb sb nodes depth S) (hk : wr.heap[b]? = some o) (ho : ∀ c t f, o ≠ .cells c t f) (hg : wr.grownBy w' (some b)) (hne : sb ≠ b) (hge : w.heap.size ≤ b) : MSt w w' rb wb sb nodes depth S :=
  ⟨gb_old h.old hg h.old.size hge, blk_obj hk ho hg h.whole, h.seen.gb hg (fun e => hne (by cases e; rfl)), h.wbge, h.sbge, blk_obj hk ho hg h.res, h.rne⟩
theorem MSt.seen_ {S' : List (LN Gd.St)} (h : MSt w wr rb wb sb nodes depth S) (hm : EMap encP w' sb (kvS S')) (hg : wr.grownBy w' (some sb)) : MSt w w' rb wb sb nodes depth S' := by
  have hs := h.seen
  exact ⟨gb_old h.old hg h.old.size h.sbge, blk_obj hs (fun _ _ _ e => by cases e) hg h.whole, hm, h.wbge, h.sbge, blk_obj hs (fun _ _ _ e => by cases e) hg h.res, h.rne⟩
theorem blk_far {wr : World} {g g' i ty : Nat} {cs : List Value} (hB : Blk wr g ty cs) (hne : g ≠ g') (u : Value) : Blk (wr.setCell ⟨g', i, none⟩ u) g ty cs := (heap_setCell_other _ _ _ _ hne).trans hB
theorem emap_set {wr : World} {g i b ty : Nat} {cs : List Value} {u : Value} {l : List (Pk × Value)} (hB : Blk wr g ty cs) (hm : EMap encP wr b l) : EMap encP (wr.setCell ⟨g, i, none⟩ u) b l :=
  IMap.same hm (heap_setCell_other _ _ _ _ (by rintro rfl; unfold Blk at hB; unfold EMap IMap at hm; rw [hB] at hm; cases hm))
theorem iter_set {wr : World} {g i b r ty : Nat} {cs : List Value} {u : Value} {kvs left : List (Value × Value)} (hB : Blk wr g ty cs) (hi : Iter wr r b kvs left) : Iter (wr.setCell ⟨g, i, none⟩ u) r b kvs left :=
  hi.same (heap_setCell_other _ _ _ _ (by rintro rfl; obtain ⟨s, h, _⟩ := hi; unfold Blk at hB; rw [hB] at h; cases h))
theorem MSt.nodes_ {nodes' : Nat} (h : MSt w wr rb wb sb nodes depth S) : MSt w (wr.setCell ⟨wb, 0, none⟩ (.int .i64 (nodes' : Nat))) rb wb sb nodes' depth S :=
  ⟨h.old.setCell (p := ⟨wb, 0, none⟩) h.wbge _, h.whole.set_ 0 _, emap_set h.whole h.seen, h.wbge, h.sbge, blk_far h.res h.rne _, h.rne⟩
theorem MSt.nodesP (m : Nat) (h : MSt w wr rb wb sb nodes depth S) : MSt w (wr.setCell ⟨wb, 0, none⟩ (.int .i64 ((nodes : Int) + (m : Int)))) rb wb sb (nodes + m) depth S := h.nodes_ (nodes' := nodes + m)
theorem MSt.depth_ {depth' : Nat} (h : MSt w wr rb wb sb nodes depth S) : MSt w (wr.setCell ⟨wb, 1, none⟩ (.int .i64 (depth' : Nat))) rb wb sb nodes depth' S :=
  ⟨h.old.setCell (p := ⟨wb, 1, none⟩) h.wbge _, h.whole.set_ 1 _, emap_set h.whole h.seen, h.wbge, h.sbge, blk_far h.res h.rne _, h.rne⟩
theorem MSt.depth1 (h : MSt w wr rb wb sb nodes depth S) : MSt w (wr.setCell ⟨wb, 1, none⟩ (.int .i64 ((depth : Int) + 1))) rb wb sb nodes (depth + 1) S := h.depth_ (depth' := depth + 1)
end
def nodesAt (wr : World) (wb : Nat) : Nat := match wr.cell? ⟨wb, 0, none⟩ with
  | some v => (Go.RowKit.intOf v).toNat
  | none => 0
theorem nodesAt_is {w wr : World} {rb wb sb nodes depth : Nat} {S : List (LN Gd.St)} (h : MSt w wr rb wb sb nodes depth S) : nodesAt wr wb = nodes := by
  unfold nodesAt
  have := h.whole.cell 0
  rw [show ([Value.int .i64 nodes, Value.int .i64 depth] : List Value)[0]? = some (.int .i64 nodes) from rfl] at this
  rw [this]; simp [Go.RowKit.intOf]
abbrev mW (w : World) : World := ((((w.alloc (.cells #[.int .i64 0, .int .i64 0] XT)).alloc (.cells #[.int .i64 0, .int .i64 0] XT)).alloc (.map #[] 0)).alloc (.map #[] 0))
theorem mstart (w : World) : MSt w (mW w) w.heap.size (w.heap.size + 1) (w.heap.size + 1 + 1) 0 0 [] ∧ EMap encP (mW w) (w.heap.size + 1 + 1 + 1) (kvH ([] : He Gd.St)) ∧ (mW w).heap.size = w.heap.size + 1 + 1 + 1 + 1 := by
  let o2 : Obj := .cells #[.int .i64 0, .int .i64 0] XT
  have s2 := size_alloc' w o2
  have s3 := size_alloc' (w.alloc o2) o2
  have s4 := size_alloc' ((w.alloc o2).alloc o2) (.map #[] 0)
  have s5 := size_alloc' (((w.alloc o2).alloc o2).alloc (.map #[] 0)) (.map #[] 0)
  have b : Below w.heap.size w (mW w) := ((((Below.refl _ _).alloc (Nat.le_refl _) o2).alloc (by omega) o2).alloc (by omega) _).alloc (by omega) _
  have r1 := Blk.new w XT [.int .i64 0, .int .i64 0]
  have r2 := Blk.new (w.alloc o2) XT [.int .i64 0, .int .i64 0]
  have m1 := EMap.new (enc := encP) ((w.alloc o2).alloc o2)
  have m2 := EMap.new (enc := encP) (((w.alloc o2).alloc o2).alloc (.map #[] 0))
  rw [s2] at r2 s3
  rw [s3] at m1 s4
  rw [s4] at m2 s5
  exact ⟨⟨b, ((r2.alloc _).alloc _), m1.alloc _, by omega, by omega, (((r1.alloc _).alloc _).alloc _), by omega⟩, m2, s5⟩
abbrev entH (p : LN Gd.St × Nat) : Value × Value := (encP p.1.key, .agg #[slv p.1, .int .i64 (p.2 : Nat)])
theorem kvE_H (h : He Gd.St) : kvE encP (kvH h) = h.map entH := by
  unfold kvE kvH
  rw [List.map_map]; rfl
theorem perm_map_cons {α β : Type} {f : α → β} {L : List α} {y : β} {l : List β} (h : (L.map f).Perm (y :: l)) : ∃ G L', f G = y ∧ L.Perm (G :: L') ∧ l.Perm (L'.map f) := by
  obtain ⟨G, hG, e⟩ := List.mem_map.1 (h.mem_iff.2 (List.mem_cons_self))
  obtain ⟨s, t, rfl⟩ := List.append_of_mem hG
  have hp : (s ++ G :: t).Perm (G :: (s ++ t)) := List.perm_middle
  refine ⟨G, s ++ t, e, hp, ?_⟩
  have h2 := (hp.map f).symm.trans h
  rw [List.map_cons, e] at h2
  exact (h2.cons_inv).symm
abbrev PW (w : World) : LN Gd.St → Prop := LA (pln w) w.heap.size
abbrev ZXw (w : World) := ZX kdS (PW w)
theorem pt_go {w wr : World} {l : LN Gd.St} (h : PW w l) (hb : Below w.heap.size w wr) : PtOk wr l.key.1 := PtOk_go (la_pt h) hb
theorem kvS_pt {w wr : World} {S : List (LN Gd.St)} (h : ∀ q ∈ S, PW w q) (hb : Below w.heap.size w wr) : ∀ p ∈ kvS S, PtOk wr p.1.1 := fun p hp => by
  obtain ⟨q, hq, rfl⟩ := List.mem_map.1 hp
  exact pt_go (h q hq) hb
section
variable {w : World} {N Dp nodes depth m : Nat} {S : List (LN Gd.St)} {Lf Bl : He Gd.St} {cur l : List Gd.St} {ls : List (List Gd.St)} {t : Gd.St}
theorem ZX_m (h : ZXw w N Dp nodes depth S Lf m (t :: cur) ls Bl) : nodes + m ≤ N := by
  have h1 := h.cnt
  have h2 := (kdS).cnt_pos t
  rw [Kd.cntL_cons, Nat.mul_add] at h1
  have h3 : m * 1 ≤ m * (kdS).cnt t := Nat.mul_le_mul_left _ h2
  omega
theorem ZX_add (h : ZXw w N Dp nodes depth S Lf m cur (l :: ls) Bl) (hne : l ≠ []) (k : Pk) : getE Bl k + m ≤ N := by
  have h1 := h.cnt
  have h2 := (kdS).cntL_pos hne
  have h3 := getE_le (K := kdS) k fun p hp => (h.neB p hp).1
  rw [Kd.cntLL_cons, Nat.mul_add] at h1
  have h4 : m * 1 ≤ m * (kdS).cntL l := Nat.mul_le_mul_left _ h2
  omega
end

end Go.Proofs.YtjglllpemhkkdaaGreatDoor.Gs

/- The program's counts of statements. -/
set_option maxRecDepth 100000
namespace Go.Proofs.YtjglllpemhkkdaaGreatDoor.Gd
open Go.RowKit Go.Lib Go.Sort Com Mem YtjglllpemhkkdaaGreatDoor.Os Tr Pl Kd Gs

theorem own_rdp {e lo hi : Nat} {w : World} {v : Value} {xs : List Value} (h : Own e lo hi w v xs) : ∃ A c, v = .slice A xs.length c ∧ Rd (pln w) w.heap.size A xs ∧ xs.length ≤ maxI ∧ xs.length ≤ c := by
  obtain ⟨A, c, cs, ev, h1, h2, h3, h4, h5⟩ := h
  refine ⟨A, c, ev, fun hne => ?_, by unfold maxLen at h2; unfold maxI; omega, h1⟩
  cases A with
  | none => exact absurd (h3 rfl).1 hne
  | some ad =>
    obtain ⟨e1, _, _, hB⟩ := h4 ad rfl
    rw [e1]
    refine ⟨_, rfl, hB.lt, fun j u hu => ?_⟩
    rw [pln_in (by rw [add_block]; exact Blk.pl hB), add_zero, hB.cell]
    rw [← h5, List.getElem?_take] at hu
    split at hu
    · exact hu
    · cases hu
theorem own_plnD {w : World} {R : Nat → Prop} {cs : List Value} {ds : List D} (h : OwnD w R cs ds) : Rd8 (pln w) w.heap.size cs ds := by
  induction h with
  | nil => exact .nil
  | i _ ih => exact .i ih
  | b _ ih => exact .b ih
  | s h _ ih => exact .s h ih
  | x h h1 h2 _ ih => exact .x (own_pln h) ih
  | ss h hs h1 h2 _ ih =>
    obtain ⟨A, c, rfl, hr, hl⟩ := own_rdp h
    rw [List.length_map] at *
    exact .ss hr hs hl ih
  | is h h1 h2 _ ih =>
    obtain ⟨A, c, rfl, hr, hl⟩ := own_rdp h
    rw [List.length_map] at *
    exact .is hr hl ih
  | sl rows Rs hl hc h0 hA hk hR' hd h2 r ihk ih =>
    rename_i R1 R2 n A c l cs1 ds1
    refine .sl rows ⟨by unfold maxLen at hc; unfold maxI; omega, hl⟩ (fun j hj => ?_) ihk ih
    cases A with
    | none => have := h0 rfl; omega
    | some ad =>
      obtain ⟨g, cs0, e1, h3, h4, h5, h6, h7⟩ := hA ad rfl
      subst e1
      refine ⟨(h6 j hj).1, _, rfl, h5.lt, fun i u hu => ?_⟩
      rw [pln_in (by rw [add_block, add_block]; exact Blk.pl h5)]
      exact blk_ldN h5 h6 hj i u hu
theorem la_row {W : World} {B : Nat} {A : Option Addr} {c : Nat} {L : List St} {rows : Nat → List Value} (h : Row W B 1 A (dl L) rows) (hl : L.length ≤ maxI) : LA W B ⟨A, c, L⟩ := by
  refine ⟨rows, fun j hj => ?_, fun j t ht => ?_, hl⟩
  · obtain ⟨hw, ad, ea, hB, hld⟩ := h.cell j (by simpa [dl] using hj)
    exact ⟨ad, ea, hB, hw, hld⟩
  · have ht : L[j]? = some t := ht
    exact h.kid j _ (by simp [dl, ht])
theorem own_la {lo hi : Nat} {w : World} {v : Value} {L : List St} (h : OwnL lo hi w v L) : ∃ A c, v = .slice A L.length c ∧ LA (pln w) w.heap.size ⟨A, c, L⟩ := by
  obtain ⟨A, c, r, rows, e, hk, hl, _⟩ := (own_plnD h).sl_
  injection e with e _
  rw [dl_len] at *
  exact ⟨A, c, e, la_row hk hl⟩
end Go.Proofs.YtjglllpemhkkdaaGreatDoor.Gd
