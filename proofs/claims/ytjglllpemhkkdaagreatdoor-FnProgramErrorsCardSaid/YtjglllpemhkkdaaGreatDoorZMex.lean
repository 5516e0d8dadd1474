/- The program's measure of a tree. -/
import Derived.Test.YtjglllpemhkkdaaGreatDoorZSr
import Derived.Test.YtjglllpemhkkdaaGreatDoorZKd
import Derived.Maps.RangeWalk
import Derived.Test.YtjglllpemhkkdaaGreatDoorZNix
import Derived.Test.YtjglllpemhkkdaaGreatDoorZTr
set_option maxRecDepth 100000
namespace Go.Proofs.YtjglllpemhkkdaaGreatDoor.Gx
open Go.RowKit Go.Lib Go.Sort Com Mem Tr Im Ag Pl Kd

abbrev XT : TypeId := 178
structure MSt (w wr : World) (rb wb sb nodes depth : Nat) (S : List (LN T)) : Prop where
  old : Below w.heap.size w wr
  whole : Blk wr wb XT [.int .i64 nodes, .int .i64 depth]
  seen : EMap encP wr sb (kvS S)
  wbge : w.heap.size ≤ wb
  sbge : w.heap.size ≤ sb
  res : Blk wr rb XT [.int .i64 0, .int .i64 0]
  rne : rb ≠ wb
theorem blk_obj {wr w' : World} {b g : Nat} {o : Obj} {ty : TypeId} {cs : List Value} (hk : wr.heap[b]? = some o) (ho : ∀ c t f, o ≠ .cells c t f) (hg : wr.grownBy w' (some b)) (hB : Blk wr g ty cs) : Blk w' g ty cs :=
  hB.gb hg (fun e => by subst e; unfold Blk at hB; rw [hk] at hB; cases hB; exact ho _ _ _ rfl)
section
variable {w wr w' : World} {rb wb sb nodes depth : Nat} {S : List (LN T)}
theorem MSt.below_ (h : MSt w wr rb wb sb nodes depth S) (hb : Below wr.heap.size wr w') : MSt w w' rb wb sb nodes depth S :=
  ⟨h.old.trans (hb.mono h.old.size), h.whole.below hb h.whole.lt, h.seen.below hb h.seen.lt, h.wbge, h.sbge, h.res.below hb h.res.lt, h.rne⟩
theorem gb_old {a wr w' : World} {n g : Nat} (h : Below n a wr) (hg : wr.grownBy w' (some g)) (hn : n ≤ wr.heap.size) (hng : n ≤ g) : Below n a w' := h.grown hg hn (fun k hk => by cases hk; exact hng)
theorem MSt.obj_ {b : Nat} {o : Obj} (h : MSt w wr rb wb sb nodes depth S) (hk : wr.heap[b]? = some o) (ho : ∀ c t f, o ≠ .cells c t f) (hg : wr.grownBy w' (some b)) (hne : sb ≠ b) (hge : w.heap.size ≤ b) : MSt w w' rb wb sb nodes depth S :=
  ⟨gb_old h.old hg h.old.size hge, blk_obj hk ho hg h.whole, h.seen.gb hg (fun e => hne (by cases e; rfl)), h.wbge, h.sbge, blk_obj hk ho hg h.res, h.rne⟩
theorem MSt.seen_ {S' : List (LN T)} (h : MSt w wr rb wb sb nodes depth S) (hm : EMap encP w' sb (kvS S')) (hg : wr.grownBy w' (some sb)) : MSt w w' rb wb sb nodes depth S' := by
  have hs := h.seen
  exact ⟨gb_old h.old hg h.old.size h.sbge, blk_obj hs (fun _ _ _ e => by cases e) hg h.whole, hm, h.wbge, h.sbge, blk_obj hs (fun _ _ _ e => by cases e) hg h.res, h.rne⟩
theorem blk_far {wr : World} {g g' i ty : Nat} {cs : List Value} (hB : Blk wr g ty cs) (hne : g ≠ g') (u : Value) : Blk (wr.setCell ⟨g', i, none⟩ u) g ty cs := (heap_setCell_other _ _ _ _ hne).trans hB
theorem emap_set {wr : World} {g i b ty : Nat} {cs : List Value} {u : Value} {l : List (Pk × Value)} (hB : Blk wr g ty cs) (hm : EMap encP wr b l) : EMap encP (wr.setCell ⟨g, i, none⟩ u) b l :=
  IMap.same hm (heap_setCell_other _ _ _ _ (by rintro rfl; unfold Blk at hB; unfold EMap IMap at hm; rw [hB] at hm; cases hm))
theorem iter_set {wr : World} {g i b r ty : Nat} {cs : List Value} {u : Value} {kvs left : List (Value × Value)} (hB : Blk wr g ty cs) (hi : Iter wr r b kvs left) : Iter (wr.setCell ⟨g, i, none⟩ u) r b kvs left :=
  hi.same (heap_setCell_other _ _ _ _ (by rintro rfl; obtain ⟨s, h, _⟩ := hi; unfold Blk at hB; rw [hB] at h; cases h))
theorem MSt.nodes_ {nodes' : Nat} (h : MSt w wr rb wb sb nodes depth S) : MSt w (wr.setCell ⟨wb, 0, none⟩ (.int .i64 (nodes' : Nat))) rb wb sb nodes' depth S :=
  ⟨h.old.setCell (p := ⟨wb, 0, none⟩) h.wbge _, h.whole.set_ 0 _, emap_set h.whole h.seen, h.wbge, h.sbge, blk_far h.res h.rne _, h.rne⟩
theorem MSt.nodesP (m : Nat) (h : MSt w wr rb wb sb nodes depth S) : MSt w (wr.setCell ⟨wb, 0, none⟩ (.int .i64 ((nodes : Int) + (m : Int)))) rb wb sb (nodes + m) depth S := h.nodes_ (nodes' := nodes + m)
theorem MSt.depth_ {depth' : Nat} (h : MSt w wr rb wb sb nodes depth S) : MSt w (wr.setCell ⟨wb, 1, none⟩ (.int .i64 (depth' : Nat))) rb wb sb nodes depth' S :=
  ⟨h.old.setCell (p := ⟨wb, 1, none⟩) h.wbge _, h.whole.set_ 1 _, emap_set h.whole h.seen, h.wbge, h.sbge, blk_far h.res h.rne _, h.rne⟩
theorem MSt.depth1 (h : MSt w wr rb wb sb nodes depth S) : MSt w (wr.setCell ⟨wb, 1, none⟩ (.int .i64 ((depth : Int) + 1))) rb wb sb nodes (depth + 1) S := h.depth_ (depth' := depth + 1)
end
def nodesAt (wr : World) (wb : Nat) : Nat := match wr.cell? ⟨wb, 0, none⟩ with
  | some v => (Go.RowKit.intOf v).toNat
  | none => 0
theorem nodesAt_is {w wr : World} {rb wb sb nodes depth : Nat} {S : List (LN T)} (h : MSt w wr rb wb sb nodes depth S) : nodesAt wr wb = nodes := by
  unfold nodesAt
  have := h.whole.cell 0
  rw [show ([Value.int .i64 nodes, Value.int .i64 depth] : List Value)[0]? = some (.int .i64 nodes) from rfl] at this
  rw [this]; simp [Go.RowKit.intOf]
abbrev mW (w : World) : World := ((((w.alloc (.cells #[.int .i64 0, .int .i64 0] XT)).alloc (.cells #[.int .i64 0, .int .i64 0] XT)).alloc (.map #[] 0)).alloc (.map #[] 0))
theorem mstart (w : World) : MSt w (mW w) w.heap.size (w.heap.size + 1) (w.heap.size + 1 + 1) 0 0 [] ∧ EMap encP (mW w) (w.heap.size + 1 + 1 + 1) (kvH ([] : He T)) ∧ (mW w).heap.size = w.heap.size + 1 + 1 + 1 + 1 := by
  let o2 : Obj := .cells #[.int .i64 0, .int .i64 0] XT
  have s2 := size_alloc' w o2
  have s3 := size_alloc' (w.alloc o2) o2
  have s4 := size_alloc' ((w.alloc o2).alloc o2) (.map #[] 0)
  have s5 := size_alloc' (((w.alloc o2).alloc o2).alloc (.map #[] 0)) (.map #[] 0)
  have b : Below w.heap.size w (mW w) := ((((Below.refl _ _).alloc (Nat.le_refl _) o2).alloc (by omega) o2).alloc (by omega) _).alloc (by omega) _
  have r1 := Blk.new w XT [.int .i64 0, .int .i64 0]
  have r2 := Blk.new (w.alloc o2) XT [.int .i64 0, .int .i64 0]
  have m1 := EMap.new (enc := encP) ((w.alloc o2).alloc o2)
  have m2 := EMap.new (enc := encP) (((w.alloc o2).alloc o2).alloc (.map #[] 0))
  rw [s2] at r2 s3
  rw [s3] at m1 s4
  rw [s4] at m2 s5
  exact ⟨⟨b, ((r2.alloc _).alloc _), m1.alloc _, by omega, by omega, (((r1.alloc _).alloc _).alloc _), by omega⟩, m2, s5⟩
abbrev entH (p : LN T × Nat) : Value × Value := (encP p.1.key, .agg #[slv p.1, .int .i64 (p.2 : Nat)])
theorem kvE_H (h : He T) : kvE encP (kvH h) = h.map entH := by
  unfold kvE kvH
  rw [List.map_map]; rfl
theorem perm_map_cons {α β : Type} {f : α → β} {L : List α} {y : β} {l : List β} (h : (L.map f).Perm (y :: l)) : ∃ G L', f G = y ∧ L.Perm (G :: L') ∧ l.Perm (L'.map f) := by
  obtain ⟨G, hG, e⟩ := List.mem_map.1 (h.mem_iff.2 (List.mem_cons_self))
  obtain ⟨s, t, rfl⟩ := List.append_of_mem hG
  have hp : (s ++ G :: t).Perm (G :: (s ++ t)) := List.perm_middle
  refine ⟨G, s ++ t, e, hp, ?_⟩
  have h2 := (hp.map f).symm.trans h
  rw [List.map_cons, e] at h2
  exact (h2.cons_inv).symm
abbrev PW (w : World) : LN T → Prop := LA (pln w) w.heap.size
abbrev ZXw (w : World) := ZX kdX (PW w)
theorem pt_go {w wr : World} {l : LN T} (h : PW w l) (hb : Below w.heap.size w wr) : PtOk wr l.key.1 := PtOk_go (la_pt h) hb
theorem kvS_pt {w wr : World} {S : List (LN T)} (h : ∀ q ∈ S, PW w q) (hb : Below w.heap.size w wr) : ∀ p ∈ kvS S, PtOk wr p.1.1 := fun p hp => by
  obtain ⟨q, hq, rfl⟩ := List.mem_map.1 hp
  exact pt_go (h q hq) hb
section
variable {w : World} {N Dp nodes depth m : Nat} {S : List (LN T)} {Lf Bl : He T} {cur l : List T} {ls : List (List T)} {t : T}
theorem ZX_m (h : ZXw w N Dp nodes depth S Lf m (t :: cur) ls Bl) : nodes + m ≤ N := by
  have h1 := h.cnt
  have h2 := (kdX).cnt_pos t
  rw [Kd.cntL_cons, Nat.mul_add] at h1
  have h3 : m * 1 ≤ m * (kdX).cnt t := Nat.mul_le_mul_left _ h2
  omega
theorem ZX_add (h : ZXw w N Dp nodes depth S Lf m cur (l :: ls) Bl) (hne : l ≠ []) (k : Pk) : getE Bl k + m ≤ N := by
  have h1 := h.cnt
  have h2 := (kdX).cntL_pos hne
  have h3 := getE_le (K := kdX) k fun p hp => (h.neB p hp).1
  rw [Kd.cntLL_cons, Nat.mul_add] at h1
  have h4 : m * 1 ≤ m * (kdX).cntL l := Nat.mul_le_mul_left _ h2
  omega
end

end Go.Proofs.YtjglllpemhkkdaaGreatDoor.Gx

/- The program's counts of expressions, by what the walks of trees promise. -/
set_option maxRecDepth 100000
namespace Go.Proofs.YtjglllpemhkkdaaGreatDoor.Tr
open Go.RowKit Go.Lib Go.Sort Com Mem YtjglllpemhkkdaaGreatDoor.Os Pl Kd Gx

theorem two_box (w : World) (k n : Int) (s : List UInt8) (A : Option Addr) (l c : Nat) (t : T) (h : Ex (pln w) w.heap.size (nv k n s A l c) t) :
    Below w.heap.size w ((w.alloc (.cells #[.int .i64 k, .int .i64 n, sv s, .slice A l c] 29)).alloc (.cells #[.int .i64 k, .int .i64 n, sv s, .slice A l c] 29)) ∧
    LA (pln ((w.alloc (.cells #[.int .i64 k, .int .i64 n, sv s, .slice A l c] 29)).alloc (.cells #[.int .i64 k, .int .i64 n, sv s, .slice A l c] 29))) ((w.alloc (.cells #[.int .i64 k, .int .i64 n, sv s, .slice A l c] 29)).alloc (.cells #[.int .i64 k, .int .i64 n, sv s, .slice A l c] 29)).heap.size ⟨some ⟨w.heap.size + 1, 0, none⟩, 1, [t]⟩ := by
  have b1 := box_below w (.cells #[.int .i64 k, .int .i64 n, sv s, .slice A l c] 29)
  have b2 := b1.trans ((box_below _ (.cells #[.int .i64 k, .int .i64 n, sv s, .slice A l c] 29)).mono b1.size)
  have hB := Blk.new (w.alloc (.cells #[.int .i64 k, .int .i64 n, sv s, .slice A l c] 29)) 29 [.int .i64 k, .int .i64 n, sv s, .slice A l c]
  rw [size_alloc'] at hB
  exact ⟨b2, la_one hB (ex_go h b2)⟩
theorem cntL_one (t : T) : kdX.cntL [t] = cntT t := by simp [Kd.cntL]; rfl
end Go.Proofs.YtjglllpemhkkdaaGreatDoor.Tr
