/- The program's list of a tree's nodes. -/
import Derived.Test.YtklcbagddijkgaaGreatDoorZPss
import Derived.Test.YtklcbagddijkgaaGreatDoorZKs
import Derived.Test.YtklcbagddijkgaaGreatDoorZCom
import Derived.Maps.OwnOps
import Derived.OwnWalk
import Derived.Test.YtklcbagddijkgaaGreatDoorZHds
import Derived.Deep.QuietTactic
import Derived.StillTailTactics
import Derived.Test.YtklcbagddijkgaaGreatDoorZMes
set_option maxRecDepth 100000
namespace Go.Proofs.YtklcbagddijkgaaGreatDoor.Gs
open Go.RowKit Go.Lib Go.Sort Go.Proofs.YtklcbagddijkgaaGreatDoor.Com Go.Proofs.YtklcbagddijkgaaGreatDoor.Mem Go.Proofs.YtklcbagddijkgaaGreatDoor.Tr Go.Proofs.YtklcbagddijkgaaGreatDoor.Im Go.Proofs.YtklcbagddijkgaaGreatDoor.Ag Go.Proofs.YtklcbagddijkgaaGreatDoor.Pl Go.Proofs.YtklcbagddijkgaaGreatDoor.Kd Go.Proofs.YtklcbagddijkgaaGreatDoor.Ow

theorem addr0 (g j : Nat) : (⟨g, 0, none⟩ : Addr).add j = ⟨g, j, none⟩ := by unfold Addr.add; split <;> simp_all
theorem row_obj {w : World} {base e size n : Nat} {v : Value} {xs : List Value} (h : w.ownsRow base e size v n xs) {g : Nat} (hg : v.ownBlock = some g) : base ≤ g ∧ ∃ cur, w.heap[g]? = some (.cells cur e (0, 0)) := by
  rcases h.2 with ⟨rfl, _⟩ | ⟨g', c, cur, rfl, hb, hh, _⟩
  · cases hg
  · cases hg; exact ⟨hb, cur, hh⟩
theorem row_form {w : World} {base e size n : Nat} {v : Value} {xs : List Value} (h : w.ownsRow base e size v n xs) : ∃ A c, v = .slice A n c := by
  rcases h.2 with ⟨rfl, rfl⟩ | ⟨g, c, cur, rfl, _⟩
  · exact ⟨_, _, rfl⟩
  · exact ⟨_, _, rfl⟩
theorem row_lt {w : World} {base e size n : Nat} {v : Value} {xs : List Value} (h : w.ownsRow base e size v n xs) {g : Nat} (hg : v.ownBlock = some g) : g < w.heap.size := by
  obtain ⟨_, c, e⟩ := row_obj h hg
  rcases Nat.lt_or_ge g w.heap.size with h1 | h1
  · exact h1
  · rw [Array.getElem?_eq_none h1] at e; cases e
/-- where the row lies -/
theorem row_some {w : World} {base e size n : Nat} {v : Value} {xs : List Value} (h : w.ownsRow base e size v n xs) (hn : 0 < n) : ∃ g c, v = .slice (some ⟨g, 0, none⟩) n c ∧ ∀ j u, xs[j]? = some u → w.cell? ⟨g, j, none⟩ = some u := by
  rcases h.2 with ⟨_, h0⟩ | ⟨g, c, cur, rfl, hb, hh, _⟩
  · omega
  · refine ⟨g, c, rfl, fun j u hj => ?_⟩
    have := h.cells (g := g) rfl j u hj
    rw [addr0] at this; exact this
/-- two rows of other types are two -/
theorem rows_ne {w : World} {base base' e e' size size' n n' : Nat} {v v' : Value} {xs xs' : List Value} (h : w.ownsRow base e size v n xs) (h' : w.ownsRow base' e' size' v' n' xs') (hne : e ≠ e') : v.ownBlock = none ∨ v.ownBlock ≠ v'.ownBlock := by
  cases hb : v.ownBlock with
  | none => exact Or.inl rfl
  | some g =>
    refine Or.inr fun e => ?_
    obtain ⟨_, c1, h1⟩ := row_obj h hb
    obtain ⟨_, c2, h2⟩ := row_obj h' e.symm
    rw [h1] at h2
    injection h2 with h3; injection h3 with _ h4
    exact hne h4
theorem row_map {w : World} {base e size n b : Nat} {v : Value} {xs : List Value} {l : List (Pk × Value)} (h : w.ownsRow base e size v n xs) (hm : EMap encP w b l) : v.ownBlock ≠ some b := fun hb => by
  obtain ⟨_, c1, h1⟩ := row_obj h hb
  unfold EMap IMap at hm
  rw [hm] at h1; cases h1
/-- append of one struct to a row of such -/
theorem append_node {P : Program} {t e by_ d : Nat} {z : Value} (hu : P.underlying t = some (.slice e)) (hi : (P.info? e).map (fun i => (i.zero, i.size, i.bytes)) = some (some z, d, by_)) (hzc : z.cells.size = d) (hd : 0 < d) (hby : by_ ≤ 1000)
    {w : World} {v : Value} {base n : Nat} {xs : List Value} (h : w.ownsRow base e d v n xs) (hbs : base ≤ w.heap.size) (new : List Value) (hn : new.length = d) (hone : ∀ u ∈ new, u.oneCell' = true) (hl : n < 1000000000) {o : Oper} {a : Act} {ops : Array Oper} {rest : List Oper} {Q : Exit → Act → World → Prop} (hgd : o.guard = none) (s x : Operand)
    (ho : o.op = .call { callee := .builtin .append, args := #[s, x], argTypes := #[t, t] }) (hs : a.eval s = v) (g : Nat) (hg : g = w.heap.size) (hx : a.eval x = .slice (some ⟨g, 0, none⟩) 1 1)
    (hK : ∀ v' w', w'.ownsRow base e d v' (n + 1) (xs ++ new) → w.grownBy w' v.ownBlock → wpList P ops Q rest (a.put o.dst v') w') :
    wpList P ops Q (o :: rest) a (w.alloc (.cells new.toArray e)) := by
  subst hg
  obtain ⟨i0, hi0, hz0, hz1, hz2⟩ := info_parts hi
  have hm : (n + 1) * by_ ≤ (n + 1) * 1000 := Nat.mul_le_mul_left _ hby
  refine wpList_append_own (P := P) _ hgd s x t ho base e i0 z d by_ hu hi0 hz0 hz1 hz2 hzc hd v n xs hs (h.alloc _) ⟨w.heap.size, 0, none⟩ 1 1 new hx (by omega) (fun j u hj => ?_) hone (by unfold maxLen; omega) (by omega) (by rw [size_alloc']; omega) ?_
  · rw [addr0, (Blk.new w e new).cell]; exact hj
  intro v' w' hown hg2 _
  exact hK v' w' hown (gb_trans (World.grownBy_alloc w _ _) hg2)

/-- a node that was read: its cells, and the tree -/
abbrev NR := List Value × Gd.St
def qcs (Q : List NR) : List Value := Q.flatMap Prod.fst
def QOk (w : World) (Q : List NR) : Prop := ∀ q ∈ Q, RdN (pln w) w.heap.size q.1 q.2 ∧ q.1.length = 8
abbrev RT2 : TypeId := 37
/-- the two rows that grow, and the map -/
structure NSt (w wr : World) (a b : Value) (mb n : Nat) (cs : List Value) (Ln E : List (LN Gd.St)) : Prop where
  nodes : wr.ownsRow w.heap.size 79 8 a n cs
  lists : Grow RT2 w wr b (Ln.map slv)
  map : EMap encP wr mb (kvS E)
  mbge : w.heap.size ≤ mb
section
variable {w wr w' : World} {a b : Value} {mb n : Nat} {cs : List Value} {Ln E : List (LN Gd.St)}
theorem NSt.old (h : NSt w wr a b mb n cs Ln E) : Below w.heap.size w wr := h.lists.2
theorem NSt.below_ (h : NSt w wr a b mb n cs Ln E) (hb : Below wr.heap.size wr w') : NSt w w' a b mb n cs Ln E :=
  ⟨h.nodes.kept (row := none) ⟨hb.os, hb.tape, hb.output, hb.size, fun k hk _ => hb.block k hk⟩ (by cases a.ownBlock <;> simp), h.lists.below hb (Nat.le_refl _), h.map.below hb h.map.lt, h.mbge⟩
theorem NSt.node_ {a' : Value} {n' : Nat} {cs' : List Value} (h : NSt w wr a b mb n cs Ln E) (hr : w'.ownsRow w.heap.size 79 8 a' n' cs') (hg : wr.grownBy w' a.ownBlock) : NSt w w' a' b mb n' cs' Ln E := by
  refine ⟨hr, ⟨h.lists.1.kept hg (rows_ne h.lists.1 h.nodes (by decide)), ?_⟩, h.map.gb hg (fun e => row_map h.nodes h.map e.symm), h.mbge⟩
  exact h.lists.2.grown hg h.lists.2.size fun k hk => (row_obj h.nodes hk).1
theorem NSt.list_ {b' : Value} {Ln' : List (LN Gd.St)} (h : NSt w wr a b mb n cs Ln E) (hr : Grow RT2 w w' b' (Ln'.map slv)) (hg : wr.grownBy w' b.ownBlock) : NSt w w' a b' mb n cs Ln' E :=
  ⟨h.nodes.kept hg (rows_ne h.nodes h.lists.1 (by decide)), hr, h.map.gb hg (fun e => row_map h.lists.1 h.map e.symm), h.mbge⟩
theorem NSt.cell {g N c j : Nat} {u : Value} (h : NSt w wr a (.slice (some ⟨g, 0, none⟩) N c) mb n cs Ln E) (hj : (Ln.map slv)[j]? = some u) : wr.cell? ⟨g, j, none⟩ = some u := by
  have := h.lists.1.cells (g := g) rfl j u hj
  rw [addr0] at this; exact this
theorem NSt.map_ {E' : List (LN Gd.St)} (h : NSt w wr a b mb n cs Ln E) (hm : EMap encP w' mb (kvS E')) (hg : wr.grownBy w' (some mb)) : NSt w w' a b mb n cs Ln E' :=
  ⟨h.nodes.kept hg (Or.inr (row_map h.nodes h.map)), h.lists.gb hg (row_map h.lists.1 h.map) h.mbge, hm, h.mbge⟩
end
theorem kvS_ptN {w wr : World} {S : List (LN Gd.St)} (h : ∀ q ∈ S, LA (pln w) w.heap.size q) (hb : Below w.heap.size w wr) : ∀ p ∈ kvS S, PtOk wr p.1.1 := fun p hp => by
  obtain ⟨q, hq, rfl⟩ := List.mem_map.1 hp
  exact PtOk_go (la_pt (h q hq)) hb
theorem putS_fresh {τ : Type} {S : List (LN τ)} {l : LN τ} (h : (S.any fun q => decide (q.key = l.key)) = false) : putS S l = S ++ [l] := by
  induction S with
  | nil => rfl
  | cons a r ih =>
    simp only [List.any_cons, Bool.or_eq_false_iff, decide_eq_false_iff_not] at h
    unfold putS
    rw [if_neg h.1, ih h.2]; rfl
theorem any_wit {τ : Type} {S : List (LN τ)} {l : LN τ} (h : (S.any fun q => decide (q.key = l.key)) = true) : ∃ e ∈ S, e.key = l.key := by
  obtain ⟨e, he, h⟩ := List.any_eq_true.1 h
  exact ⟨e, he, of_decide_eq_true h⟩
theorem zeroB (w : World) : (zeroValue 4).run Tryz.prog w = .ok (.bool false) w := by kernel_rfl

end Go.Proofs.YtklcbagddijkgaaGreatDoor.Gs

/- Two trees compared by the program. -/
set_option maxRecDepth 100000
namespace Go.Proofs.YtklcbagddijkgaaGreatDoor.Gs
open Go.RowKit Go.Lib Go.Sort Go.Proofs.YtklcbagddijkgaaGreatDoor.Com Go.Proofs.YtklcbagddijkgaaGreatDoor.Mem Go.Proofs.YtklcbagddijkgaaGreatDoor.Tr Go.Proofs.YtklcbagddijkgaaGreatDoor.Im Go.Proofs.YtklcbagddijkgaaGreatDoor.Ag Go.Proofs.YtklcbagddijkgaaGreatDoor.Pl Go.Proofs.YtklcbagddijkgaaGreatDoor.Kd Go.Proofs.YtklcbagddijkgaaGreatDoor.Ow

abbrev AT : TypeId := 148
abbrev PLt := PL Gd.St
def pcs (Q : List PLt) : List Value := Q.flatMap fun p => [slv p.1, slv p.2]
abbrev pk2 (p : PLt) : Pk2 := (p.1.key, p.2.key)
def kvQ (C : List PLt) : List (Pk2 × Value) := C.map fun p => (pk2 p, .bool true)
/-- the row of pairs that grows, and the map -/
structure QSt (w wr : World) (b : Value) (mb : Nat) (Ln C : List PLt) : Prop where
  pairs : wr.ownsRow w.heap.size AT 2 b Ln.length (pcs Ln)
  old : Below w.heap.size w wr
  map : EMap encQ wr mb (kvQ C)
  mbge : w.heap.size ≤ mb
theorem row_mapQ {w : World} {base e size n b : Nat} {v : Value} {xs : List Value} {l : List (Pk2 × Value)} (h : w.ownsRow base e size v n xs) (hm : EMap encQ w b l) : v.ownBlock ≠ some b := fun hb => by
  obtain ⟨_, c1, h1⟩ := row_obj h hb
  unfold EMap IMap at hm
  rw [hm] at h1; cases h1
section
variable {w wr w' : World} {b : Value} {mb : Nat} {Ln C : List PLt}
theorem QSt.below_ (h : QSt w wr b mb Ln C) (hb : Below wr.heap.size wr w') : QSt w w' b mb Ln C :=
  ⟨h.pairs.kept (row := none) ⟨hb.os, hb.tape, hb.output, hb.size, fun k hk _ => hb.block k hk⟩ (by cases b.ownBlock <;> simp), h.old.trans (hb.mono h.old.size), h.map.below hb h.map.lt, h.mbge⟩
theorem QSt.map_ {C' : List PLt} (h : QSt w wr b mb Ln C) (hm : EMap encQ w' mb (kvQ C')) (hg : wr.grownBy w' (some mb)) : QSt w w' b mb Ln C' :=
  ⟨h.pairs.kept hg (Or.inr (row_mapQ h.pairs h.map)), h.old.grown hg h.old.size fun _ hk => (by cases hk; exact h.mbge), hm, h.mbge⟩
theorem QSt.cell {g N c j : Nat} {u : Value} (h : QSt w wr (.slice (some ⟨g, 0, none⟩) N c) mb Ln C) (hj : (pcs Ln)[j]? = some u) : wr.cell? ⟨g, j, none⟩ = some u := by
  have := h.pairs.cells (g := g) rfl j u hj
  rw [addr0] at this; exact this
end
theorem la_mono {w W : World} {l : LN Gd.St} (h : LA (pln w) w.heap.size l) (hb : Below w.heap.size w W) : LA (pln W) W.heap.size l := by
  obtain ⟨rows, h⟩ := h
  refine ⟨rows, fun j hj => ?_, fun j t ht => ?_, h.len⟩
  · obtain ⟨ad, e, hB, hl⟩ := h.cell j hj
    exact ⟨ad, e, Nat.lt_of_lt_of_le hB hb.size, ldC_keep hl fun p hp => (pln_below hb).cell (by rw [hp, add_block]; exact hB)⟩
  · have := h.kid j t ht
    unfold RdN at this ⊢
    exact (this.blw (pln_below hb)).more hb.size
end Go.Proofs.YtklcbagddijkgaaGreatDoor.Gs

/- The program's comparison of programs; its list of assigned variables. -/
set_option maxRecDepth 100000
namespace Go.Proofs.YtklcbagddijkgaaGreatDoor.Gd
open Go.RowKit Go.Lib Go.Sort Go.Proofs.YtklcbagddijkgaaGreatDoor.Com Go.Proofs.YtklcbagddijkgaaGreatDoor.Mem Go.Proofs.YtklcbagddijkgaaGreatDoor.Os Go.Proofs.YtklcbagddijkgaaGreatDoor.Tr Go.Proofs.YtklcbagddijkgaaGreatDoor.Pl Go.Proofs.YtklcbagddijkgaaGreatDoor.Kd Go.Proofs.YtklcbagddijkgaaGreatDoor.Gs

/-- a program whose body lies in plain blocks -/
structure PgIn (w : World) (v : Value) (p : Pg) : Prop where
  ex : ∃ A c Bb cb, v = .agg #[.slice A p.vs.length c, .slice Bb p.body.length cb] ∧ Rd w w.heap.size A (p.vs.map sv) ∧ p.vs.length ≤ maxI ∧ (∀ x ∈ p.vs, x.length ≤ maxI) ∧ LA (pln w) w.heap.size ⟨Bb, cb, p.body⟩
theorem PgIn.go {w w' : World} {v : Value} {p : Pg} (h : PgIn w v p) (hb : Below w.heap.size w w') : PgIn w' v p := by
  obtain ⟨A, c, Bb, cb, e, h1, h2, h3, h4⟩ := h
  exact ⟨A, c, Bb, cb, e, (h1.below hb).more hb.size, h2, h3, la_mono h4 hb⟩
theorem OwnP.in_ {lo hi : Nat} {w : World} {v : Value} {p : Pg} (h : OwnP lo hi w v p) : PgIn w v p := by
  obtain ⟨cs, rfl, hr⟩ := h
  obtain ⟨A, c, Bb, cb, rows, rfl, h1, h2, h3, h4, h5⟩ := pg_inv (own_plnD hr)
  have h1' : Rd w w.heap.size A (p.vs.map sv) := fun hne => by
    obtain ⟨ad, e, hb, hc⟩ := h1 hne
    exact ⟨ad, e, hb, fun j u hu => (pln_cell (hc j u hu)).1⟩
  exact ⟨A, c, Bb, cb, rfl, h1', h3.1, h2, la_row h4 h5⟩
end Go.Proofs.YtklcbagddijkgaaGreatDoor.Gd
