/- Maps that the call makes and that only grow, at keys that are not there yet: whatever the keys are. -/
import Derived.Test.YteglampoceponaaGreatDoorZCom
import Derived.Maps.RangeWalk
import Derived.Laws.StructEq
import Derived.ChangeKeysEq
import Derived.LaidEqlPtr
set_option maxRecDepth 100000
namespace Go.Proofs.YteglampoceponaaGreatDoor.Im
open Go.RowKit Go.Proofs.YteglampoceponaaGreatDoor.Mem
open Go.ChangeMaps (setBlock)

/-- the entries, in the order in which they were laid -/
def ent (kvs : List (Value × Value)) : List MapEntry := kvs.zipIdx.map fun p => { key := p.1.1, val := p.1.2, born := p.2 }
theorem ent_snoc (kvs : List (Value × Value)) (k v : Value) : ent (kvs ++ [(k, v)]) = ent kvs ++ [{ key := k, val := v, born := kvs.length }] := by
  unfold ent; rw [List.zipIdx_append]; simp
theorem ent_mem {kvs : List (Value × Value)} {e : MapEntry} (h : e ∈ ent kvs) : (e.key, e.val) ∈ kvs ∧ e.born < kvs.length := by
  obtain ⟨⟨p, i⟩, hp, rfl⟩ := List.mem_map.1 h
  have := List.mem_zipIdx hp
  simp at this
  exact ⟨by rw [this.2]; exact List.getElem_mem _, by simpa using this.1⟩
theorem ent_born (kvs : List (Value × Value)) : (ent kvs).map (·.born) = List.range kvs.length := by
  unfold ent
  rw [List.map_map]
  have : ((fun x : MapEntry => x.born) ∘ fun p : (Value × Value) × Nat => ({ key := p.1.1, val := p.1.2, born := p.2 } : MapEntry)) = Prod.snd := rfl
  rw [this, List.zipIdx_map_snd, List.range_eq_range']
theorem ent_nodup (kvs : List (Value × Value)) : ((ent kvs).map (·.born)).Nodup := by rw [ent_born]; exact List.nodup_range
theorem ent_kv (kvs : List (Value × Value)) : (ent kvs).map (fun e => (e.key, e.val)) = kvs := by
  unfold ent
  rw [List.map_map]
  have : ((fun e : MapEntry => (e.key, e.val)) ∘ fun p : (Value × Value) × Nat => ({ key := p.1.1, val := p.1.2, born := p.2 } : MapEntry)) = Prod.fst := rfl
  rw [this, List.zipIdx_map_fst]

/-- block b is a map of just these entries -/
def IMap (w : World) (b : Nat) (kvs : List (Value × Value)) : Prop := w.heap[b]? = some (.map (ent kvs).toArray kvs.length)
/-- the key x is none of those -/
structure New (P : Program) (w : World) (k : TypeId) (x : Value) (kvs : List (Value × Value)) : Prop where
  check : ∀ (w : World) em, (Instr.checkKey em 10000 k x).run P w = .ok () w
  ne : ∀ p ∈ kvs, (Op.equal k x p.1).run P w = .ok false w
/-- the keys' type is no integer, string or bool -/
def WideK (P : Program) (k : TypeId) : Prop := ∃ d, P.underlying k = some d ∧ ∀ y z, Instr.sameNow d y z = none

section
variable {P : Program} {w w' : World} {b k e t : Nat} {kvs : List (Value × Value)} {x : Value}
theorem IMap.lt (h : IMap w b kvs) : b < w.heap.size := by
  rcases Nat.lt_or_ge b w.heap.size with hlt | hge
  · exact hlt
  · unfold IMap at h; rw [Array.getElem?_eq_none hge] at h; cases h
theorem IMap.same (h : IMap w b kvs) (e : w'.heap[b]? = w.heap[b]?) : IMap w' b kvs := e.trans h
theorem IMap.alloc (h : IMap w b kvs) (o : Obj) : IMap (w.alloc o) b kvs := (Below.heap_alloc w o b h.lt).trans h
theorem IMap.below {B : Nat} (h : IMap w b kvs) (hb : Below B w w') (hg : b < B) : IMap w' b kvs := (hb.block b hg).trans h
theorem IMap.new (w : World) : IMap (w.alloc (.map #[] 0)) w.heap.size [] := heap_alloc_new w _
theorem IMap.gb {row : Option Nat} (h : IMap w b kvs) (hg : w.grownBy w' row) (hne : some b ≠ row) : IMap w' b kvs := (hg.block b h.lt hne).trans h

theorem asking (x : Value) : ∀ (es : List MapEntry) (i : Nat), (∀ e ∈ es, (Op.equal k x e.key).run P w = .ok false w) → (Instr.findAsking k x es i).run P w = .ok none w
  | [], _, _ => by simp [Instr.findAsking]
  | e :: es, i, h => by
    have h1 := h e (by simp)
    have h2 := asking x es (i + 1) fun e' he' => h e' (by simp [he'])
    simp [Instr.findAsking, Sem.run_bind, h1, h2, Result.andThen]
theorem find_new (hW : WideK P k) (N : New P w k x kvs) : (Instr.findKey k x (ent kvs)).run P w = .ok none w := by
  obtain ⟨d, hd, hs⟩ := hW
  have ha := asking (P := P) (w := w) (k := k) x (ent kvs) 0 fun e he => N.ne _ (ent_mem he).1
  unfold Instr.findKey
  simp only [Sem.run_bind, run_underlying hd, Result.andThen_ok]
  cases hc : ent kvs with
  | nil => simp [Instr.findNow]
  | cons e es =>
    rw [hc] at ha
    simp only [Instr.findNow, hs]
    exact ha
theorem run_look_new (h : IMap w b kvs) (ht : P.underlying t = some (.map k e)) (hW : WideK P k) (N : New P w k x kvs) {z : Value} (hz : (zeroValue e).run P w = .ok z w) (ok : Bool) :
    (Instr.lookup t (.map (some b)) x ok).run P w = .ok (if ok then .tuple #[z, .bool false] else z) w := by
  have hf := find_new hW N
  unfold Instr.lookup
  simp [Sem.run_bind, run_underlying ht, MapKept.run_getObj_map h, N.check, hf, hz, Result.andThen]
theorem run_update_new (h : IMap w b kvs) (ht : P.underlying t = some (.map k e)) (hW : WideK P k) (N : New P w k x kvs) (v : Value) :
    ∃ w', (Instr.mapUpdate t (.map (some b)) x v).run P w = .ok () w' ∧ IMap w' b (kvs ++ [(x, v)]) ∧ w.grownBy w' (some b) ∧ w'.heap.size = w.heap.size := by
  have hf := find_new hW N
  refine ⟨setBlock w b (.map (ent (kvs ++ [(x, v)])).toArray (kvs.length + 1)), ?_, ?_, ?_, by simp [setBlock]⟩
  · unfold Instr.mapUpdate
    simp [Sem.run_bind, run_underlying ht, MapKept.run_getObj_map h, N.check, hf, Result.andThen, ent_snoc]
    simp [setObj, Sem.run, setBlock]
    unfold IMap at h
    simp [h]
  · have := (MapKept.heap_set (o' := .map (ent (kvs ++ [(x, v)])).toArray (kvs.length + 1)) h).1
    unfold IMap
    rw [show (setBlock w b (Obj.map (ent (kvs ++ [(x, v)])).toArray (kvs.length + 1))).heap[b]? = _ from this]
    simp
  · exact ⟨rfl, rfl, rfl, by simp [setBlock], fun i _ hi => (MapKept.heap_set h).2 i (fun e1 => hi (by rw [e1]))⟩
theorem run_len_new (h : IMap w b kvs) (ht : P.underlying t = some (.map k e)) (ty : TypeId) : (Builtin.len_ #[t] ty #[.map (some b)]).run P w = .ok (.int .i64 (kvs.length : Nat)) w := by
  have hl : (ent kvs).length = kvs.length := by simp [ent]
  simp [Builtin.len_, run_underlying ht, MapKept.run_getObj_map h, goInt, Result.andThen, hl]

/-- an iterator over the map: these entries are still to come -/
def Iter (w : World) (r b : Nat) (kvs left : List (Value × Value)) : Prop :=
  ∃ seen, w.heap[r]? = some (.mapIter (some b) kvs.length seen kvs.length) ∧ left = ((leftOf (ent kvs).toArray seen).toList.map fun e => (e.key, e.val))
theorem run_range_new (h : IMap w b kvs) (ht : P.underlying t = some (.map k e)) :
    (Instr.range t (.map (some b))).run P w = .ok (.pointer (some ⟨w.heap.size, 0, none⟩)) (w.alloc (.mapIter (some b) kvs.length #[] kvs.length)) ∧ Iter (w.alloc (.mapIter (some b) kvs.length #[] kvs.length)) w.heap.size b kvs kvs :=
  ⟨run_range_map w t k e b _ _ ht h, #[], heap_alloc_new w _, by
    have : leftOf (ent kvs).toArray #[] = (ent kvs).toArray := Array.filter_eq_self.2 (fun x hx => by simp)
    rw [this]; exact (ent_kv kvs).symm⟩
theorem Iter.lt {r : Nat} {left : List (Value × Value)} (h : Iter w r b kvs left) : r < w.heap.size := by
  obtain ⟨s, h, _⟩ := h
  rcases Nat.lt_or_ge r w.heap.size with hlt | hge
  · exact hlt
  · rw [Array.getElem?_eq_none hge] at h; cases h
theorem Iter.same {r : Nat} {left : List (Value × Value)} (h : Iter w r b kvs left) (e : w'.heap[r]? = w.heap[r]?) : Iter w' r b kvs left := by
  obtain ⟨s, h, hl⟩ := h
  exact ⟨s, e.trans h, hl⟩
theorem Iter.gb {r : Nat} {left : List (Value × Value)} {row : Option Nat} (h : Iter w r b kvs left) (hg : w.grownBy w' row) (hne : some r ≠ row) : Iter w' r b kvs left := h.same (hg.block r h.lt hne)
theorem Iter.alloc {r : Nat} {left : List (Value × Value)} (h : Iter w r b kvs left) (o : Obj) : Iter (w.alloc o) r b kvs left := h.same (Below.heap_alloc w o r h.lt)
theorem left_perm (es : List MapEntry) (hn : (es.map (·.born)).Nodup) (seen : Array Nat) {e : MapEntry} (he : e ∈ (leftOf es.toArray seen).toList) :
    (leftOf es.toArray seen).toList.Perm (e :: (leftOf es.toArray (seen.push e.born)).toList) := by
  obtain ⟨h1, h2⟩ := mem_left he
  simp only [leftOf, Array.toList_filter] at *
  simp only [contains_push]
  clear he
  induction es with
  | nil => simp at h1
  | cons y r ih =>
    rw [List.map_cons, List.nodup_cons] at hn
    rcases List.mem_cons.1 h1 with rfl | hm
    · have hr : r.filter (fun x => !(seen.contains x.born || x.born == e.born)) = r.filter (fun x => !seen.contains x.born) := by
        refine List.filter_congr fun z hz => ?_
        have : (z.born == e.born) = false := by
          cases hc : z.born == e.born
          · rfl
          · exact absurd (List.mem_map.2 ⟨z, hz, beq_iff_eq.1 hc⟩) hn.1
        rw [this, Bool.or_false]
      rw [List.filter_cons_of_pos (by rw [h2]; rfl), List.filter_cons_of_neg (by simp), hr]
    · have hne : (y.born == e.born) = false := by
        cases hc : y.born == e.born
        · rfl
        · exact absurd (List.mem_map.2 ⟨e, hm, (beq_iff_eq.1 hc).symm⟩) hn.1
      have ih' := ih hn.2 hm
      by_cases hy : seen.contains y.born = true
      · rw [List.filter_cons_of_neg (by rw [hy]; simp), List.filter_cons_of_neg (by rw [hy]; simp)]; exact ih'
      · have hy' : seen.contains y.born = false := by cases h : seen.contains y.born <;> simp_all
        rw [List.filter_cons_of_pos (by rw [hy']; rfl), List.filter_cons_of_pos (by rw [hy', hne]; rfl)]
        exact (ih'.cons y).trans (List.Perm.swap e y _)
/-- THE STEP -/
theorem run_next_new {r : Nat} {left : List (Value × Value)} (h : IMap w b kvs) (hi : Iter w r b kvs left) (ty : TypeId) :
    (left = [] ∧ (Instr.next (.pointer (some ⟨r, 0, none⟩)) false ty).run P w = .ok (.tuple #[.bool false]) w) ∨
    ∃ key v left' w', left.Perm ((key, v) :: left') ∧ (Instr.next (.pointer (some ⟨r, 0, none⟩)) false ty).run P w = .ok (.tuple #[.bool true, key, v]) w' ∧ IMap w' b kvs ∧ Iter w' r b kvs left' ∧ w.grownBy w' (some r) ∧ w'.heap.size = w.heap.size ∧
      (Instr.entry (.pointer (some ⟨r, 0, none⟩))).run P w' = .ok (.tuple #[key, v]) w' := by
  obtain ⟨seen, hr, hl⟩ := hi
  have hne : r ≠ b := by rintro rfl; unfold IMap at h; rw [h] at hr; cases hr
  rcases run_next_at (P := P) w ty r b kvs.length kvs.length seen _ _ hr h (fun x hx => (ent_mem (by simpa using hx)).2) (Nat.le_refl _) with ⟨h0, hrun⟩ | ⟨e, he, w1, hal, hrun⟩
  · refine Or.inl ⟨?_, hrun⟩
    rw [hl, Array.eq_empty_of_size_eq_zero h0]; rfl
  · have hp := left_perm (ent kvs) (ent_nodup kvs) seen he
    have hr1 : w1.heap[r]? = some (.mapIter (some b) kvs.length seen kvs.length) := by rcases hal with rfl | rfl <;> exact hr
    have hb1 : w1.heap[b]? = some (.map (ent kvs).toArray kvs.length) := by rcases hal with rfl | rfl <;> exact h
    have hset := MapKept.heap_set (o' := .mapIter (some b) kvs.length (seen.push e.born) kvs.length) hr1
    have hb' : IMap (setBlock w1 r (.mapIter (some b) kvs.length (seen.push e.born) kvs.length)) b kvs := (hset.2 b (fun e1 => hne e1.symm)).trans hb1
    refine Or.inr ⟨e.key, e.val, _, _, ?_, hrun, hb', ⟨_, hset.1, rfl⟩, ?_, ?_, run_entry_at _ r b kvs.length seen _ _ e hset.1 hb' (mem_left he).1 (by simpa using ent_nodup kvs)⟩
    · rw [hl]
      exact (hp.map fun e : MapEntry => (e.key, e.val))
    · rcases hal with rfl | rfl <;> exact ⟨rfl, rfl, rfl, by simp [setBlock], fun i _ hi => hset.2 i (fun e1 => hi (by rw [e1]))⟩
    · rcases hal with rfl | rfl <;> simp [setBlock]
end

/-! in a walk -/
section
variable {P : Program} {ops : Array Oper} {rest : List Oper} {o : Oper} {a : Act} {Q : Exit → Act → World → Prop} {w : World} {k e t : Nat}
/-- an operation that is wanted -/
theorem wpList_on (hg : Region.wanted o (yielded ops a.tmps) = true)
    (h : ∀ K : Act → World → Prop, (∀ a w, wpList P ops Q rest a w → K a w) → o.wp P a w K Q) : wpList P ops Q (o :: rest) a w :=
  wpList_step fun K hK => by rw [if_pos hg]; exact h K hK
theorem wpList_look (hg : Region.wanted o (yielded ops a.tmps) = true) (m x : Operand) (ok : Bool) (hop : o.op = Op.lookup t m x ok) (ht : P.underlying t = some (.map k e)) (hW : WideK P k) (b : Nat) (kvs : List (Value × Value)) (h : IMap w b kvs) (kx : Value) (N : New P w k kx kvs) (z : Value)
    (hz : (zeroValue e).run P w = .ok z w) (hm : a.eval m = .map (some b)) (hx : a.eval x = kx) (hK : wpList P ops Q rest (a.put o.dst (if ok then .tuple #[z, .bool false] else z)) w) : wpList P ops Q (o :: rest) a w := by
  refine wpList_on hg fun K' hK' => ?_
  unfold Oper.wp
  simp [execOp, hop, hm, hx, run_look_new h ht hW N hz ok, Result.andThen]
  exact hK' _ _ hK
theorem wpList_upd (hg : o.guard = none) (m x v : Operand) (hop : o.op = Op.insert t m x v ∨ o.op = Op.mapUpdate t m x v) (ht : P.underlying t = some (.map k e)) (hW : WideK P k) (b : Nat) (kvs : List (Value × Value)) (h : IMap w b kvs) (kx vx : Value) (N : New P w k kx kvs)
    (hm : a.eval m = .map (some b)) (hx : a.eval x = kx) (hv : a.eval v = vx) (hK : ∀ w', IMap w' b (kvs ++ [(kx, vx)]) → w.grownBy w' (some b) → w'.heap.size = w.heap.size → wpList P ops Q rest (a.put o.dst undef) w') : wpList P ops Q (o :: rest) a w := by
  refine wpList_plain hg fun K' hK' => ?_
  obtain ⟨w', hrun, r1, r2, r3⟩ := run_update_new h ht hW N vx
  unfold Oper.wp
  rcases hop with hop | hop
  all_goals
    simp [execOp, hop, hm, hx, hv, hrun, Result.andThen]
    exact hK' _ _ (hK w' r1 r2 r3)
theorem wpList_len (hg : o.guard = none) (m : Operand) (hop : o.op = Op.call { callee := Callee.builtin Builtin.len, args := #[m], argTypes := #[t] }) (ht : P.underlying t = some (.map k e)) (b : Nat) (kvs : List (Value × Value)) (h : IMap w b kvs) (hm : a.eval m = .map (some b))
    (hK : wpList P ops Q rest (a.put o.dst (.int .i64 (kvs.length : Nat))) w) : wpList P ops Q (o :: rest) a w := by
  refine wpList_plain hg fun K' hK' => ?_
  unfold Oper.wp
  simp [execOp, hop, resolve, invoke, builtin, hm, run_len_new h ht o.type, Result.andThen]
  exact hK' _ _ hK
theorem wpList_range (hg : o.guard = none) (m : Operand) (hop : o.op = Op.range t m) (ht : P.underlying t = some (.map k e)) (b : Nat) (kvs : List (Value × Value)) (h : IMap w b kvs) (hm : a.eval m = .map (some b))
    (hK : ∀ w', Iter w' w.heap.size b kvs kvs → (∃ o, w' = w.alloc o) → wpList P ops Q rest (a.put o.dst (.pointer (some ⟨w.heap.size, 0, none⟩))) w') : wpList P ops Q (o :: rest) a w := by
  refine wpList_plain hg fun K' hK' => ?_
  obtain ⟨hrun, hit⟩ := run_range_new (P := P) h ht
  unfold Oper.wp
  simp [execOp, hop, hm, hrun, Result.andThen]
  exact hK' _ _ (hK _ hit ⟨_, rfl⟩)
theorem wpList_next (hg : o.guard = none) (it : Operand) (hop : o.op = Op.next it false) (r b : Nat) (kvs left : List (Value × Value)) (h : IMap w b kvs) (hi : Iter w r b kvs left) (hit : a.eval it = .pointer (some ⟨r, 0, none⟩))
    (hDone : left = [] → wpList P ops Q rest (a.put o.dst (.tuple #[.bool false])) w)
    (hMore : ∀ (key v : Value) (left' : List (Value × Value)) (w' : World), left.Perm ((key, v) :: left') → IMap w' b kvs → Iter w' r b kvs left' → w.grownBy w' (some r) → w'.heap.size = w.heap.size →
      (Instr.entry (.pointer (some ⟨r, 0, none⟩))).run P w' = .ok (.tuple #[key, v]) w' → wpList P ops Q rest (a.put o.dst (.tuple #[.bool true, key, v])) w') : wpList P ops Q (o :: rest) a w := by
  refine wpList_plain hg fun K' hK' => ?_
  unfold Oper.wp
  rcases run_next_new (P := P) h hi o.type with ⟨h0, hrun⟩ | ⟨key, v, left', w', hp, hrun, r1, r2, r3, r4, r5⟩
  · simp [execOp, hop, hit, hrun, Result.andThen]
    exact hK' _ _ (hDone h0)
  · simp [execOp, hop, hit, hrun, Result.andThen]
    exact hK' _ _ (hMore key v left' w' hp r1 r2 r3 r4 r5)
end
end Go.Proofs.YteglampoceponaaGreatDoor.Im

/- Maps with integers as keys that the call makes out of a literal: insert, kget up. -/
set_option maxRecDepth 100000
namespace Go.Proofs.YteglampoceponaaGreatDoor.Ik
open Go.RowKit Go.Proofs.YteglampoceponaaGreatDoor.Mem Go.Proofs.YteglampoceponaaGreatDoor.Im
open Go.ChangeMaps (setBlock)

abbrev kv (p : Int × Value) : Value × Value := (.int .i64 p.1, p.2)
/-- block b is a map of just these entries -/
def KMap (w : World) (b : Nat) (l : List (Int × Value)) : Prop := IMap w b (l.map kv)
def kget (l : List (Int × Value)) (x : Int) : Option Value := (l.find? fun p => p.1 == x).map Prod.snd
section
variable {P : Program} {w w' : World} {b k e t : Nat} {l : List (Int × Value)} {x : Int}
theorem KMap.alloc (h : KMap w b l) (o : Obj) : KMap (w.alloc o) b l := IMap.alloc h o
theorem KMap.below {B : Nat} (h : KMap w b l) (hb : Below B w w') (hg : b < B) : KMap w' b l := IMap.below h hb hg
theorem find_zip (x : Int) : ∀ (l : List (Int × Value)) (m i : Nat), ∃ r, Instr.findNow (.int .i64) (.int .i64 x) (((l.map kv).zipIdx m).map fun p => { key := p.1.1, val := p.1.2, born := p.2 }) i = some r ∧ r.map Prod.snd = kget l x
  | [], _, _ => ⟨none, rfl, rfl⟩
  | p :: l, m, i => by
    by_cases h : x = p.1
    · refine ⟨some (i, p.2), ?_, ?_⟩
      · simp [Instr.findNow, Instr.sameNow, h]
      · simp [kget, h]
    · obtain ⟨r, h1, h2⟩ := find_zip x l (m + 1) (i + 1)
      refine ⟨r, ?_, ?_⟩
      · have hq : (x == p.1) = false := beq_false_of_ne h
        simp only [List.map_cons, List.zipIdx_cons, Instr.findNow, Instr.sameNow, hq, if_true]
        exact h1
      · have h' : ¬ p.1 = x := fun e => h e.symm
        rw [h2]; simp [kget, h']
theorem find_at (hk : P.underlying k = some (.int .i64)) (w : World) : ∃ r, (Instr.findKey k (.int .i64 x) (ent (l.map kv))).run P w = .ok r w ∧ r.map Prod.snd = kget l x := by
  obtain ⟨r, h1, h2⟩ := find_zip x l 0 0
  exact ⟨r, MapKept.run_findKey hk h1, h2⟩
theorem check (hk : P.underlying k = some (.int .i64)) (em : Bool) (w : World) : (Instr.checkKey em 10000 k (.int .i64 x)).run P w = .ok () w :=
  MapKept.run_checkKey hk (by simp [MapKept.IsKey]) em 9999
theorem run_look (h : KMap w b l) (ht : P.underlying t = some (.map k e)) (hk : P.underlying k = some (.int .i64)) {z : Value} (hz : (zeroValue e).run P w = .ok z w) (ok : Bool) :
    (Instr.lookup t (.map (some b)) (.int .i64 x) ok).run P w = .ok (if ok then .tuple #[(kget l x).getD z, .bool (kget l x).isSome] else (kget l x).getD z) w := by
  obtain ⟨r, hf, hr⟩ := find_at (x := x) (l := l) hk w
  unfold Instr.lookup
  cases r with
  | none =>
    rw [← hr]
    simp [Sem.run_bind, run_underlying ht, MapKept.run_getObj_map h, check hk, hf, hz, Result.andThen]
  | some p =>
    rw [← hr]
    simp [Sem.run_bind, run_underlying ht, MapKept.run_getObj_map h, check hk, hf, Result.andThen]
theorem run_upd (h : KMap w b l) (ht : P.underlying t = some (.map k e)) (hk : P.underlying k = some (.int .i64)) (hn : kget l x = none) (v : Value) :
    ∃ w', (Instr.mapUpdate t (.map (some b)) (.int .i64 x) v).run P w = .ok () w' ∧ KMap w' b (l ++ [(x, v)]) ∧ w.grownBy w' (some b) ∧ w'.heap.size = w.heap.size := by
  obtain ⟨r, hf, hr⟩ := find_at (x := x) (l := l) hk w
  rw [hn] at hr
  cases r with
  | some p => cases hr
  | none =>
    refine ⟨setBlock w b (.map (ent (l.map kv ++ [(.int .i64 x, v)])).toArray ((l.map kv).length + 1)), ?_, ?_, ?_, by simp [setBlock]⟩
    · unfold Instr.mapUpdate
      simp [Sem.run_bind, run_underlying ht, MapKept.run_getObj_map h, check hk, hf, Result.andThen, ent_snoc]
      simp [setObj, Sem.run, setBlock]
      unfold KMap IMap at h
      simp [h]
    · have := (MapKept.heap_set (o' := .map (ent (l.map kv ++ [(.int .i64 x, v)])).toArray ((l.map kv).length + 1)) h).1
      unfold KMap IMap
      rw [show (setBlock w b (Obj.map (ent (l.map kv ++ [(.int .i64 x, v)])).toArray ((l.map kv).length + 1))).heap[b]? = _ from this]
      simp
    · exact ⟨rfl, rfl, rfl, by simp [setBlock], fun i _ hi => (MapKept.heap_set h).2 i (fun e1 => hi (by rw [e1]))⟩
end
/-! in a walk -/
section
variable {P : Program} {ops : Array Oper} {rest : List Oper} {o : Oper} {a : Act} {Q : Exit → Act → World → Prop} {w : World} {k e t : Nat}
theorem wpList_put (hg : o.guard = none) (m x v : Operand) (hop : o.op = Op.insert t m x v ∨ o.op = Op.mapUpdate t m x v) (ht : P.underlying t = some (.map k e)) (hk : P.underlying k = some (.int .i64)) (b : Nat) (l : List (Int × Value)) (h : KMap w b l) (kx : Int) (vx : Value)
    (hm : a.eval m = .map (some b)) (hx : a.eval x = .int .i64 kx) (hv : a.eval v = vx) (hn : kget l kx = none) (hK : ∀ w', KMap w' b (l ++ [(kx, vx)]) → w.grownBy w' (some b) → w'.heap.size = w.heap.size → wpList P ops Q rest (a.put o.dst undef) w') : wpList P ops Q (o :: rest) a w := by
  refine wpList_plain hg fun K' hK' => ?_
  obtain ⟨w', hrun, r1, r2, r3⟩ := run_upd h ht hk hn vx
  unfold Oper.wp
  rcases hop with hop | hop
  all_goals
    simp [execOp, hop, hm, hx, hv, hrun, Result.andThen]
    exact hK' _ _ (hK w' r1 r2 r3)
theorem wpList_get (hg : Region.wanted o (yielded ops a.tmps) = true) (m x : Operand) (ok : Bool) (hop : o.op = Op.lookup t m x ok) (ht : P.underlying t = some (.map k e)) (hk : P.underlying k = some (.int .i64)) (b : Nat) (l : List (Int × Value)) (h : KMap w b l) (kx : Int) (z : Value)
    (hz : (zeroValue e).run P w = .ok z w) (hm : a.eval m = .map (some b)) (hx : a.eval x = .int .i64 kx) (hK : wpList P ops Q rest (a.put o.dst (if ok then .tuple #[(kget l kx).getD z, .bool (kget l kx).isSome] else (kget l kx).getD z)) w) : wpList P ops Q (o :: rest) a w := by
  refine wpList_on hg fun K' hK' => ?_
  unfold Oper.wp
  simp [execOp, hop, hm, hx, run_look h ht hk hz ok, Result.andThen]
  exact hK' _ _ hK
end
end Go.Proofs.YteglampoceponaaGreatDoor.Ik
