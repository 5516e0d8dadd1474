/- Maps that the call makes and that only grow, at keys that are not there yet: whatever the keys are. -/
import Derived.Maps.RangeWalk
import Derived.Laws.StructEq
import Derived.ChangeKeysEq
import Derived.LaidEqlPtr
import Derived.Test.YtnmomlaimffonaaGreatZTr
set_option maxRecDepth 100000
namespace Go.Proofs.YtnmomlaimffonaaGreat.Im
open Go.RowKit Mem
open Go.ChangeMaps (setBlock)
def ent (kvs : List (Value × Value)) : List MapEntry := kvs.zipIdx.map fun p => { key := p.1.1, val := p.1.2, born := p.2 }
theorem ent_snoc (kvs : List (Value × Value)) (k v : Value) : ent (kvs ++ [(k, v)]) = ent kvs ++ [{ key := k, val := v, born := kvs.length }] := by
  unfold ent; rw [List.zipIdx_append]; simp
theorem ent_mem {kvs : List (Value × Value)} {e : MapEntry} (h : e ∈ ent kvs) : (e.key, e.val) ∈ kvs ∧ e.born < kvs.length := by
  obtain ⟨⟨p, i⟩, hp, rfl⟩ := List.mem_map.1 h
  have := List.mem_zipIdx hp
  simp at this
  exact ⟨by rw [this.2]; exact List.getElem_mem _, by simpa using this.1⟩
theorem ent_born (kvs : List (Value × Value)) : (ent kvs).map (·.born) = List.range kvs.length := by
  unfold ent
  rw [List.map_map]
  have : ((fun x : MapEntry => x.born) ∘ fun p : (Value × Value) × Nat => ({ key := p.1.1, val := p.1.2, born := p.2 } : MapEntry)) = Prod.snd := rfl
  rw [this, List.zipIdx_map_snd, List.range_eq_range']
theorem ent_nodup (kvs : List (Value × Value)) : ((ent kvs).map (·.born)).Nodup := by rw [ent_born]; exact List.nodup_range
theorem ent_kv (kvs : List (Value × Value)) : (ent kvs).map (fun e => (e.key, e.val)) = kvs := by
  unfold ent
  rw [List.map_map]
  have : ((fun e : MapEntry => (e.key, e.val)) ∘ fun p : (Value × Value) × Nat => ({ key := p.1.1, val := p.1.2, born := p.2 } : MapEntry)) = Prod.fst := rfl
  rw [this, List.zipIdx_map_fst]
def IMap (w : World) (b : Nat) (kvs : List (Value × Value)) : Prop := w.heap[b]? = some (.map (ent kvs).toArray kvs.length)
def WideK (P : Program) (k : TypeId) : Prop := ∃ d, P.underlying k = some d ∧ ∀ y z, Instr.sameNow d y z = none
section
variable {P : Program} {w w' : World} {b k e t : Nat} {kvs : List (Value × Value)} {x : Value}
theorem IMap.lt (h : IMap w b kvs) : b < w.heap.size := by
  rcases Nat.lt_or_ge b w.heap.size with hlt | hge
  · exact hlt
  · unfold IMap at h; rw [Array.getElem?_eq_none hge] at h; cases h
theorem IMap.same (h : IMap w b kvs) (e : w'.heap[b]? = w.heap[b]?) : IMap w' b kvs := e.trans h
theorem IMap.alloc (h : IMap w b kvs) (o : Obj) : IMap (w.alloc o) b kvs := (Below.heap_alloc w o b h.lt).trans h
theorem IMap.below {B : Nat} (h : IMap w b kvs) (hb : Below B w w') (hg : b < B) : IMap w' b kvs := (hb.block b hg).trans h
theorem IMap.new (w : World) : IMap (w.alloc (.map #[] 0)) w.heap.size [] := heap_alloc_new w _
theorem IMap.gb {row : Option Nat} (h : IMap w b kvs) (hg : w.grownBy w' row) (hne : some b ≠ row) : IMap w' b kvs := (hg.block b h.lt hne).trans h
theorem run_len_new (h : IMap w b kvs) (ht : P.underlying t = some (.map k e)) (ty : TypeId) : (Builtin.len_ #[t] ty #[.map (some b)]).run P w = .ok (.int .i64 (kvs.length : Nat)) w := by
  have hl : (ent kvs).length = kvs.length := by simp [ent]
  simp [Builtin.len_, run_underlying ht, MapKept.run_getObj_map h, goInt, Result.andThen, hl]
def Iter (w : World) (r b : Nat) (kvs left : List (Value × Value)) : Prop :=
  ∃ seen, w.heap[r]? = some (.mapIter (some b) kvs.length seen kvs.length) ∧ left = ((leftOf (ent kvs).toArray seen).toList.map fun e => (e.key, e.val))
theorem run_range_new (h : IMap w b kvs) (ht : P.underlying t = some (.map k e)) :
    (Instr.range t (.map (some b))).run P w = .ok (.pointer (some ⟨w.heap.size, 0, none⟩)) (w.alloc (.mapIter (some b) kvs.length #[] kvs.length)) ∧ Iter (w.alloc (.mapIter (some b) kvs.length #[] kvs.length)) w.heap.size b kvs kvs :=
  ⟨run_range_map w t k e b _ _ ht h, #[], heap_alloc_new w _, by
    have : leftOf (ent kvs).toArray #[] = (ent kvs).toArray := Array.filter_eq_self.2 (fun x hx => by simp)
    rw [this]; exact (ent_kv kvs).symm⟩
theorem Iter.lt {r : Nat} {left : List (Value × Value)} (h : Iter w r b kvs left) : r < w.heap.size := by
  obtain ⟨s, h, _⟩ := h
  rcases Nat.lt_or_ge r w.heap.size with hlt | hge
  · exact hlt
  · rw [Array.getElem?_eq_none hge] at h; cases h
theorem Iter.same {r : Nat} {left : List (Value × Value)} (h : Iter w r b kvs left) (e : w'.heap[r]? = w.heap[r]?) : Iter w' r b kvs left := by
  obtain ⟨s, h, hl⟩ := h
  exact ⟨s, e.trans h, hl⟩
theorem Iter.gb {r : Nat} {left : List (Value × Value)} {row : Option Nat} (h : Iter w r b kvs left) (hg : w.grownBy w' row) (hne : some r ≠ row) : Iter w' r b kvs left := h.same (hg.block r h.lt hne)
theorem left_perm (es : List MapEntry) (hn : (es.map (·.born)).Nodup) (seen : Array Nat) {e : MapEntry} (he : e ∈ (leftOf es.toArray seen).toList) :
    (leftOf es.toArray seen).toList.Perm (e :: (leftOf es.toArray (seen.push e.born)).toList) := by
  obtain ⟨h1, h2⟩ := mem_left he
  simp only [leftOf, Array.toList_filter] at *
  simp only [contains_push]
  clear he
  induction es with
  | nil => simp at h1
  | cons y r ih =>
    rw [List.map_cons, List.nodup_cons] at hn
    rcases List.mem_cons.1 h1 with rfl | hm
    · have hr : r.filter (fun x => !(seen.contains x.born || x.born == e.born)) = r.filter (fun x => !seen.contains x.born) := by
        refine List.filter_congr fun z hz => ?_
        have : (z.born == e.born) = false := by
          cases hc : z.born == e.born
          · rfl
          · exact absurd (List.mem_map.2 ⟨z, hz, beq_iff_eq.1 hc⟩) hn.1
        rw [this, Bool.or_false]
      rw [List.filter_cons_of_pos (by rw [h2]; rfl), List.filter_cons_of_neg (by simp), hr]
    · have hne : (y.born == e.born) = false := by
        cases hc : y.born == e.born
        · rfl
        · exact absurd (List.mem_map.2 ⟨e, hm, (beq_iff_eq.1 hc).symm⟩) hn.1
      have ih' := ih hn.2 hm
      by_cases hy : seen.contains y.born = true
      · rw [List.filter_cons_of_neg (by rw [hy]; simp), List.filter_cons_of_neg (by rw [hy]; simp)]; exact ih'
      · have hy' : seen.contains y.born = false := by cases h : seen.contains y.born <;> simp_all
        rw [List.filter_cons_of_pos (by rw [hy']; rfl), List.filter_cons_of_pos (by rw [hy', hne]; rfl)]
        exact (ih'.cons y).trans (List.Perm.swap e y _)
theorem run_next_new {r : Nat} {left : List (Value × Value)} (h : IMap w b kvs) (hi : Iter w r b kvs left) (ty : TypeId) :
    (left = [] ∧ (Instr.next (.pointer (some ⟨r, 0, none⟩)) false ty).run P w = .ok (.tuple #[.bool false]) w) ∨
    ∃ key v left' w', left.Perm ((key, v) :: left') ∧ (Instr.next (.pointer (some ⟨r, 0, none⟩)) false ty).run P w = .ok (.tuple #[.bool true, key, v]) w' ∧ IMap w' b kvs ∧ Iter w' r b kvs left' ∧ w.grownBy w' (some r) ∧ w'.heap.size = w.heap.size ∧
      (Instr.entry (.pointer (some ⟨r, 0, none⟩))).run P w' = .ok (.tuple #[key, v]) w' := by
  obtain ⟨seen, hr, hl⟩ := hi
  have hne : r ≠ b := by rintro rfl; unfold IMap at h; rw [h] at hr; cases hr
  rcases run_next_at (P := P) w ty r b kvs.length kvs.length seen _ _ hr h (fun x hx => (ent_mem (by simpa using hx)).2) (Nat.le_refl _) with ⟨h0, hrun⟩ | ⟨e, he, w1, hal, hrun⟩
  · refine Or.inl ⟨?_, hrun⟩
    rw [hl, Array.eq_empty_of_size_eq_zero h0]; rfl
  · have hp := left_perm (ent kvs) (ent_nodup kvs) seen he
    have hr1 : w1.heap[r]? = some (.mapIter (some b) kvs.length seen kvs.length) := by rcases hal with rfl | rfl <;> exact hr
    have hb1 : w1.heap[b]? = some (.map (ent kvs).toArray kvs.length) := by rcases hal with rfl | rfl <;> exact h
    have hset := MapKept.heap_set (o' := .mapIter (some b) kvs.length (seen.push e.born) kvs.length) hr1
    have hb' : IMap (setBlock w1 r (.mapIter (some b) kvs.length (seen.push e.born) kvs.length)) b kvs := (hset.2 b (fun e1 => hne e1.symm)).trans hb1
    refine Or.inr ⟨e.key, e.val, _, _, ?_, hrun, hb', ⟨_, hset.1, rfl⟩, ?_, ?_, run_entry_at _ r b kvs.length seen _ _ e hset.1 hb' (mem_left he).1 (by simpa using ent_nodup kvs)⟩
    · rw [hl]
      exact (hp.map fun e : MapEntry => (e.key, e.val))
    · rcases hal with rfl | rfl <;> exact ⟨rfl, rfl, rfl, by simp [setBlock], fun i _ hi => hset.2 i (fun e1 => hi (by rw [e1]))⟩
    · rcases hal with rfl | rfl <;> simp [setBlock]
end
section
variable {P : Program} {ops : Array Oper} {rest : List Oper} {o : Oper} {a : Act} {Q : Exit → Act → World → Prop} {w : World} {k e t : Nat}
theorem wpList_on (hg : Region.wanted o (yielded ops a.tmps) = true)
    (h : ∀ K : Act → World → Prop, (∀ a w, wpList P ops Q rest a w → K a w) → o.wp P a w K Q) : wpList P ops Q (o :: rest) a w :=
  wpList_step fun K hK => by rw [if_pos hg]; exact h K hK
theorem wpList_len (hg : o.guard = none) (m : Operand) (hop : o.op = Op.call { callee := Callee.builtin Builtin.len, args := #[m], argTypes := #[t] }) (ht : P.underlying t = some (.map k e)) (b : Nat) (kvs : List (Value × Value)) (h : IMap w b kvs) (hm : a.eval m = .map (some b))
    (hK : wpList P ops Q rest (a.put o.dst (.int .i64 (kvs.length : Nat))) w) : wpList P ops Q (o :: rest) a w := by
  refine wpList_plain hg fun K' hK' => ?_
  unfold Oper.wp
  simp [execOp, hop, resolve, invoke, builtin, hm, run_len_new h ht o.type, Result.andThen]
  exact hK' _ _ hK
theorem wpList_range (hg : o.guard = none) (m : Operand) (hop : o.op = Op.range t m) (ht : P.underlying t = some (.map k e)) (b : Nat) (kvs : List (Value × Value)) (h : IMap w b kvs) (hm : a.eval m = .map (some b))
    (hK : ∀ w', Iter w' w.heap.size b kvs kvs → (∃ o, w' = w.alloc o) → wpList P ops Q rest (a.put o.dst (.pointer (some ⟨w.heap.size, 0, none⟩))) w') : wpList P ops Q (o :: rest) a w := by
  refine wpList_plain hg fun K' hK' => ?_
  obtain ⟨hrun, hit⟩ := run_range_new (P := P) h ht
  unfold Oper.wp
  simp [execOp, hop, hm, hrun, Result.andThen]
  exact hK' _ _ (hK _ hit ⟨_, rfl⟩)
theorem wpList_next (hg : o.guard = none) (it : Operand) (hop : o.op = Op.next it false) (r b : Nat) (kvs left : List (Value × Value)) (h : IMap w b kvs) (hi : Iter w r b kvs left) (hit : a.eval it = .pointer (some ⟨r, 0, none⟩))
    (hDone : left = [] → wpList P ops Q rest (a.put o.dst (.tuple #[.bool false])) w)
    (hMore : ∀ (key v : Value) (left' : List (Value × Value)) (w' : World), left.Perm ((key, v) :: left') → IMap w' b kvs → Iter w' r b kvs left' → w.grownBy w' (some r) → w'.heap.size = w.heap.size →
      (Instr.entry (.pointer (some ⟨r, 0, none⟩))).run P w' = .ok (.tuple #[key, v]) w' → wpList P ops Q rest (a.put o.dst (.tuple #[.bool true, key, v])) w') : wpList P ops Q (o :: rest) a w := by
  refine wpList_plain hg fun K' hK' => ?_
  unfold Oper.wp
  rcases run_next_new (P := P) h hi o.type with ⟨h0, hrun⟩ | ⟨key, v, left', w', hp, hrun, r1, r2, r3, r4, r5⟩
  · simp [execOp, hop, hit, hrun, Result.andThen]
    exact hK' _ _ (hDone h0)
  · simp [execOp, hop, hit, hrun, Result.andThen]
    exact hK' _ _ (hMore key v left' w' hp r1 r2 r3 r4 r5)
end
end Go.Proofs.YtnmomlaimffonaaGreat.Im
set_option maxRecDepth 100000
namespace Go.Proofs.YtnmomlaimffonaaGreat.Ag
open Go.RowKit Mem Im
open Go.ChangeMaps (setBlock)
section
variable {κ : Type} (enc : κ → Value)
abbrev kvE (l : List (κ × Value)) : List (Value × Value) := l.map fun p => (enc p.1, p.2)
def EMap (w : World) (b : Nat) (l : List (κ × Value)) : Prop := IMap w b (kvE enc l)
end
section
variable {κ : Type} {enc : κ → Value} {w w' : World} {b : Nat} {l : List (κ × Value)}
theorem EMap.lt (h : EMap enc w b l) : b < w.heap.size := IMap.lt h
theorem EMap.alloc (h : EMap enc w b l) (o : Obj) : EMap enc (w.alloc o) b l := IMap.alloc h o
theorem EMap.below {B : Nat} (h : EMap enc w b l) (hb : Below B w w') (hg : b < B) : EMap enc w' b l := IMap.below h hb hg
theorem EMap.gb {row : Option Nat} (h : EMap enc w b l) (hg : w.grownBy w' row) (hne : some b ≠ row) : EMap enc w' b l := IMap.gb h hg hne
theorem EMap.new (w : World) : EMap enc (w.alloc (.map #[] 0)) w.heap.size ([] : List (κ × Value)) := IMap.new w
end
section
variable {κ : Type} [DecidableEq κ] {enc : κ → Value}
def aget : List (κ × Value) → κ → Option Value
  | [], _ => none
  | p :: r, x => if p.1 = x then some p.2 else aget r x
def aput : List (κ × Value) → κ → Value → List (κ × Value)
  | [], x, v => [(x, v)]
  | p :: r, x, v => if p.1 = x then (x, v) :: r else p :: aput r x v
structure Dec (P : Program) (enc : κ → Value) (k : TypeId) (w : World) (x : κ) (l : List (κ × Value)) : Prop where
  check : ∀ (w : World) em, (Instr.checkKey em 10000 k (enc x)).run P w = .ok () w
  eq : ∀ p ∈ l, (Op.equal k (enc x) (enc p.1)).run P w = .ok (decide (p.1 = x)) w
  stay : Instr.sameBits 10000 (enc x) (enc x) = true
variable {P : Program} {w w' : World} {b k e t : Nat} {l : List (κ × Value)} {x : κ}
def aidx : List (κ × Value) → κ → Nat → Option (Nat × Value)
  | [], _, _ => none
  | p :: r, x, i => if p.1 = x then some (i, p.2) else aidx r x (i + 1)
theorem aidx_get (l : List (κ × Value)) (x : κ) (i : Nat) : (aidx l x i).map Prod.snd = aget l x := by
  induction l generalizing i with
  | nil => rfl
  | cons p r ih =>
    unfold aidx aget
    split
    · rfl
    · exact ih (i + 1)
theorem aidx_none {l : List (κ × Value)} {x : κ} {i : Nat} (h : aidx l x i = none) (v : Value) : aput l x v = l ++ [(x, v)] := by
  induction l generalizing i with
  | nil => rfl
  | cons p r ih =>
    unfold aidx at h
    unfold aput
    split at h
    · cases h
    · rename_i hne; rw [if_neg hne, ih h]; rfl
theorem aidx_some {l : List (κ × Value)} {x : κ} {i j : Nat} {u : Value} (h : aidx l x i = some (j, u)) (v : Value) : i ≤ j ∧ l[j - i]? = some (x, u) ∧ aput l x v = l.set (j - i) (x, v) := by
  induction l generalizing i with
  | nil => cases h
  | cons p r ih =>
    unfold aidx at h
    unfold aput
    split at h
    · rename_i he
      cases h
      subst he
      rw [if_pos rfl, Nat.sub_self]
      exact ⟨Nat.le_refl _, rfl, rfl⟩
    · rename_i hne
      obtain ⟨h1, h2, h3⟩ := ih h
      rw [if_neg hne, h3, show j - i = (j - (i + 1)) + 1 by omega]
      exact ⟨by omega, h2, rfl⟩
theorem asking (x : κ) : ∀ (l : List (κ × Value)) (m i : Nat), (∀ p ∈ l, (Op.equal k (enc x) (enc p.1)).run P w = .ok (decide (p.1 = x)) w) →
    (Instr.findAsking k (enc x) (((kvE enc l).zipIdx m).map fun p => { key := p.1.1, val := p.1.2, born := p.2 }) i).run P w = .ok (aidx l x i) w
  | [], _, _, _ => by simp [Instr.findAsking, aidx]
  | p :: r, m, i, h => by
    have h1 : (Op.equal k (enc x) (enc p.1)).run P w = .ok (decide (p.1 = x)) w := h p (by simp)
    have h2 := asking x r (m + 1) (i + 1) fun e he => h e (by simp [he])
    simp only [List.map_cons, List.zipIdx_cons]
    unfold Instr.findAsking aidx
    by_cases e : p.1 = x
    · rw [decide_eq_true e] at h1
      simp only [Sem.run_bind, h1, Result.andThen_ok, if_true, if_pos e]; rfl
    · simp only [Sem.run_bind, h1, e, Result.andThen_ok, decide_false, Bool.false_eq_true, if_false]
      exact h2
theorem find_at (hW : WideK P k) (D : Dec P enc k w x l) : (Instr.findKey k (enc x) (ent (kvE enc l))).run P w = .ok (aidx l x 0) w := by
  obtain ⟨d, hd, hs⟩ := hW
  have ha := asking (P := P) (w := w) (k := k) (enc := enc) x l 0 0 D.eq
  unfold Instr.findKey
  simp only [Sem.run_bind, run_underlying hd, Result.andThen_ok]
  unfold ent
  cases l with
  | nil => simp [Instr.findNow, aidx]
  | cons p r =>
    simp only [List.map_cons, List.zipIdx_cons, Instr.findNow, hs] at ha ⊢
    exact ha
theorem run_look (h : EMap enc w b l) (ht : P.underlying t = some (.map k e)) (hW : WideK P k) (D : Dec P enc k w x l) {z : Value} (hz : (zeroValue e).run P w = .ok z w) (ok : Bool) :
    (Instr.lookup t (.map (some b)) (enc x) ok).run P w = .ok (if ok then .tuple #[(aget l x).getD z, .bool (aget l x).isSome] else (aget l x).getD z) w := by
  have hf := find_at hW D
  have hr := aidx_get l x 0
  unfold EMap at h
  unfold Instr.lookup
  cases hi : aidx l x 0 with
  | none =>
    rw [hi] at hr hf
    rw [← hr]
    simp [Sem.run_bind, run_underlying ht, MapKept.run_getObj_map h, D.check, hf, hz, Result.andThen]
  | some p =>
    rw [hi] at hr hf
    rw [← hr]
    simp [Sem.run_bind, run_underlying ht, MapKept.run_getObj_map h, D.check, hf, Result.andThen]
theorem ent_set (kvs : List (Value × Value)) (j : Nat) (key v : Value) : ((ent kvs).toArray.modify j fun e => { e with key := key, val := v }) = (ent (kvs.set j (key, v))).toArray := by
  apply Array.ext'
  simp only [Array.toList_modify]
  unfold ent
  apply List.ext_getElem?
  intro i
  simp only [List.getElem?_modify, List.getElem?_map, List.getElem?_zipIdx, List.getElem?_set]
  by_cases hij : j = i
  · subst hij
    simp only [if_pos]
    by_cases hl : j < kvs.length
    · simp [hl]
    · simp [hl]
  · simp [hij]
theorem run_put (h : EMap enc w b l) (ht : P.underlying t = some (.map k e)) (hW : WideK P k) (D : Dec P enc k w x l) (v : Value) :
    ∃ w', (Instr.mapUpdate t (.map (some b)) (enc x) v).run P w = .ok () w' ∧ EMap enc w' b (aput l x v) ∧ w.grownBy w' (some b) ∧ w'.heap.size = w.heap.size := by
  have hf := find_at hW D
  have hlen : (kvE enc l).length = l.length := by simp
  unfold EMap at h
  cases hi : aidx l x 0 with
  | none =>
    rw [hi] at hf
    have hput := aidx_none hi v
    refine ⟨setBlock w b (.map (ent (kvE enc l ++ [(enc x, v)])).toArray ((kvE enc l).length + 1)), ?_, ?_, ?_, by simp [setBlock]⟩
    · unfold Instr.mapUpdate
      simp [Sem.run_bind, run_underlying ht, MapKept.run_getObj_map h, D.check, hf, Result.andThen, ent_snoc]
      simp [setObj, Sem.run, setBlock]
      unfold IMap at h
      simp [h]
    · have := (MapKept.heap_set (o' := .map (ent (kvE enc l ++ [(enc x, v)])).toArray ((kvE enc l).length + 1)) h).1
      unfold EMap IMap
      rw [show (setBlock w b (Obj.map (ent (kvE enc l ++ [(enc x, v)])).toArray ((kvE enc l).length + 1))).heap[b]? = _ from this, hput]
      simp
    · exact ⟨rfl, rfl, rfl, by simp [setBlock], fun i _ hi => (MapKept.heap_set h).2 i (fun e1 => hi (by rw [e1]))⟩
  | some p =>
    obtain ⟨j, u⟩ := p
    rw [hi] at hf
    obtain ⟨_, hat, hput⟩ := aidx_some hi v
    rw [Nat.sub_zero] at hat hput
    have hj : (ent (kvE enc l))[j]? = some { key := enc x, val := u, born := j } := by
      unfold ent
      simp [List.getElem?_map, List.getElem?_zipIdx, hat]
    have hkey : (((ent (kvE enc l)).toArray[j]?).map (·.key)).getD (enc x) = enc x := by
      rw [List.getElem?_toArray, hj]; rfl
    have hst : (Instr.keyThatStays (enc x) (enc x)).run P w = .ok (enc x) w := by simp [Instr.keyThatStays, D.stay]
    have hset := ent_set (kvE enc l) j (enc x) v
    have hmap : (kvE enc l).set j (enc x, v) = kvE enc (l.set j (x, v)) := by simp [kvE, List.map_set]
    refine ⟨setBlock w b (.map (ent (kvE enc (l.set j (x, v)))).toArray (kvE enc l).length), ?_, ?_, ?_, by simp [setBlock]⟩
    · unfold Instr.mapUpdate
      have hkey' : (((ent (kvE enc l)).toArray[j]?).map (fun e : MapEntry => e.key)).getD (enc x) = enc x := hkey
      simp only [Sem.run_bind, run_underlying ht, MapKept.run_getObj_map h, D.check, hf, Result.andThen_ok, hkey', hst]
      rw [← hmap, ← hset]
      unfold IMap at h
      simp [setObj, Sem.run, setBlock, h]
    · have := (MapKept.heap_set (o' := .map (ent (kvE enc (l.set j (x, v)))).toArray (kvE enc l).length) h).1
      unfold EMap IMap
      rw [show (setBlock w b (Obj.map (ent (kvE enc (l.set j (x, v)))).toArray (kvE enc l).length)).heap[b]? = _ from this, hput]
      simp
    · exact ⟨rfl, rfl, rfl, by simp [setBlock], fun i _ hi => (MapKept.heap_set h).2 i (fun e1 => hi (by rw [e1]))⟩
end
section
variable {κ : Type} [DecidableEq κ] {enc : κ → Value} {P : Program} {ops : Array Oper} {rest : List Oper} {o : Oper} {a : Act} {Q : Exit → Act → World → Prop} {w : World} {k e t : Nat}
theorem wpList_aput (hg : o.guard = none) (m x v : Operand) (hop : o.op = Op.insert t m x v ∨ o.op = Op.mapUpdate t m x v) (ht : P.underlying t = some (.map k e)) (hW : WideK P k) (b : Nat) (l : List (κ × Value)) (h : EMap enc w b l) (kx : κ) (vx : Value) (D : Dec P enc k w kx l)
    (hm : a.eval m = .map (some b)) (hx : a.eval x = enc kx) (hv : a.eval v = vx) (hK : ∀ w', EMap enc w' b (aput l kx vx) → w.grownBy w' (some b) → w'.heap.size = w.heap.size → wpList P ops Q rest (a.put o.dst undef) w') : wpList P ops Q (o :: rest) a w := by
  refine wpList_plain hg fun K' hK' => ?_
  obtain ⟨w', hrun, r1, r2, r3⟩ := run_put h ht hW D vx
  unfold Oper.wp
  rcases hop with hop | hop
  all_goals
    simp [execOp, hop, hm, hx, hv, hrun, Result.andThen]
    exact hK' _ _ (hK w' r1 r2 r3)
theorem wpList_aget (hg : Region.wanted o (yielded ops a.tmps) = true) (m x : Operand) (ok : Bool) (hop : o.op = Op.lookup t m x ok) (ht : P.underlying t = some (.map k e)) (hW : WideK P k) (b : Nat) (l : List (κ × Value)) (h : EMap enc w b l) (kx : κ) (D : Dec P enc k w kx l) (z : Value)
    (hz : (zeroValue e).run P w = .ok z w) (hm : a.eval m = .map (some b)) (hx : a.eval x = enc kx) (hK : wpList P ops Q rest (a.put o.dst (if ok then .tuple #[(aget l kx).getD z, .bool (aget l kx).isSome] else (aget l kx).getD z)) w) : wpList P ops Q (o :: rest) a w := by
  refine wpList_on hg fun K' hK' => ?_
  unfold Oper.wp
  simp [execOp, hop, hm, hx, run_look h ht hW D hz ok, Result.andThen]
  exact hK' _ _ hK
end
end Go.Proofs.YtnmomlaimffonaaGreat.Ag
set_option maxRecDepth 100000
namespace Go.Proofs.YtnmomlaimffonaaGreat.Pl
open Go.RowKit Go.Lib Com Mem Tr
def plo : Obj → Obj
  | .cells c t (0, 0) => .cells c t (0, 0)
  | _ => .cells #[] 0 (7, 7)
def pln (w : World) : World := { w with heap := w.heap.map plo }
theorem pln_size (w : World) : (pln w).heap.size = w.heap.size := by simp [pln]
theorem pln_at (w : World) (k : Nat) : (pln w).heap[k]? = w.heap[k]?.map plo := by simp [pln]
theorem pln_keep {w w' : World} {k : Nat} (h : w'.heap[k]? = w.heap[k]?) : (pln w').heap[k]? = (pln w).heap[k]? := by rw [pln_at, pln_at, h]
theorem pln_below {w w' : World} {B : Nat} (h : Below B w w') : Below B (pln w) (pln w') :=
  ⟨h.os, h.tape, h.output, by rw [pln_size, pln_size]; exact h.size, fun k hk => pln_keep (h.block k hk)⟩
def IsPl (w : World) (g : Nat) : Prop := ∃ c t, w.heap[g]? = some (.cells c t (0, 0))
theorem pln_cell {w : World} {p : Addr} {v : Value} (h : (pln w).cell? p = some v) : w.cell? p = some v ∧ IsPl w p.block := by
  unfold World.cell? at *
  rw [pln_at] at h
  cases hb : w.heap[p.block]? with
  | none => rw [hb] at h; simp at h
  | some o =>
    rw [hb] at h
    simp only [Option.map_some] at h
    have hc : (∃ c t, o = .cells c t (0, 0)) ∨ plo o = .cells #[] 0 (7, 7) := by
      unfold plo
      split
      · exact Or.inl ⟨_, _, rfl⟩
      · exact Or.inr rfl
    rcases hc with ⟨c, t, rfl⟩ | e
    · exact ⟨h, c, t, hb⟩
    · rw [e] at h
      simp at h
theorem pln_in {w : World} {p : Addr} (h : IsPl w p.block) : (pln w).cell? p = w.cell? p := by
  obtain ⟨c, t, hb⟩ := h
  unfold World.cell?
  rw [pln_at, hb]; rfl
theorem IsPl.below {w w' : World} {g B : Nat} (h : IsPl w g) (hb : Below B w w') (hg : g < B) : IsPl w' g := by
  obtain ⟨c, t, e⟩ := h
  exact ⟨c, t, (hb.block g hg).trans e⟩
theorem Blk.pl {w : World} {g ty : Nat} {cs : List Value} (h : Blk w g ty cs) : IsPl w g := ⟨_, _, h⟩
theorem ld4_pln {w : World} {a : Addr} {v : Value} (h : Ld4 w a v) (hp : IsPl w a.block) : Ld4 (pln w) a v := by
  obtain ⟨c0, c1, c2, c3, e, h0, h1, h2, h3⟩ := h
  exact ⟨c0, c1, c2, c3, e, (pln_in hp).trans h0, (pln_in (p := ⟨a.block, a.off + 1, none⟩) hp).trans h1, (pln_in (p := ⟨a.block, a.off + 2, none⟩) hp).trans h2, (pln_in (p := ⟨a.block, a.off + 3, none⟩) hp).trans h3⟩
theorem pln_ld4 {w : World} {a : Addr} {v : Value} (h : Ld4 (pln w) a v) : Ld4 w a v ∧ IsPl w a.block := by
  obtain ⟨c0, c1, c2, c3, e, h0, h1, h2, h3⟩ := h
  exact ⟨⟨c0, c1, c2, c3, e, (pln_cell h0).1, (pln_cell h1).1, (pln_cell h2).1, (pln_cell h3).1⟩, (pln_cell h0).2⟩
theorem ex_out {w : World} {B : Nat} {v : Value} {t : T} (h : Ex (pln w) B v t) : Ex w B v t := by
  induction h with
  | mk A c vs hs ha hcell hk ih =>
    refine .mk A c vs hs ha (fun j hj => ?_) ih
    obtain ⟨ad, e, hb, hl⟩ := hcell j hj
    exact ⟨ad, e, hb, (pln_ld4 hl).1⟩
theorem sv_inj {s s' : List UInt8} (h : sv s = sv s') : s = s' := by
  injection h with h
  injection h with h
  exact (Array.toList_inj.2 h)
theorem ld4_fun {w : World} {a : Addr} {v v' : Value} (h : Ld4 w a v) (h' : Ld4 w a v') : v = v' := by
  obtain ⟨c0, c1, c2, c3, rfl, h0, h1, h2, h3⟩ := h
  obtain ⟨d0, d1, d2, d3, rfl, g0, g1, g2, g3⟩ := h'
  rw [h0] at g0; rw [h1] at g1; rw [h2] at g2; rw [h3] at g3
  cases g0; cases g1; cases g2; cases g3; rfl
theorem ex_fun {w : World} {B B' : Nat} {v : Value} {t t' : T} (h : Ex w B v t) (h' : Ex w B' v t') : t = t' := by
  induction h generalizing t' with
  | @mk k n s ks A c vs hs ha hcell hk ih =>
    obtain ⟨k', n', s', ks'⟩ := t'
    obtain ⟨A', c', vs', e, _, _, hcell', hk'⟩ := h'.inv
    injection e with e
    have e : [Value.int .i64 k, .int .i64 n, sv s, .slice A ks.length c] = [Value.int .i64 k', .int .i64 n', sv s', .slice A' ks'.length c'] := congrArg Array.toList e
    injection e with e0 e; injection e with e1 e; injection e with e2 e; injection e with e3 e
    injection e0 with _ e0; injection e1 with _ e1
    have e2 := sv_inj e2
    injection e3 with eA el ec
    subst e0; subst e1; subst e2; subst eA
    congr 1
    apply List.ext_getElem el
    intro j h1 h2
    obtain ⟨ad, ea, _, hl⟩ := hcell j h1
    obtain ⟨ad', ea', _, hl'⟩ := hcell' j h2
    rw [ea] at ea'
    cases ea'
    have hv := ld4_fun hl hl'
    refine ih j ks[j] (List.getElem?_eq_getElem h1) ?_
    rw [hv]
    exact hk' j ks'[j] (List.getElem?_eq_getElem h2)
def PtOk (w : World) (A : Option Addr) : Prop := ∀ ad, A = some ad → IsPl w ad.block
theorem PtOk.below {w w' : World} {A : Option Addr} {B : Nat} (h : PtOk w A) (hb : Below B w w') (hB : ∀ ad, A = some ad → ad.block < B) : PtOk w' A := fun ad e => (h ad e).below hb (hB ad e)
theorem ptr_eq {P : Program} {w : World} {tp te : TypeId} {i : TypeInfo} (hp : P.underlying tp = some (.pointer te)) (hi : P.info? te = some i) (hz : i.size ≠ 0) (d : Nat) {A A' : Option Addr} (h : PtOk w A) (h' : PtOk w A') :
    (Op.equalIn (d + 1) tp (.pointer A) (.pointer A')).run P w = .ok (decide (A = A')) w := by
  cases A with
  | none =>
    cases A' with
    | none => simp [Op.equalIn, run_underlying hp]
    | some b => simp [Op.equalIn, run_underlying hp]
  | some a =>
    cases A' with
    | none => simp [Op.equalIn, run_underlying hp]
    | some b =>
      by_cases e : a = b
      · subst e
        simp [Op.equalIn, run_underlying hp, sizeOf, typeInfo, hi, run_sameAddr_same]
      · obtain ⟨c1, t1, g1⟩ := h a rfl
        obtain ⟨c2, t2, g2⟩ := h' b rfl
        simp [Op.equalIn, run_underlying hp, sizeOf, typeInfo, hi, hz, run_sameAddr_other w e g1 g2, e]
abbrev Pk := Option Addr × Nat
abbrev encP (k : Pk) : Value := .agg #[.pointer k.1, .int .i64 (k.2 : Nat)]
theorem int_eqIn {P : Program} {w : World} {ti : TypeId} (hi : P.underlying ti = some (.int .i64)) (d : Nat) (a b : Int) : (Op.equalIn (d + 1) ti (.int .i64 a) (.int .i64 b)).run P w = .ok (a == b) w := by
  simp [Op.equalIn, run_underlying hi]
theorem pair_dec (A A' : Option Addr) (n n' : Nat) : (decide (A = A') && ((n : Int) == (n' : Int))) = decide ((A', n') = (A, n)) := by
  by_cases h1 : A = A'
  · subst h1
    by_cases h2 : n = n'
    · subst h2; simp
    · have : ((n : Int) == (n' : Int)) = false := beq_false_of_ne (by omega)
      simp [this, Ne.symm h2]
  · simp [h1, Ne.symm h1]
end Go.Proofs.YtnmomlaimffonaaGreat.Pl
