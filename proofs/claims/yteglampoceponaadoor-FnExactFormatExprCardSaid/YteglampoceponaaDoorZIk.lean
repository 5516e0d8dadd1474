/- Maps with integers as keys that the call makes out of a literal: insert, kget up. -/
import Derived.Test.YteglampoceponaaDoorZIm
set_option maxRecDepth 100000
namespace Go.Proofs.YteglampoceponaaDoor.Ik
open Go.RowKit Go.Proofs.YteglampoceponaaDoor.Mem Go.Proofs.YteglampoceponaaDoor.Im
open Go.ChangeMaps (setBlock)

abbrev kv (p : Int × Value) : Value × Value := (.int .i64 p.1, p.2)
/-- block b is a map of just these entries -/
def KMap (w : World) (b : Nat) (l : List (Int × Value)) : Prop := IMap w b (l.map kv)
def kget (l : List (Int × Value)) (x : Int) : Option Value := (l.find? fun p => p.1 == x).map Prod.snd
section
variable {P : Program} {w w' : World} {b k e t : Nat} {l : List (Int × Value)} {x : Int}
theorem KMap.alloc (h : KMap w b l) (o : Obj) : KMap (w.alloc o) b l := IMap.alloc h o
theorem KMap.below {B : Nat} (h : KMap w b l) (hb : Below B w w') (hg : b < B) : KMap w' b l := IMap.below h hb hg
theorem find_zip (x : Int) : ∀ (l : List (Int × Value)) (m i : Nat), ∃ r, Instr.findNow (.int .i64) (.int .i64 x) (((l.map kv).zipIdx m).map fun p => { key := p.1.1, val := p.1.2, born := p.2 }) i = some r ∧ r.map Prod.snd = kget l x
  | [], _, _ => ⟨none, rfl, rfl⟩
  | p :: l, m, i => by
    by_cases h : x = p.1
    · refine ⟨some (i, p.2), ?_, ?_⟩
      · simp [Instr.findNow, Instr.sameNow, h]
      · simp [kget, h]
    · obtain ⟨r, h1, h2⟩ := find_zip x l (m + 1) (i + 1)
      refine ⟨r, ?_, ?_⟩
      · have hq : (x == p.1) = false := beq_false_of_ne h
        simp only [List.map_cons, List.zipIdx_cons, Instr.findNow, Instr.sameNow, hq, if_true]
        exact h1
      · have h' : ¬ p.1 = x := fun e => h e.symm
        rw [h2]; simp [kget, h']
theorem find_at (hk : P.underlying k = some (.int .i64)) (w : World) : ∃ r, (Instr.findKey k (.int .i64 x) (ent (l.map kv))).run P w = .ok r w ∧ r.map Prod.snd = kget l x := by
  obtain ⟨r, h1, h2⟩ := find_zip x l 0 0
  exact ⟨r, MapKept.run_findKey hk h1, h2⟩
theorem check (hk : P.underlying k = some (.int .i64)) (em : Bool) (w : World) : (Instr.checkKey em 10000 k (.int .i64 x)).run P w = .ok () w :=
  MapKept.run_checkKey hk (by simp [MapKept.IsKey]) em 9999
theorem run_look (h : KMap w b l) (ht : P.underlying t = some (.map k e)) (hk : P.underlying k = some (.int .i64)) {z : Value} (hz : (zeroValue e).run P w = .ok z w) (ok : Bool) :
    (Instr.lookup t (.map (some b)) (.int .i64 x) ok).run P w = .ok (if ok then .tuple #[(kget l x).getD z, .bool (kget l x).isSome] else (kget l x).getD z) w := by
  obtain ⟨r, hf, hr⟩ := find_at (x := x) (l := l) hk w
  unfold Instr.lookup
  cases r with
  | none =>
    rw [← hr]
    simp [Sem.run_bind, run_underlying ht, MapKept.run_getObj_map h, check hk, hf, hz, Result.andThen]
  | some p =>
    rw [← hr]
    simp [Sem.run_bind, run_underlying ht, MapKept.run_getObj_map h, check hk, hf, Result.andThen]
theorem run_upd (h : KMap w b l) (ht : P.underlying t = some (.map k e)) (hk : P.underlying k = some (.int .i64)) (hn : kget l x = none) (v : Value) :
    ∃ w', (Instr.mapUpdate t (.map (some b)) (.int .i64 x) v).run P w = .ok () w' ∧ KMap w' b (l ++ [(x, v)]) ∧ w.grownBy w' (some b) ∧ w'.heap.size = w.heap.size := by
  obtain ⟨r, hf, hr⟩ := find_at (x := x) (l := l) hk w
  rw [hn] at hr
  cases r with
  | some p => cases hr
  | none =>
    refine ⟨setBlock w b (.map (ent (l.map kv ++ [(.int .i64 x, v)])).toArray ((l.map kv).length + 1)), ?_, ?_, ?_, by simp [setBlock]⟩
    · unfold Instr.mapUpdate
      simp [Sem.run_bind, run_underlying ht, MapKept.run_getObj_map h, check hk, hf, Result.andThen, ent_snoc]
      simp [setObj, Sem.run, setBlock]
      unfold KMap IMap at h
      simp [h]
    · have := (MapKept.heap_set (o' := .map (ent (l.map kv ++ [(.int .i64 x, v)])).toArray ((l.map kv).length + 1)) h).1
      unfold KMap IMap
      rw [show (setBlock w b (Obj.map (ent (l.map kv ++ [(.int .i64 x, v)])).toArray ((l.map kv).length + 1))).heap[b]? = _ from this]
      simp
    · exact ⟨rfl, rfl, rfl, by simp [setBlock], fun i _ hi => (MapKept.heap_set h).2 i (fun e1 => hi (by rw [e1]))⟩
end
/-! in a walk -/
section
variable {P : Program} {ops : Array Oper} {rest : List Oper} {o : Oper} {a : Act} {Q : Exit → Act → World → Prop} {w : World} {k e t : Nat}
theorem wpList_put (hg : o.guard = none) (m x v : Operand) (hop : o.op = Op.insert t m x v ∨ o.op = Op.mapUpdate t m x v) (ht : P.underlying t = some (.map k e)) (hk : P.underlying k = some (.int .i64)) (b : Nat) (l : List (Int × Value)) (h : KMap w b l) (kx : Int) (vx : Value)
    (hm : a.eval m = .map (some b)) (hx : a.eval x = .int .i64 kx) (hv : a.eval v = vx) (hn : kget l kx = none) (hK : ∀ w', KMap w' b (l ++ [(kx, vx)]) → w.grownBy w' (some b) → w'.heap.size = w.heap.size → wpList P ops Q rest (a.put o.dst undef) w') : wpList P ops Q (o :: rest) a w := by
  refine wpList_plain hg fun K' hK' => ?_
  obtain ⟨w', hrun, r1, r2, r3⟩ := run_upd h ht hk hn vx
  unfold Oper.wp
  rcases hop with hop | hop
  all_goals
    simp [execOp, hop, hm, hx, hv, hrun, Result.andThen]
    exact hK' _ _ (hK w' r1 r2 r3)
theorem wpList_get (hg : Region.wanted o (yielded ops a.tmps) = true) (m x : Operand) (ok : Bool) (hop : o.op = Op.lookup t m x ok) (ht : P.underlying t = some (.map k e)) (hk : P.underlying k = some (.int .i64)) (b : Nat) (l : List (Int × Value)) (h : KMap w b l) (kx : Int) (z : Value)
    (hz : (zeroValue e).run P w = .ok z w) (hm : a.eval m = .map (some b)) (hx : a.eval x = .int .i64 kx) (hK : wpList P ops Q rest (a.put o.dst (if ok then .tuple #[(kget l kx).getD z, .bool (kget l kx).isSome] else (kget l kx).getD z)) w) : wpList P ops Q (o :: rest) a w := by
  refine wpList_on hg fun K' hK' => ?_
  unfold Oper.wp
  simp [execOp, hop, hm, hx, run_look h ht hk hz ok, Result.andThen]
  exact hK' _ _ hK
end
end Go.Proofs.YteglampoceponaaDoor.Ik
