/- An argument that is an expression, read as a tree. -/
import Derived.Test.YtnmomlaimffonaaGreatZTr
import Derived.Test.YtnmomlaimffonaaGreatZClose
import Derived.Deep.Slices
set_option maxRecDepth 100000
namespace Go.Proofs.YtnmomlaimffonaaGreat.Tr
open Go.ChangeShapes Go.WideShapes Go.ChangeAt Go.RowKit Close Mem
instance : Inhabited T := ⟨.mk 0 0 [] []⟩
theorem add_off (a : Addr) (i : Nat) (h : 0 < i) : a.add i = ⟨a.block, a.off + i, none⟩ := by unfold Addr.add; rw [if_neg (by omega)]
section
variable {H : Type} {enc : TypeId × Value → H} {P : Program} {W : World} {base : Nat} {sp : Nat → Bool} {held : Bool}
structure Four (P : Program) (t sl ti ts : TypeId) (f0 f1 f2 f3 : Field) : Prop where
  und : P.underlying t = some (.struct #[f0, f1, f2, f3])
  cells : P.cellsOf t = 4
  t0 : f0.type = ti
  t1 : f1.type = ti
  t2 : f2.type = ts
  t3 : f3.type = sl
  o0 : f0.offset = 0
  o1 : f1.offset = 1
  o2 : f2.offset = 2
  o3 : f3.offset = 3
  ui : P.underlying ti = some (.int .i64)
  us : P.underlying ts = some .string
  ul : P.underlying sl = some (.slice t)
  ci : P.cellsOf ti = 1
  cs : P.cellsOf ts = 1
  cl : P.cellsOf sl = 1
theorem ld4_of {w : World} {a : Addr} {cs : List Value} (h : w.cells? base a 4 = some cs) : Ld4 w a (.agg cs.toArray) ∧ a.block < w.heap.size := by
  obtain ⟨_, hl, hc⟩ := World.cells?_some h
  match cs, hl with
  | [c0, c1, c2, c3], _ =>
    have e0 := hc 0 (by omega)
    have e1 := hc 1 (by omega)
    have e2 := hc 2 (by omega)
    have e3 := hc 3 (by omega)
    rw [add_off a 1 (by omega)] at e1
    rw [add_off a 2 (by omega)] at e2
    rw [add_off a 3 (by omega)] at e3
    have e0' : w.cell? a = some c0 := e0
    exact ⟨⟨c0, c1, c2, c3, rfl, e0', e1, e2, e3⟩, lt_cell e0'⟩
theorem open_exF {t sl ti ts : TypeId} {f0 f1 f2 f3 : Field} (F : Four P t sl ti ts f0 f1 f2 f3) (fuel : Nat) : ∀ (cs : List Value) (x : DataW H × List MemPlace), DataW.trod enc P W base sp held fuel t cs = some x → ∃ e, Ex W W.heap.size (.agg cs.toArray) e := by
  induction fuel using Nat.strongRecOn with
  | ind fuel ih =>
    intro cs x h
    obtain ⟨xs, n, hfuel, hx, hl, hlen, hf⟩ := DataW.trod_struct F.und h
    rw [F.cells] at hl
    have hlen4 : xs.length = 4 := hlen
    match cs, hl, xs, hlen4 with
    | [v0, v1, v2, v3], _, [y0, y1, y2, y3], _ =>
      have q0 := hf 0 f0 rfl
      have q1 := hf 1 f1 rfl
      have q2 := hf 2 f2 rfl
      have q3 := hf 3 f3 rfl
      rw [F.t0, F.o0, F.ci] at q0
      rw [F.t1, F.o1, F.ci] at q1
      rw [F.t2, F.o2, F.cs] at q2
      rw [F.t3, F.o3, F.cl] at q3
      have q0' : DataW.trod enc P W base sp held n ti [v0] = some y0 := q0
      have q1' : DataW.trod enc P W base sp held n ti [v1] = some y1 := q1
      have q2' : DataW.trod enc P W base sp held n ts [v2] = some y2 := q2
      have q3' : DataW.trod enc P W base sp held n sl [v3] = some y3 := q3
      obtain ⟨k, ek, _, _⟩ := DataW.trod_int F.ui q0'
      obtain ⟨m, em, _, _⟩ := DataW.trod_int F.ui q1'
      obtain ⟨s, es, _, hs⟩ := DataW.trod_string F.us q2'
      cases ek
      cases em
      cases es
      have hsl : s.data.toList.length ≤ 9223372036854775807 := str_len hs
      have hsv : Value.string s = sv s.data.toList := congrArg Value.string (str_eta s).symm
      rcases DataW.trod_slice F.ul q3' with ⟨e3, _⟩ | ⟨a, len, cap, elems, rest, n', hn', e3, _, _, hlc, hcm, hel, hget, _, _⟩
      · cases e3
        refine ⟨.mk k m s.data.toList [], ?_⟩
        have := Ex.mk (w := W) (B := W.heap.size) (k := k) (n := m) (s := s.data.toList) (ks := []) none 0 (fun _ => .agg #[]) hsl (by simp) (fun j hj => by simp at hj) (fun j a ha => by simp at ha)
        unfold nv at this
        rw [← hsv] at this
        exact this
      · cases e3
        rw [F.cells] at hget
        have hfam : ∀ i, i < len → ∃ z : List Value × T, (∃ y, W.cells? base (a.add (i * 4)) 4 = some z.1 ∧ DataW.trod enc P W base sp held n' t z.1 = some y) ∧ Ex W W.heap.size (.agg z.1.toArray) z.2 := fun i hi => by
          have hg := hget i hi
          rw [List.getElem?_eq_getElem (by omega)] at hg
          obtain ⟨cs', h1, h2⟩ := Option.bind_eq_some_iff.1 hg
          obtain ⟨e, he⟩ := ih n' (by omega) cs' _ h2
          exact ⟨(cs', e), ⟨_, h1, h2⟩, he⟩
        obtain ⟨fam, hfm⟩ := Go.Deep.choose_lt hfam
        have hcl : len ≤ 9223372036854775807 := by unfold maxLen at hcm; omega
        have hlr : ((List.range len).map fun i => (fam i).2).length = len := by simp
        refine ⟨.mk k m s.data.toList ((List.range len).map fun i => (fam i).2), ?_⟩
        have := Ex.mk (w := W) (B := W.heap.size) (k := k) (n := m) (s := s.data.toList) (ks := (List.range len).map fun i => (fam i).2) (some a) cap (fun i => .agg (fam i).1.toArray) hsl (by rw [hlr]; exact hcl)
          (fun j hj => by
            rw [hlr] at hj
            obtain ⟨⟨y, h1, _⟩, _⟩ := hfm j hj
            obtain ⟨h2, h3⟩ := ld4_of h1
            rw [add_block] at h3
            exact ⟨a, rfl, h3, h2⟩)
          (fun j e he => by
            have hj : j < len := by
              rcases Nat.lt_or_ge j len with h | h
              · exact h
              · rw [List.getElem?_eq_none (by rw [hlr]; exact h)] at he; cases he
            rw [List.getElem?_map, List.getElem?_range hj] at he
            cases he
            exact (hfm j hj).2)
        rw [hlr] at this
        unfold nv at this
        rw [← hsv] at this
        exact this
end
set_option maxRecDepth 100000 in
theorem fourL : ∃ f0 f1 f2 f3, Four Tryz.prog 101 99 3 9 f0 f1 f2 f3 :=
  ⟨_, _, _, _, Tryz.underlying101, by kernel_rfl, rfl, rfl, rfl, rfl, rfl, rfl, rfl, rfl, Tryz.underlying3, Tryz.underlying9, Tryz.underlying99, by kernel_rfl, by kernel_rfl, by kernel_rfl⟩
end Go.Proofs.YtnmomlaimffonaaGreat.Tr
