/- Arguments that are outcomes, read as data. -/
import Derived.Test.YtnmomlaimffonaaOc11
import Derived.Test.YtnmomlaimffonaaClose
import Derived.Deep.Slices
set_option maxRecDepth 100000
namespace Go.Proofs.Ytnmomlaimffonaa.Oc
open Go.ChangeShapes Go.WideShapes Go.ChangeAt Go.RowKit Go.Proofs.Ytnmomlaimffonaa.Close Go.Proofs.Ytnmomlaimffonaa.Mem Go.Proofs.Ytnmomlaimffonaa.Os
section
variable {H : Type} {enc : TypeId × Value → H} {P : Program} {W : World} {base : Nat} {sp : Nat → Bool} {held : Bool}
/-- the struct's four fields -/
structure FourO (P : Program) (t ti tl : TypeId) (f0 f1 f2 f3 : Field) : Prop where
  und : P.underlying t = some (.struct #[f0, f1, f2, f3])
  cells : P.cellsOf t = 4
  t0 : f0.type = ti
  t1 : f1.type = tl
  t2 : f2.type = tl
  t3 : f3.type = ti
  o0 : f0.offset = 0
  o1 : f1.offset = 1
  o2 : f2.offset = 2
  o3 : f3.offset = 3
  ui : P.underlying ti = some (.int .i64)
  ul : P.underlying tl = some (.slice ti)
  ci : P.cellsOf ti = 1
  cl : P.cellsOf tl = 1
/-- a row of integers -/
theorem open_rowI {t e : TypeId} (ht : P.underlying t = some (.slice e)) (he : P.underlying e = some (.int .i64)) (hce : P.cellsOf e = 1) {n : Nat} {v : Value} {x : DataW H × List MemPlace} (hn : DataW.trod enc P W base sp held n t [v] = some x) :
    ∃ (A : Option Addr) (c : Nat) (l : List Int), v = .slice A l.length c ∧ Rd W W.heap.size A (l.map iv) ∧ l.length ≤ I63 := by
  rcases open_ints ht he hce hn with ⟨hcs, hx⟩ | ⟨a, len', cap', ss, hcs, _, hl, hm, hz, hx, hcell, hws⟩
  · injection hcs with hcs
    subst hcs
    exact ⟨none, 0, [], rfl, Rd.nil_, by simp⟩
  · injection hcs with hcs
    subst hcs
    have hlen : (ss.take len').length = len' := by rw [List.length_take, hz]; split <;> omega
    refine ⟨some a, cap', ss.take len', by rw [hlen], fun _ => ⟨a, rfl, ?_, ?_⟩, by rw [hlen]; unfold maxLen at hm; unfold I63; omega⟩
    · by_cases h0 : len' = 0
      · rename_i hne; subst h0; simp at hne
      · have := lt_cell (hcell 0 (by rw [List.length_take] at hlen; omega))
        rwa [add_block] at this
    · intro j u hu
      rw [List.getElem?_map] at hu
      cases hq : (ss.take len')[j]? with
      | none => rw [hq] at hu; cases hu
      | some y =>
        rw [hq] at hu
        obtain ⟨hj, hy⟩ := List.getElem?_eq_some_iff.1 hq
        have hjl : j < ss.length := by rw [List.length_take] at hj; omega
        rw [hcell j hjl, ← Option.some.inj hu]
        rw [List.getElem_take] at hy
        rw [List.getD_eq_getElem?_getD, List.getElem?_eq_getElem hjl, Option.getD_some, hy]
theorem open_ocF {t ti tl : TypeId} {f0 f1 f2 f3 : Field} (F : FourO P t ti tl f0 f1 f2 f3) (fuel : Nat) (cs : List Value) (x : DataW H × List MemPlace) (h : DataW.trod enc P W base sp held fuel t cs = some x) : ∃ o : Oc, OcAt W W.heap.size (.agg cs.toArray) o := by
  obtain ⟨xs, n, hfuel, hx, hl, hlen, hf⟩ := DataW.trod_struct F.und h
  rw [F.cells] at hl
  have hlen4 : xs.length = 4 := hlen
  match cs, hl, xs, hlen4 with
  | [v0, v1, v2, v3], _, [y0, y1, y2, y3], _ =>
    have q0 := hf 0 f0 rfl
    have q1 := hf 1 f1 rfl
    have q2 := hf 2 f2 rfl
    have q3 := hf 3 f3 rfl
    rw [F.t0, F.o0, F.ci] at q0
    rw [F.t1, F.o1, F.cl] at q1
    rw [F.t2, F.o2, F.cl] at q2
    rw [F.t3, F.o3, F.ci] at q3
    have q0' : DataW.trod enc P W base sp held n ti [v0] = some y0 := q0
    have q1' : DataW.trod enc P W base sp held n tl [v1] = some y1 := q1
    have q2' : DataW.trod enc P W base sp held n tl [v2] = some y2 := q2
    have q3' : DataW.trod enc P W base sp held n ti [v3] = some y3 := q3
    obtain ⟨k, ek, _, wk⟩ := DataW.trod_int F.ui q0'
    obtain ⟨A, c, l, rfl, hr, hll⟩ := open_rowI F.ul F.ui F.ci q1'
    obtain ⟨A', c', l', rfl, hr', hll'⟩ := open_rowI F.ul F.ui F.ci q2'
    obtain ⟨m, em, _, wm⟩ := DataW.trod_int F.ui q3'
    cases ek
    cases em
    exact ⟨⟨k, l, l', m⟩, A, c, A', c', rfl, hr, hll, hr', hll'⟩
end
set_option maxRecDepth 100000 in
theorem fourOL : ∃ f0 f1 f2 f3, FourO Try.prog 24 3 22 f0 f1 f2 f3 :=
  ⟨_, _, _, _, Try.underlying24, by kernel_rfl, rfl, rfl, rfl, rfl, rfl, rfl, rfl, rfl, Try.underlying3, Try.underlying22, by kernel_rfl, by kernel_rfl⟩
set_option maxRecDepth 100000 in
/-- an argument that is an outcome -/
theorem open_ocL {H : Type} {enc : TypeId × Value → H} {W : World} {base : Nat} {sp : Nat → Bool} {v : Value} {d : DataW H} {p : List MemPlace}
    (hv : Value.okWide Try.prog W .any base 24 v) (h : DataW.Trod enc Try.prog W 0 sp true 24 v d p) : ∃ o : Oc, OcAt W W.heap.size v o := by
  obtain ⟨f0, f1, f2, f3, F⟩ := fourOL
  obtain ⟨cs, hcs, _⟩ := okWide_struct F.und hv
  subst hcs
  obtain ⟨fuel, hf⟩ := h
  exact open_ocF F fuel _ _ hf
end Go.Proofs.Ytnmomlaimffonaa.Oc
