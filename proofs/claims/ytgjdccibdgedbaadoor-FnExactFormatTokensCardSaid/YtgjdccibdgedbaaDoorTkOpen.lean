/- Arguments that are tokens or lists of tokens, read as data. -/
import Derived.Test.YtgjdccibdgedbaaDoorTz
import Derived.Test.YtgjdccibdgedbaaDoorClose
import Derived.Deep.Slices
set_option maxRecDepth 100000
namespace Go.Proofs.YtgjdccibdgedbaaDoor.Tk
open Go.ChangeShapes Go.WideShapes Go.ChangeAt Go.RowKit Go.Proofs.YtgjdccibdgedbaaDoor.Close Go.Proofs.YtgjdccibdgedbaaDoor.Mem Go.Proofs.YtgjdccibdgedbaaDoor.Os
instance : Inhabited Tok := ⟨⟨0, 0, 0, []⟩⟩
theorem add_add (a : Addr) (j i : Nat) : (a.add j).add i = a.add (j + i) := by
  rcases Nat.eq_zero_or_pos i with rfl | h
  · rfl
  · have e : (a.add j).add i = ⟨(a.add j).block, (a.add j).off + i, none⟩ := by
      generalize a.add j = b
      unfold Addr.add; rw [if_neg (by omega)]
    rw [e, add_field _ _ _ h]
section
variable {H : Type} {enc : TypeId × Value → H} {P : Program} {W : World} {base : Nat} {sp : Nat → Bool} {held : Bool}
/-- the struct's four fields -/
structure FourT (P : Program) (t ti ts : TypeId) (f0 f1 f2 f3 : Field) : Prop where
  und : P.underlying t = some (.struct #[f0, f1, f2, f3])
  cells : P.cellsOf t = 4
  t0 : f0.type = ti
  t1 : f1.type = ti
  t2 : f2.type = ti
  t3 : f3.type = ts
  o0 : f0.offset = 0
  o1 : f1.offset = 1
  o2 : f2.offset = 2
  o3 : f3.offset = 3
  ui : P.underlying ti = some (.int .i64)
  us : P.underlying ts = some .string
  ci : P.cellsOf ti = 1
  cs : P.cellsOf ts = 1
def LitT (e : Tok) : Prop := (Lit.int .i64 e.k).wf = true ∧ (Lit.int .i64 e.n).wf = true ∧ (Lit.int .i64 e.p).wf = true ∧ e.s.length ≤ 9223372036854775807
theorem open_tokF {t ti ts : TypeId} {f0 f1 f2 f3 : Field} (F : FourT P t ti ts f0 f1 f2 f3) (fuel : Nat) (cs : List Value) (x : DataW H × List MemPlace) (h : DataW.trod enc P W base sp held fuel t cs = some x) : ∃ e : Tok, cs = tcs e ∧ LitT e := by
  obtain ⟨xs, n, hfuel, hx, hl, hlen, hf⟩ := DataW.trod_struct F.und h
  rw [F.cells] at hl
  have hlen4 : xs.length = 4 := hlen
  match cs, hl, xs, hlen4 with
  | [v0, v1, v2, v3], _, [y0, y1, y2, y3], _ =>
    have q0 := hf 0 f0 rfl
    have q1 := hf 1 f1 rfl
    have q2 := hf 2 f2 rfl
    have q3 := hf 3 f3 rfl
    rw [F.t0, F.o0, F.ci] at q0
    rw [F.t1, F.o1, F.ci] at q1
    rw [F.t2, F.o2, F.ci] at q2
    rw [F.t3, F.o3, F.cs] at q3
    have q0' : DataW.trod enc P W base sp held n ti [v0] = some y0 := q0
    have q1' : DataW.trod enc P W base sp held n ti [v1] = some y1 := q1
    have q2' : DataW.trod enc P W base sp held n ti [v2] = some y2 := q2
    have q3' : DataW.trod enc P W base sp held n ts [v3] = some y3 := q3
    obtain ⟨k, ek, _, wk⟩ := DataW.trod_int F.ui q0'
    obtain ⟨m, em, _, wm⟩ := DataW.trod_int F.ui q1'
    obtain ⟨p, ep, _, wp⟩ := DataW.trod_int F.ui q2'
    obtain ⟨s, es, _, hs⟩ := DataW.trod_string F.us q3'
    cases ek
    cases em
    cases ep
    cases es
    have hsl : s.data.toList.length ≤ 9223372036854775807 := str_len hs
    have hsv : Value.string s = sv s.data.toList := congrArg Value.string (str_eta s).symm
    refine ⟨⟨k, m, p, s.data.toList⟩, ?_, ?_⟩
    · show _ = [_, _, _, sv s.data.toList]
      rw [← hsv]
    · exact ⟨wk, wm, wp, hsl⟩
end
set_option maxRecDepth 100000 in
theorem fourT : ∃ f0 f1 f2 f3, FourT Tryd.prog 51 3 9 f0 f1 f2 f3 :=
  ⟨_, _, _, _, Tryd.underlying51, by kernel_rfl, rfl, rfl, rfl, rfl, rfl, rfl, rfl, rfl, Tryd.underlying3, Tryd.underlying9, by kernel_rfl, by kernel_rfl⟩
set_option maxRecDepth 100000 in
/-- an argument that is a token -/
theorem open_tokL {H : Type} {enc : TypeId × Value → H} {W : World} {base : Nat} {sp : Nat → Bool} {v : Value} {d : DataW H} {p : List MemPlace}
    (hv : Value.okWide Tryd.prog W .any base 51 v) (h : DataW.Trod enc Tryd.prog W 0 sp true 51 v d p) : ∃ e : Tok, v = tv e ∧ LitT e := by
  obtain ⟨f0, f1, f2, f3, F⟩ := fourT
  obtain ⟨cs, hcs, _⟩ := okWide_struct F.und hv
  subst hcs
  obtain ⟨fuel, hf⟩ := h
  obtain ⟨e, he, hl⟩ := open_tokF F fuel _ _ hf
  have he' : cs = #[.int .i64 e.k, .int .i64 e.n, .int .i64 e.p, sv e.s] := by apply Array.ext'; exact he
  exact ⟨e, by rw [he'], hl⟩
theorem cellsLT : Tryd.prog.cellsOf 51 = 4 := by kernel_rfl
set_option maxRecDepth 100000 in
/-- an argument that is a list of tokens -/
theorem open_tokS {H : Type} {enc : TypeId × Value → H} {W : World} {base : Nat} {sp : Nat → Bool} {v : Value} {d : DataW H} {p : List MemPlace}
    (hv : Value.okWide Tryd.prog W .any base 32 v) (h : DataW.Trod enc Tryd.prog W 0 sp true 32 v d p) :
    ∃ (A : Option Addr) (c : Nat) (l : List Tok), v = .slice A l.length c ∧ Rd W W.heap.size A (cellsT l) ∧ (∀ t ∈ l, LitT t) ∧ l.length ≤ 9223372036854775807 := by
  obtain ⟨f0, f1, f2, f3, F⟩ := fourT
  obtain ⟨a0, len, cap, rfl⟩ := okWide_slice Tryd.underlying32 hv
  obtain ⟨fuel, hf⟩ := h
  have hf' : DataW.trod enc Tryd.prog W 0 sp true fuel 32 [.slice a0 len cap] = some (d, p) := hf
  rcases DataW.trod_slice Tryd.underlying32 hf' with ⟨e3, _⟩ | ⟨a, len', cap', elems, rest, n', hn', e3, _, _, hlc, hcm, hel, hget, _, _⟩
  · cases e3
    exact ⟨none, 0, [], rfl, Rd.nil_, by simp, by simp⟩
  · cases e3
    rw [cellsLT] at hget
    have hfam : ∀ i, i < len → ∃ z : Tok, W.cells? 0 (a.add (i * 4)) 4 = some (tcs z) ∧ LitT z := fun i hi => by
      have hg := hget i hi
      rw [List.getElem?_eq_getElem (by omega)] at hg
      obtain ⟨cs', h1, h2⟩ := Option.bind_eq_some_iff.1 hg
      obtain ⟨e, he, hl⟩ := open_tokF F _ cs' _ h2
      exact ⟨e, by rw [h1, he], hl⟩
    obtain ⟨fam, hfm⟩ := Go.Deep.choose_lt hfam
    have hlr : ((List.range len).map fam).length = len := by simp
    refine ⟨some a, cap, (List.range len).map fam, by rw [hlr], fun hne => ?_, fun t ht => ?_, by rw [hlr]; unfold maxLen at hcm; omega⟩
    · have hcell : ∀ i (hi : i < len) r u, (tcs (fam i))[r]? = some u → W.cell? (a.add (i * 4 + r)) = some u := fun i hi r u hu => by
        obtain ⟨_, hl, hc⟩ := World.cells?_some (hfm i hi).1
        have hr : r < 4 := by
          rcases Nat.lt_or_ge r 4 with h | h
          · exact h
          · rw [List.getElem?_eq_none (by simpa using h)] at hu; cases hu
        have := hc r hr
        rw [add_add] at this
        rw [this]
        exact hu
      have h0 : 0 < len := by
        rcases Nat.eq_zero_or_pos len with h | h
        · subst h; exact absurd rfl hne
        · exact h
      refine ⟨a, rfl, ?_, fun j u hj => ?_⟩
      · have := lt_cell (hcell 0 h0 0 _ rfl)
        rwa [add_block] at this
      · have hjl : j < len * 4 := by
          rcases Nat.lt_or_ge j (len * 4) with h | h
          · exact h
          · rw [List.getElem?_eq_none (by rw [cellsT_len, hlr]; exact h)] at hj; cases hj
        have hi : j / 4 < len := by omega
        obtain ⟨g0, g1, g2, g3⟩ := cellsT_at ((List.range len).map fam) (j / 4) (by rw [hlr]; exact hi)
        have e1 : ((List.range len).map fam)[j / 4]'(by rw [hlr]; exact hi) = fam (j / 4) := by simp
        rw [e1] at g0 g1 g2 g3
        have hd : j = j / 4 * 4 + j % 4 := by omega
        have hr : j % 4 = 0 ∨ j % 4 = 1 ∨ j % 4 = 2 ∨ j % 4 = 3 := by omega
        have hc := hcell (j / 4) hi
        generalize j / 4 = q at *
        rcases hr with hr | hr | hr | hr <;> rw [hr] at hd <;> subst hd
        · rw [Nat.add_zero] at hj; rw [g0] at hj; exact hc 0 u hj
        · rw [g1] at hj; exact hc 1 u hj
        · rw [g2] at hj; exact hc 2 u hj
        · rw [g3] at hj; exact hc 3 u hj
    · obtain ⟨i, hi, rfl⟩ := List.mem_map.1 ht
      exact (hfm i (List.mem_range.1 hi)).2
end Go.Proofs.YtgjdccibdgedbaaDoor.Tk
