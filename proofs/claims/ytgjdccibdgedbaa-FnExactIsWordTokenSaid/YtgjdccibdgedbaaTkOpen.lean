/- Arguments that are tokens or lists of tokens, read as data. -/
import Derived.Test.YtgjdccibdgedbaaTz
import Derived.Test.YtgjdccibdgedbaaClose
import Derived.Deep.Slices
set_option maxRecDepth 100000
namespace Go.Proofs.Ytgjdccibdgedbaa.Tk
open Go.ChangeShapes Go.WideShapes Go.ChangeAt Go.RowKit Go.Proofs.Ytgjdccibdgedbaa.Close Go.Proofs.Ytgjdccibdgedbaa.Mem Go.Proofs.Ytgjdccibdgedbaa.Os
instance : Inhabited Tok := ⟨⟨0, 0, 0, []⟩⟩
theorem add_add (a : Addr) (j i : Nat) : (a.add j).add i = a.add (j + i) := by
  rcases Nat.eq_zero_or_pos i with rfl | h
  · rfl
  · have e : (a.add j).add i = ⟨(a.add j).block, (a.add j).off + i, none⟩ := by
      generalize a.add j = b
      unfold Addr.add; rw [if_neg (by omega)]
    rw [e, add_field _ _ _ h]
section
variable {H : Type} {enc : TypeId × Value → H} {P : Program} {W : World} {base : Nat} {sp : Nat → Bool} {held : Bool}
/-- the struct's four fields -/
structure FourT (P : Program) (t ti ts : TypeId) (f0 f1 f2 f3 : Field) : Prop where
  und : P.underlying t = some (.struct #[f0, f1, f2, f3])
  cells : P.cellsOf t = 4
  t0 : f0.type = ti
  t1 : f1.type = ti
  t2 : f2.type = ti
  t3 : f3.type = ts
  o0 : f0.offset = 0
  o1 : f1.offset = 1
  o2 : f2.offset = 2
  o3 : f3.offset = 3
  ui : P.underlying ti = some (.int .i64)
  us : P.underlying ts = some .string
  ci : P.cellsOf ti = 1
  cs : P.cellsOf ts = 1
def LitT (e : Tok) : Prop := (Lit.int .i64 e.k).wf = true ∧ (Lit.int .i64 e.n).wf = true ∧ (Lit.int .i64 e.p).wf = true ∧ e.s.length ≤ 9223372036854775807
theorem open_tokF {t ti ts : TypeId} {f0 f1 f2 f3 : Field} (F : FourT P t ti ts f0 f1 f2 f3) (fuel : Nat) (cs : List Value) (x : DataW H × List MemPlace) (h : DataW.trod enc P W base sp held fuel t cs = some x) : ∃ e : Tok, cs = tcs e ∧ LitT e := by
  obtain ⟨xs, n, hfuel, hx, hl, hlen, hf⟩ := DataW.trod_struct F.und h
  rw [F.cells] at hl
  have hlen4 : xs.length = 4 := hlen
  match cs, hl, xs, hlen4 with
  | [v0, v1, v2, v3], _, [y0, y1, y2, y3], _ =>
    have q0 := hf 0 f0 rfl
    have q1 := hf 1 f1 rfl
    have q2 := hf 2 f2 rfl
    have q3 := hf 3 f3 rfl
    rw [F.t0, F.o0, F.ci] at q0
    rw [F.t1, F.o1, F.ci] at q1
    rw [F.t2, F.o2, F.ci] at q2
    rw [F.t3, F.o3, F.cs] at q3
    have q0' : DataW.trod enc P W base sp held n ti [v0] = some y0 := q0
    have q1' : DataW.trod enc P W base sp held n ti [v1] = some y1 := q1
    have q2' : DataW.trod enc P W base sp held n ti [v2] = some y2 := q2
    have q3' : DataW.trod enc P W base sp held n ts [v3] = some y3 := q3
    obtain ⟨k, ek, _, wk⟩ := DataW.trod_int F.ui q0'
    obtain ⟨m, em, _, wm⟩ := DataW.trod_int F.ui q1'
    obtain ⟨p, ep, _, wp⟩ := DataW.trod_int F.ui q2'
    obtain ⟨s, es, _, hs⟩ := DataW.trod_string F.us q3'
    cases ek
    cases em
    cases ep
    cases es
    have hsl : s.data.toList.length ≤ 9223372036854775807 := str_len hs
    have hsv : Value.string s = sv s.data.toList := congrArg Value.string (str_eta s).symm
    refine ⟨⟨k, m, p, s.data.toList⟩, ?_, ?_⟩
    · show _ = [_, _, _, sv s.data.toList]
      rw [← hsv]
    · exact ⟨wk, wm, wp, hsl⟩
end
set_option maxRecDepth 100000 in
theorem fourT : ∃ f0 f1 f2 f3, FourT Try.prog 29 3 9 f0 f1 f2 f3 :=
  ⟨_, _, _, _, Try.underlying29, by kernel_rfl, rfl, rfl, rfl, rfl, rfl, rfl, rfl, rfl, Try.underlying3, Try.underlying9, by kernel_rfl, by kernel_rfl⟩
set_option maxRecDepth 100000 in
/-- an argument that is a token -/
theorem open_tokL {H : Type} {enc : TypeId × Value → H} {W : World} {base : Nat} {sp : Nat → Bool} {v : Value} {d : DataW H} {p : List MemPlace}
    (hv : Value.okWide Try.prog W .any base 29 v) (h : DataW.Trod enc Try.prog W 0 sp true 29 v d p) : ∃ e : Tok, v = tv e ∧ LitT e := by
  obtain ⟨f0, f1, f2, f3, F⟩ := fourT
  obtain ⟨cs, hcs, _⟩ := okWide_struct F.und hv
  subst hcs
  obtain ⟨fuel, hf⟩ := h
  obtain ⟨e, he, hl⟩ := open_tokF F fuel _ _ hf
  have he' : cs = #[.int .i64 e.k, .int .i64 e.n, .int .i64 e.p, sv e.s] := by apply Array.ext'; exact he
  exact ⟨e, by rw [he'], hl⟩
end Go.Proofs.Ytgjdccibdgedbaa.Tk
