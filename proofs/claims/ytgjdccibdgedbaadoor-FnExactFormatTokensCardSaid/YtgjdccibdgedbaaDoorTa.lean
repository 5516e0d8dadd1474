/- A slice of tokens of the call's own that grows. -/
import Derived.Test.YtgjdccibdgedbaaDoorTk
set_option maxRecDepth 100000
namespace Go.Proofs.YtgjdccibdgedbaaDoor.Tk
open Go.RowKit Go.Lib Go.Proofs.YtgjdccibdgedbaaDoor.Com Go.Proofs.YtgjdccibdgedbaaDoor.Mem Go.Proofs.YtgjdccibdgedbaaDoor.Os Go.Proofs.YtgjdccibdgedbaaDoor.Ow

abbrev RowT (w : World) (base : Nat) (v : Value) (l : List Tok) : Prop := w.ownsRow base TK 4 v l.length (cellsT l)
theorem row_form {w : World} {base e n m : Nat} {v : Value} {xs : List Value} (h : w.ownsRow base e n v m xs) : ∃ A c, v = .slice A m c := by
  rcases h.2 with ⟨rfl, rfl⟩ | ⟨g, c, cur, rfl, _⟩
  · exact ⟨none, 0, rfl⟩
  · exact ⟨_, _, rfl⟩
theorem row_below {w w' : World} {base e sz n : Nat} {v : Value} {xs : List Value} (h : w.ownsRow base e sz v n xs) (hb : Below w.heap.size w w') : w'.ownsRow base e sz v n xs :=
  h.kept (row := none) ⟨hb.os, hb.tape, hb.output, hb.size, fun k hk _ => hb.block k hk⟩ (by cases v.ownBlock <;> simp)
theorem row_nil (w : World) (base : Nat) : RowT w base (.slice none 0 0) [] := World.ownsRow_nil _ _ _ _
theorem row_lit0 (w : World) : RowT (w.alloc (.cells #[] TK)) w.heap.size (.slice (some ⟨w.heap.size, 0, none⟩) 0 0) [] :=
  ⟨rfl, Or.inr ⟨w.heap.size, 0, #[], rfl, Nat.le_refl _, heap_alloc_new w _, Nat.le_refl _, by unfold maxLen; omega, rfl, rfl⟩⟩
/-- append of one token -/
theorem app_tok {w : World} {base : Nat} {v : Value} {l : List Tok} (h : RowT w base v l) (hbs : base ≤ w.heap.size) (t : Tok) (hl : l.length < 1000000) {o : Oper} {a : Act} {ops : Array Oper} {rest : List Oper} {Q : Exit → Act → World → Prop} (hgd : o.guard = none) (s x : Operand)
    (ho : o.op = .call { callee := .builtin .append, args := #[s, x], argTypes := #[25, 25] }) (hs : a.eval s = v) (g : Nat) (hg : g = w.heap.size) (hx : a.eval x = .slice (some ⟨g, 0, none⟩) 1 1)
    (hK : ∀ v' w', RowT w' base v' (l ++ [t]) → w.grownBy w' v.ownBlock → wpList Tryd.prog ops Q rest (a.put o.dst v') w') :
    wpList Tryd.prog ops Q (o :: rest) a (w.alloc (.cells #[.int .i64 t.k, .int .i64 t.n, .int .i64 t.p, sv t.s] TK)) := by
  subst hg
  obtain ⟨i0, hi, hz0, hz1, hz2⟩ := info_parts tokInfo
  refine wpList_append_own (P := Tryd.prog) _ hgd s x 25 ho base TK i0 (tv ⟨0, 0, 0, []⟩) 4 40 Tryd.underlying25 hi hz0 hz1 hz2 rfl (by decide) v l.length (cellsT l) hs (h.alloc _) ⟨w.heap.size, 0, none⟩ 1 1 (tcs t) hx rfl (row_lit w t)
    (fun u hu => tcs_one [t] u (by simpa [cellsT] using hu)) (by unfold maxLen; omega) (by omega) (by rw [size_alloc']; omega) ?_
  intro v' w' hown hg _
  refine hK v' w' ?_ (gb_trans (World.grownBy_alloc w _ _) hg)
  have e : cellsT (l ++ [t]) = cellsT l ++ tcs t := by rw [cellsT_append]; simp [cellsT]
  unfold RowT
  rw [e, List.length_append]
  exact hown
theorem below_row {w0 w w' : World} {base : Nat} {v : Value} {l : List Tok} (hb : Below base w0 w) (h : RowT w base v l) (hg : w.grownBy w' v.ownBlock) (hbs : base ≤ w.heap.size) : Below base w0 w' :=
  hb.grown hg hbs (fun g e => (h.lt g e).1)
end Go.Proofs.YtgjdccibdgedbaaDoor.Tk
