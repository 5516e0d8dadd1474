/- Chapter 3: the program's table, and ApplyOp and OpSymbol over it. -/
import Derived.Test.YtjopcajecnnchaaC3b
import Derived.Laws.EntriesVeiled
import Derived.Laws.Rows
namespace Go.Proofs.Ytjopcajecnnchaa.C3
open Go.RowKit Go.Lib Go.Sort Go.Proofs.Ytjopcajecnnchaa.Com Go.Proofs.Ytjopcajecnnchaa.Mem

def tab : Value := .agg #[Value.string ⟨#[]⟩, Value.nilFunc, Value.string ⟨#[43]⟩, Value.func (Fn.func 39) #[] #[], Value.string ⟨#[45]⟩, Value.func (Fn.func 40) #[] #[], Value.string ⟨#[42]⟩, Value.func (Fn.func 41) #[] #[], Value.string ⟨#[47]⟩, Value.func (Fn.func 42) #[] #[], Value.string ⟨#[60]⟩, Value.func (Fn.func 43) #[] #[], Value.string ⟨#[61, 61]⟩, Value.func (Fn.func 45) #[] #[], Value.string ⟨#[38]⟩, Value.func (Fn.func 46) #[] #[], Value.string ⟨#[124]⟩, Value.func (Fn.func 47) #[] #[]]
set_option maxHeartbeats 1000000 in
theorem ops_any (w : World) : Calls Try.prog 30 #[] w fun e w' => e = .returned tab ∧ Below w.heap.size w w' := by
  go_enter Try.func30, Try.ntmps30
  go_wp2_with fail
  refine bodyPost_ret (results_cell_row Try.results30 _ _ w.heap.size 45 _ (0, 0) _ rfl (heap_alloc_new w _) Try.underlying45 rfl (by kernel_rfl)) rfl ⟨rfl, (Below.refl _ _).alloc (Nat.le_refl _) _⟩
end Go.Proofs.Ytjopcajecnnchaa.C3
