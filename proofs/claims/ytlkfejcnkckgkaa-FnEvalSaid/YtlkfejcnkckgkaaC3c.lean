/- Chapter 3: the program's table, and ApplyOp and OpSymbol over it. -/
import Derived.Test.YtlkfejcnkckgkaaC3b
import Derived.Laws.EntriesVeiled
import Derived.Laws.Rows
set_option maxRecDepth 100000
namespace Go.Proofs.Ytlkfejcnkckgkaa.C3
open Go.RowKit Go.Lib Go.Sort Go.Proofs.Ytlkfejcnkckgkaa.Com Go.Proofs.Ytlkfejcnkckgkaa.Mem

def tab : Value := .agg #[Value.string ⟨#[]⟩, Value.nilFunc, Value.string ⟨#[43]⟩, Value.func (Fn.func 111) #[] #[], Value.string ⟨#[45]⟩, Value.func (Fn.func 112) #[] #[], Value.string ⟨#[42]⟩, Value.func (Fn.func 113) #[] #[], Value.string ⟨#[47]⟩, Value.func (Fn.func 114) #[] #[], Value.string ⟨#[60]⟩, Value.func (Fn.func 115) #[] #[], Value.string ⟨#[61, 61]⟩, Value.func (Fn.func 116) #[] #[], Value.string ⟨#[38]⟩, Value.func (Fn.func 117) #[] #[], Value.string ⟨#[124]⟩, Value.func (Fn.func 118) #[] #[]]
set_option maxHeartbeats 1000000 in
theorem ops_any (w : World) : Calls Try.prog 91 #[] w fun e w' => e = .returned tab ∧ Below w.heap.size w w' := by
  go_enter Try.func91, Try.ntmps91
  go_wp2_with fail
  refine bodyPost_ret (results_cell_row Try.results91 _ _ w.heap.size 119 _ (0, 0) _ rfl (heap_alloc_new w _) Try.underlying119 rfl (by kernel_rfl)) rfl ⟨rfl, (Below.refl _ _).alloc (Nat.le_refl _) _⟩
end Go.Proofs.Ytlkfejcnkckgkaa.C3
