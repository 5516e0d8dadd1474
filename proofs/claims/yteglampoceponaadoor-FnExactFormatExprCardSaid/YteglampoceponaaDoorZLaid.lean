/- A world for the witness: every listed variable holds its datum. -/
import Derived.Test.YteglampoceponaaDoorRows
import Derived.WalkKit
import Derived.ProofKit
import Derived.Deep.DeepHandedRow
namespace Go.Proofs.YteglampoceponaaDoor.Laid
def f0 : DataW Unit → List Value
  | .lit (.int k n) => [.int k n]
  | .lit (.bool b) => [.bool b]
  | .lit (.string l) => [.string ⟨l.toArray⟩]
  | _ => []
def f1 : DataW Unit → List Value
  | .agg l => l.flatMap f0
  | d => f0 d
def f2 : DataW Unit → List Value
  | .agg l => l.flatMap f1
  | d => f1 d
def lay (h : Array Obj) (x : Nat × DataW Unit) : Array Obj := h.modify x.1 fun
  | .cells _ t frozen => .cells (f2 x.2).toArray t frozen
  | o => o
noncomputable def vars : List (Nat × DataW Unit) := [(1, Rows.laid_math_bits_deBruijn32tab), (2, Rows.laid_math_bits_deBruijn64tab), (0, Rows.laid_internal_strconv_uint64pow10)]
noncomputable def laidWorld (os : Os) : World :=
  { World.holding Tryd.prog os ⟨#[], #[], []⟩ with heap := vars.foldl lay (World.holding Tryd.prog os ⟨#[], #[], []⟩).heap }
end Go.Proofs.YteglampoceponaaDoor.Laid
