/-
  NARROWER THAN 'FOR EVERY INPUT', by the rows' own cells (each row's printed sentence says how): FnExactCountExpr: loops · FnExactDepthOfExpr: loops · FnExactIsValidExpr: loops · FnExactEqualExpr: loops · FnExactVarsOfExpr: loops · FnExactEvalExpr: loops.
  DERIVED. THE GIVEN ROWS OF THIS SEAT. 8 by the template 'for every input the law returns true; each argument reads behind the call as it read before'; 0 by the template 'total and deterministic' (their statements: YtlkfejcnkckgkaaTotals.lean).
  GIVEN WITH THE SEED: the statements are not yours to turn. If you find one false, say at which input.
  Laid BY PROGRAM, IN A SANDBOX (cutbox-rows.mjs): the forced cells as the released guide's own fill.sh prints them over the translation f1e7e54715380be7… (all of the seat's roots in one cut). By AI agents, Wed Nov 11 2026. No macro, syntax, notation, axiom, sorry.
-/
import Derived.Test.YtlkfejcnkckgkaaChecked
import GoSem.Claim
import GoSem.ClaimJoined
import GoSem.ClaimMapViews
import Derived.JoinedTies
import Derived.KernelRfl
namespace Go.Proofs.Ytlkfejcnkckgkaa
/- THE CELL 'sum', in the pinned program and in every row, IS THE sha256 OF THE DUMP (.gsa) THAT YtlkfejcnkckgkaaProg.lean LOADS. Nothing in Lean hashes anything: it is a label: what it is worth is what the hold of that sum in a sandbox is worth. -/
noncomputable def Try.pinned : Pinned := { name := "ytlkfejcnkckgkaa", sum := "f1e7e54715380be770db24ed06d358b306a6accdb9c881fec71a0a791955c5ab", checked := Try.checked }
namespace Rows
def none {H : Type} : Left H := { results := [], args := [] }

/-- 'laws.FnExprs': WHATEVER THE INPUT: true; the input reads as it did. -/
def fnExprsSpec : ChangeSpec := { name := "fnExprs", fn := fun _ => fun
  | [d] => { results := [.lit (.bool true)], args := [d] }
  | _ => none }
def fnExprsRow : OpenClaim := { program := "ytlkfejcnkckgkaa", sum := "f1e7e54715380be770db24ed06d358b306a6accdb9c881fec71a0a791955c5ab", func := "loop.example/g00514/laws.FnExprs", spec := "fnExprs", recurses := true, plainKeys := false, apart := false }
def FnExprsSaid : Prop := fnExprsRow.holds Try.pinned (OpenSpec.ofChange fnExprsSpec)

/-- ITS FALSE NEIGHBOUR: 'it returns false'. Refute it at one input. -/
def fnExprsWrong : ChangeSpec := { name := "fnExprs", fn := fun _ => fun
  | [d] => { results := [.lit (.bool false)], args := [d] }
  | _ => none }
def FnExprsWrongFalsely : Prop := fnExprsRow.holds Try.pinned (OpenSpec.ofChange fnExprsWrong)

/-- 'laws.FnEval': WHATEVER THE INPUT: true; the input reads as it did. -/
def fnEvalSpec : ChangeSpec := { name := "fnEval", fn := fun _ => fun
  | [d] => { results := [.lit (.bool true)], args := [d] }
  | _ => none }
def fnEvalRow : OpenClaim := { program := "ytlkfejcnkckgkaa", sum := "f1e7e54715380be770db24ed06d358b306a6accdb9c881fec71a0a791955c5ab", func := "loop.example/g00514/laws.FnEval", spec := "fnEval", unfollowed := true, recurses := true, plainKeys := false, apart := false }
def FnEvalSaid : Prop := fnEvalRow.holds Try.pinned (OpenSpec.ofChange fnEvalSpec)

/-- ITS FALSE NEIGHBOUR: 'it returns false'. Refute it at one input. -/
def fnEvalWrong : ChangeSpec := { name := "fnEval", fn := fun _ => fun
  | [d] => { results := [.lit (.bool false)], args := [d] }
  | _ => none }
def FnEvalWrongFalsely : Prop := fnEvalRow.holds Try.pinned (OpenSpec.ofChange fnEvalWrong)

/-- 'laws.FnExactCountExpr': WHATEVER THE INPUT: true; the input reads as it did. -/
def fnExactCountExprSpec : ChangeSpec := { name := "fnExactCountExpr", fn := fun _ => fun
  | [d] => { results := [.lit (.bool true)], args := [d] }
  | _ => none }
def fnExactCountExprRow : OpenClaim := { program := "ytlkfejcnkckgkaa", sum := "f1e7e54715380be770db24ed06d358b306a6accdb9c881fec71a0a791955c5ab", func := "loop.example/g00514/laws.FnExactCountExpr", spec := "fnExactCountExpr", recurses := true, loops := true, plainKeys := false, apart := false }
def FnExactCountExprSaid : Prop := fnExactCountExprRow.holds Try.pinned (OpenSpec.ofChange fnExactCountExprSpec)

/-- ITS FALSE NEIGHBOUR: 'it returns false'. Refute it at one input. -/
def fnExactCountExprWrong : ChangeSpec := { name := "fnExactCountExpr", fn := fun _ => fun
  | [d] => { results := [.lit (.bool false)], args := [d] }
  | _ => none }
def FnExactCountExprWrongFalsely : Prop := fnExactCountExprRow.holds Try.pinned (OpenSpec.ofChange fnExactCountExprWrong)

/-- 'laws.FnExactDepthOfExpr': WHATEVER THE INPUT: true; the input reads as it did. -/
def fnExactDepthOfExprSpec : ChangeSpec := { name := "fnExactDepthOfExpr", fn := fun _ => fun
  | [d] => { results := [.lit (.bool true)], args := [d] }
  | _ => none }
def fnExactDepthOfExprRow : OpenClaim := { program := "ytlkfejcnkckgkaa", sum := "f1e7e54715380be770db24ed06d358b306a6accdb9c881fec71a0a791955c5ab", func := "loop.example/g00514/laws.FnExactDepthOfExpr", spec := "fnExactDepthOfExpr", recurses := true, loops := true, plainKeys := false, apart := false }
def FnExactDepthOfExprSaid : Prop := fnExactDepthOfExprRow.holds Try.pinned (OpenSpec.ofChange fnExactDepthOfExprSpec)

/-- ITS FALSE NEIGHBOUR: 'it returns false'. Refute it at one input. -/
def fnExactDepthOfExprWrong : ChangeSpec := { name := "fnExactDepthOfExpr", fn := fun _ => fun
  | [d] => { results := [.lit (.bool false)], args := [d] }
  | _ => none }
def FnExactDepthOfExprWrongFalsely : Prop := fnExactDepthOfExprRow.holds Try.pinned (OpenSpec.ofChange fnExactDepthOfExprWrong)

/-- 'laws.FnExactIsValidExpr': WHATEVER THE INPUT: true; the input reads as it did. -/
def fnExactIsValidExprSpec : ChangeSpec := { name := "fnExactIsValidExpr", fn := fun _ => fun
  | [d] => { results := [.lit (.bool true)], args := [d] }
  | _ => none }
def fnExactIsValidExprRow : OpenClaim := { program := "ytlkfejcnkckgkaa", sum := "f1e7e54715380be770db24ed06d358b306a6accdb9c881fec71a0a791955c5ab", func := "loop.example/g00514/laws.FnExactIsValidExpr", spec := "fnExactIsValidExpr", recurses := true, loops := true, plainKeys := false, apart := false }
def FnExactIsValidExprSaid : Prop := fnExactIsValidExprRow.holds Try.pinned (OpenSpec.ofChange fnExactIsValidExprSpec)

/-- ITS FALSE NEIGHBOUR: 'it returns false'. Refute it at one input. -/
def fnExactIsValidExprWrong : ChangeSpec := { name := "fnExactIsValidExpr", fn := fun _ => fun
  | [d] => { results := [.lit (.bool false)], args := [d] }
  | _ => none }
def FnExactIsValidExprWrongFalsely : Prop := fnExactIsValidExprRow.holds Try.pinned (OpenSpec.ofChange fnExactIsValidExprWrong)

/-- 'laws.FnExactEqualExpr': WHATEVER THE INPUT: true; the input reads as it did. -/
def fnExactEqualExprSpec : ChangeSpec := { name := "fnExactEqualExpr", fn := fun _ => fun
  | [d1, d2] => { results := [.lit (.bool true)], args := [d1, d2] }
  | _ => none }
def fnExactEqualExprRow : OpenClaim := { program := "ytlkfejcnkckgkaa", sum := "f1e7e54715380be770db24ed06d358b306a6accdb9c881fec71a0a791955c5ab", func := "loop.example/g00514/laws.FnExactEqualExpr", spec := "fnExactEqualExpr", recurses := true, loops := true, plainKeys := false, apart := false }
def FnExactEqualExprSaid : Prop := fnExactEqualExprRow.holds Try.pinned (OpenSpec.ofChange fnExactEqualExprSpec)

/-- ITS FALSE NEIGHBOUR: 'it returns false'. Refute it at one input. -/
def fnExactEqualExprWrong : ChangeSpec := { name := "fnExactEqualExpr", fn := fun _ => fun
  | [d1, d2] => { results := [.lit (.bool false)], args := [d1, d2] }
  | _ => none }
def FnExactEqualExprWrongFalsely : Prop := fnExactEqualExprRow.holds Try.pinned (OpenSpec.ofChange fnExactEqualExprWrong)

/-- 'laws.FnExactVarsOfExpr': WHATEVER THE INPUT: true; the input reads as it did. -/
def fnExactVarsOfExprSpec : ChangeSpec := { name := "fnExactVarsOfExpr", fn := fun _ => fun
  | [d] => { results := [.lit (.bool true)], args := [d] }
  | _ => none }
def fnExactVarsOfExprRow : OpenClaim := { program := "ytlkfejcnkckgkaa", sum := "f1e7e54715380be770db24ed06d358b306a6accdb9c881fec71a0a791955c5ab", func := "loop.example/g00514/laws.FnExactVarsOfExpr", spec := "fnExactVarsOfExpr", recurses := true, loops := true, plainKeys := false, apart := false }
def FnExactVarsOfExprSaid : Prop := fnExactVarsOfExprRow.holds Try.pinned (OpenSpec.ofChange fnExactVarsOfExprSpec)

/-- ITS FALSE NEIGHBOUR: 'it returns false'. Refute it at one input. -/
def fnExactVarsOfExprWrong : ChangeSpec := { name := "fnExactVarsOfExpr", fn := fun _ => fun
  | [d] => { results := [.lit (.bool false)], args := [d] }
  | _ => none }
def FnExactVarsOfExprWrongFalsely : Prop := fnExactVarsOfExprRow.holds Try.pinned (OpenSpec.ofChange fnExactVarsOfExprWrong)

/-- 'laws.FnExactEvalExpr': WHATEVER THE INPUT: true; the input reads as it did. -/
def fnExactEvalExprSpec : ChangeSpec := { name := "fnExactEvalExpr", fn := fun _ => fun
  | [d1, d2, d3] => { results := [.lit (.bool true)], args := [d1, d2, d3] }
  | _ => none }
def fnExactEvalExprRow : OpenClaim := { program := "ytlkfejcnkckgkaa", sum := "f1e7e54715380be770db24ed06d358b306a6accdb9c881fec71a0a791955c5ab", func := "loop.example/g00514/laws.FnExactEvalExpr", spec := "fnExactEvalExpr", unfollowed := true, recurses := true, loops := true, plainKeys := false, apart := false }
def FnExactEvalExprSaid : Prop := fnExactEvalExprRow.holds Try.pinned (OpenSpec.ofChange fnExactEvalExprSpec)

/-- ITS FALSE NEIGHBOUR: 'it returns false'. Refute it at one input. -/
def fnExactEvalExprWrong : ChangeSpec := { name := "fnExactEvalExpr", fn := fun _ => fun
  | [d1, d2, d3] => { results := [.lit (.bool false)], args := [d1, d2, d3] }
  | _ => none }
def FnExactEvalExprWrongFalsely : Prop := fnExactEvalExprRow.holds Try.pinned (OpenSpec.ofChange fnExactEvalExprWrong)

/- THE SECOND FORM. 'bulk': how many values and letters a reading holds, each counted each time it is reached (what is shared counts as often as it is met; a slice's spare places count too). A statement '..UptoSaid' is the law's where the arguments, and the package variables that the reading takes, are together of bulk at most 1048576: NARROWER than '..Said'. Prove '..Said' where nothing that the law and all that it calls make is longer than what came in: it says more and counts as full. Else prove '..UptoSaid'. A law counts once. -/
mutual
def uptoBulk {H : Type} : DataW H → Nat
  | .lit (.string bytes) => bytes.length + 1
  | .lit _ => 1
  | .nil => 1
  | .ptr d => uptoBulk d + 1
  | .slice elems spare => uptoBulkAll elems + uptoBulkAll spare + 1
  | .agg parts => uptoBulkAll parts + 1
  | .iface _ d => uptoBulk d + 1
  | .map entries => uptoBulkEntries entries + 1
  | .held _ => 1
def uptoBulkAll {H : Type} : List (DataW H) → Nat
  | [] => 0
  | d :: r => uptoBulk d + uptoBulkAll r
def uptoBulkEntries {H : Type} : List (Lit × DataW H) → Nat
  | [] => 0
  | x :: r => uptoBulkEntry x + uptoBulkEntries r
def uptoBulkEntry {H : Type} : Lit × DataW H → Nat
  | (.string bytes, d) => bytes.length + uptoBulk d + 1
  | (_, d) => uptoBulk d + 1
 end
def uptoSmall : (H : Type) → List (DataW H) → Bool := fun _ ds => decide (uptoBulkAll ds ≤ 1048576)
def OpenSpec.upto (s : _root_.Go.ChangeSpec) : _root_.Go.OpenSpec := { _root_.Go.OpenSpec.ofChange s with cond := some uptoSmall }

/-- 'laws.FnExprs', WHERE WHAT IT READS IS OF BULK AT MOST 1048576: true; the input reads as it did. -/
def fnExprsUptoRow : OpenClaim := { program := "ytlkfejcnkckgkaa", sum := "f1e7e54715380be770db24ed06d358b306a6accdb9c881fec71a0a791955c5ab", func := "loop.example/g00514/laws.FnExprs", spec := "fnExprs", recurses := true, plainKeys := false, apart := false, narrowed := true }
def FnExprsUptoSaid : Prop := fnExprsUptoRow.holds Try.pinned (OpenSpec.upto fnExprsSpec)

/-- 'laws.FnEval', WHERE WHAT IT READS IS OF BULK AT MOST 1048576: true; the input reads as it did. -/
def fnEvalUptoRow : OpenClaim := { program := "ytlkfejcnkckgkaa", sum := "f1e7e54715380be770db24ed06d358b306a6accdb9c881fec71a0a791955c5ab", func := "loop.example/g00514/laws.FnEval", spec := "fnEval", unfollowed := true, recurses := true, plainKeys := false, apart := false, narrowed := true }
def FnEvalUptoSaid : Prop := fnEvalUptoRow.holds Try.pinned (OpenSpec.upto fnEvalSpec)

/-- 'laws.FnExactCountExpr', WHERE WHAT IT READS IS OF BULK AT MOST 1048576: true; the input reads as it did. -/
def fnExactCountExprUptoRow : OpenClaim := { program := "ytlkfejcnkckgkaa", sum := "f1e7e54715380be770db24ed06d358b306a6accdb9c881fec71a0a791955c5ab", func := "loop.example/g00514/laws.FnExactCountExpr", spec := "fnExactCountExpr", recurses := true, loops := true, plainKeys := false, apart := false, narrowed := true }
def FnExactCountExprUptoSaid : Prop := fnExactCountExprUptoRow.holds Try.pinned (OpenSpec.upto fnExactCountExprSpec)

/-- 'laws.FnExactDepthOfExpr', WHERE WHAT IT READS IS OF BULK AT MOST 1048576: true; the input reads as it did. -/
def fnExactDepthOfExprUptoRow : OpenClaim := { program := "ytlkfejcnkckgkaa", sum := "f1e7e54715380be770db24ed06d358b306a6accdb9c881fec71a0a791955c5ab", func := "loop.example/g00514/laws.FnExactDepthOfExpr", spec := "fnExactDepthOfExpr", recurses := true, loops := true, plainKeys := false, apart := false, narrowed := true }
def FnExactDepthOfExprUptoSaid : Prop := fnExactDepthOfExprUptoRow.holds Try.pinned (OpenSpec.upto fnExactDepthOfExprSpec)

/-- 'laws.FnExactIsValidExpr', WHERE WHAT IT READS IS OF BULK AT MOST 1048576: true; the input reads as it did. -/
def fnExactIsValidExprUptoRow : OpenClaim := { program := "ytlkfejcnkckgkaa", sum := "f1e7e54715380be770db24ed06d358b306a6accdb9c881fec71a0a791955c5ab", func := "loop.example/g00514/laws.FnExactIsValidExpr", spec := "fnExactIsValidExpr", recurses := true, loops := true, plainKeys := false, apart := false, narrowed := true }
def FnExactIsValidExprUptoSaid : Prop := fnExactIsValidExprUptoRow.holds Try.pinned (OpenSpec.upto fnExactIsValidExprSpec)

/-- 'laws.FnExactEqualExpr', WHERE WHAT IT READS IS OF BULK AT MOST 1048576: true; the input reads as it did. -/
def fnExactEqualExprUptoRow : OpenClaim := { program := "ytlkfejcnkckgkaa", sum := "f1e7e54715380be770db24ed06d358b306a6accdb9c881fec71a0a791955c5ab", func := "loop.example/g00514/laws.FnExactEqualExpr", spec := "fnExactEqualExpr", recurses := true, loops := true, plainKeys := false, apart := false, narrowed := true }
def FnExactEqualExprUptoSaid : Prop := fnExactEqualExprUptoRow.holds Try.pinned (OpenSpec.upto fnExactEqualExprSpec)

/-- 'laws.FnExactVarsOfExpr', WHERE WHAT IT READS IS OF BULK AT MOST 1048576: true; the input reads as it did. -/
def fnExactVarsOfExprUptoRow : OpenClaim := { program := "ytlkfejcnkckgkaa", sum := "f1e7e54715380be770db24ed06d358b306a6accdb9c881fec71a0a791955c5ab", func := "loop.example/g00514/laws.FnExactVarsOfExpr", spec := "fnExactVarsOfExpr", recurses := true, loops := true, plainKeys := false, apart := false, narrowed := true }
def FnExactVarsOfExprUptoSaid : Prop := fnExactVarsOfExprUptoRow.holds Try.pinned (OpenSpec.upto fnExactVarsOfExprSpec)

/-- 'laws.FnExactEvalExpr', WHERE WHAT IT READS IS OF BULK AT MOST 1048576: true; the input reads as it did. -/
def fnExactEvalExprUptoRow : OpenClaim := { program := "ytlkfejcnkckgkaa", sum := "f1e7e54715380be770db24ed06d358b306a6accdb9c881fec71a0a791955c5ab", func := "loop.example/g00514/laws.FnExactEvalExpr", spec := "fnExactEvalExpr", unfollowed := true, recurses := true, loops := true, plainKeys := false, apart := false, narrowed := true }
def FnExactEvalExprUptoSaid : Prop := fnExactEvalExprUptoRow.holds Try.pinned (OpenSpec.upto fnExactEvalExprSpec)

end Rows
end Go.Proofs.Ytlkfejcnkckgkaa
