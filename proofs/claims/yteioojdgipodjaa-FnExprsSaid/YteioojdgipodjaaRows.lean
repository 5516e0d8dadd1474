/-
  NARROWER THAN 'FOR EVERY INPUT', by the rows' own cells (each row's printed sentence says how): FnExactCountStmts: loops · FnExactBlockDepth: loops · FnExactEqualProgram: loops · FnExactAssignedVars: loops · FnExactCountExpr: loops · FnExactDepthOfExpr: loops · FnExactEqualExpr: loops · FnExactVarsOfExpr: loops.
  DERIVED. THE GIVEN ROWS OF THIS SEAT. 9 by the template 'for every input the law returns true; each argument reads behind the call as it read before'; 0 by the template 'total and deterministic' (their statements: YteioojdgipodjaaTotals.lean).
  GIVEN WITH THE SEED: the statements are not yours to turn. If you find one false, say at which input.
  Laid BY PROGRAM, IN A SANDBOX (cutbox-rows.mjs): the forced cells as the released guide's own fill.sh prints them over the translation 55781fa3aec67d43… (all of the seat's roots in one cut). By AI agents, Wed Nov 11 2026. No macro, syntax, notation, axiom, sorry.
-/
import Derived.Test.YteioojdgipodjaaChecked
import GoSem.Claim
import GoSem.ClaimJoined
import GoSem.ClaimMapViews
import Derived.JoinedTies
import Derived.KernelRfl
namespace Go.Proofs.Yteioojdgipodjaa
/- THE CELL 'sum', in the pinned program and in every row, IS THE sha256 OF THE DUMP (.gsa) THAT YteioojdgipodjaaProg.lean LOADS. Nothing in Lean hashes anything: it is a label: what it is worth is what the hold of that sum in a sandbox is worth. -/
noncomputable def Try.pinned : Pinned := { name := "yteioojdgipodjaa", sum := "55781fa3aec67d43b47d8b08f8b482d40305db68fa3a73e73c000fb758ea62b5", checked := Try.checked }
namespace Rows
def none {H : Type} : Left H := { results := [], args := [] }

/-- 'laws.FnExactCountStmts': WHATEVER THE INPUT: true; the input reads as it did. -/
def fnExactCountStmtsSpec : ChangeSpec := { name := "fnExactCountStmts", fn := fun _ => fun
  | [d] => { results := [.lit (.bool true)], args := [d] }
  | _ => none }
def fnExactCountStmtsRow : OpenClaim := { program := "yteioojdgipodjaa", sum := "55781fa3aec67d43b47d8b08f8b482d40305db68fa3a73e73c000fb758ea62b5", func := "loop.example/g00514/laws.FnExactCountStmts", spec := "fnExactCountStmts", unfollowed := true, recurses := true, loops := true, plainKeys := false, apart := false }
def FnExactCountStmtsSaid : Prop := fnExactCountStmtsRow.holds Try.pinned (OpenSpec.ofChange fnExactCountStmtsSpec)

/-- ITS FALSE NEIGHBOUR: 'it returns false'. Refute it at one input. -/
def fnExactCountStmtsWrong : ChangeSpec := { name := "fnExactCountStmts", fn := fun _ => fun
  | [d] => { results := [.lit (.bool false)], args := [d] }
  | _ => none }
def FnExactCountStmtsWrongFalsely : Prop := fnExactCountStmtsRow.holds Try.pinned (OpenSpec.ofChange fnExactCountStmtsWrong)

/-- 'laws.FnExactBlockDepth': WHATEVER THE INPUT: true; the input reads as it did. -/
def fnExactBlockDepthSpec : ChangeSpec := { name := "fnExactBlockDepth", fn := fun _ => fun
  | [d] => { results := [.lit (.bool true)], args := [d] }
  | _ => none }
def fnExactBlockDepthRow : OpenClaim := { program := "yteioojdgipodjaa", sum := "55781fa3aec67d43b47d8b08f8b482d40305db68fa3a73e73c000fb758ea62b5", func := "loop.example/g00514/laws.FnExactBlockDepth", spec := "fnExactBlockDepth", unfollowed := true, recurses := true, loops := true, plainKeys := false, apart := false }
def FnExactBlockDepthSaid : Prop := fnExactBlockDepthRow.holds Try.pinned (OpenSpec.ofChange fnExactBlockDepthSpec)

/-- ITS FALSE NEIGHBOUR: 'it returns false'. Refute it at one input. -/
def fnExactBlockDepthWrong : ChangeSpec := { name := "fnExactBlockDepth", fn := fun _ => fun
  | [d] => { results := [.lit (.bool false)], args := [d] }
  | _ => none }
def FnExactBlockDepthWrongFalsely : Prop := fnExactBlockDepthRow.holds Try.pinned (OpenSpec.ofChange fnExactBlockDepthWrong)

/-- 'laws.FnExactEqualProgram': WHATEVER THE INPUT: true; the input reads as it did. -/
def fnExactEqualProgramSpec : ChangeSpec := { name := "fnExactEqualProgram", fn := fun _ => fun
  | [d1, d2] => { results := [.lit (.bool true)], args := [d1, d2] }
  | _ => none }
def fnExactEqualProgramRow : OpenClaim := { program := "yteioojdgipodjaa", sum := "55781fa3aec67d43b47d8b08f8b482d40305db68fa3a73e73c000fb758ea62b5", func := "loop.example/g00514/laws.FnExactEqualProgram", spec := "fnExactEqualProgram", unfollowed := true, recurses := true, loops := true, plainKeys := false, apart := false }
def FnExactEqualProgramSaid : Prop := fnExactEqualProgramRow.holds Try.pinned (OpenSpec.ofChange fnExactEqualProgramSpec)

/-- ITS FALSE NEIGHBOUR: 'it returns false'. Refute it at one input. -/
def fnExactEqualProgramWrong : ChangeSpec := { name := "fnExactEqualProgram", fn := fun _ => fun
  | [d1, d2] => { results := [.lit (.bool false)], args := [d1, d2] }
  | _ => none }
def FnExactEqualProgramWrongFalsely : Prop := fnExactEqualProgramRow.holds Try.pinned (OpenSpec.ofChange fnExactEqualProgramWrong)

/-- 'laws.FnExactAssignedVars': WHATEVER THE INPUT: true; the input reads as it did. -/
def fnExactAssignedVarsSpec : ChangeSpec := { name := "fnExactAssignedVars", fn := fun _ => fun
  | [d] => { results := [.lit (.bool true)], args := [d] }
  | _ => none }
def fnExactAssignedVarsRow : OpenClaim := { program := "yteioojdgipodjaa", sum := "55781fa3aec67d43b47d8b08f8b482d40305db68fa3a73e73c000fb758ea62b5", func := "loop.example/g00514/laws.FnExactAssignedVars", spec := "fnExactAssignedVars", unfollowed := true, recurses := true, loops := true, plainKeys := false, apart := false }
def FnExactAssignedVarsSaid : Prop := fnExactAssignedVarsRow.holds Try.pinned (OpenSpec.ofChange fnExactAssignedVarsSpec)

/-- ITS FALSE NEIGHBOUR: 'it returns false'. Refute it at one input. -/
def fnExactAssignedVarsWrong : ChangeSpec := { name := "fnExactAssignedVars", fn := fun _ => fun
  | [d] => { results := [.lit (.bool false)], args := [d] }
  | _ => none }
def FnExactAssignedVarsWrongFalsely : Prop := fnExactAssignedVarsRow.holds Try.pinned (OpenSpec.ofChange fnExactAssignedVarsWrong)

/-- 'laws.FnExprs': WHATEVER THE INPUT: true; the input reads as it did. -/
def fnExprsSpec : ChangeSpec := { name := "fnExprs", fn := fun _ => fun
  | [d] => { results := [.lit (.bool true)], args := [d] }
  | _ => none }
def fnExprsRow : OpenClaim := { program := "yteioojdgipodjaa", sum := "55781fa3aec67d43b47d8b08f8b482d40305db68fa3a73e73c000fb758ea62b5", func := "loop.example/g00514/laws.FnExprs", spec := "fnExprs", unfollowed := true, recurses := true, plainKeys := false, apart := false }
def FnExprsSaid : Prop := fnExprsRow.holds Try.pinned (OpenSpec.ofChange fnExprsSpec)

/-- ITS FALSE NEIGHBOUR: 'it returns false'. Refute it at one input. -/
def fnExprsWrong : ChangeSpec := { name := "fnExprs", fn := fun _ => fun
  | [d] => { results := [.lit (.bool false)], args := [d] }
  | _ => none }
def FnExprsWrongFalsely : Prop := fnExprsRow.holds Try.pinned (OpenSpec.ofChange fnExprsWrong)

/-- 'laws.FnExactCountExpr': WHATEVER THE INPUT: true; the input reads as it did. -/
def fnExactCountExprSpec : ChangeSpec := { name := "fnExactCountExpr", fn := fun _ => fun
  | [d] => { results := [.lit (.bool true)], args := [d] }
  | _ => none }
def fnExactCountExprRow : OpenClaim := { program := "yteioojdgipodjaa", sum := "55781fa3aec67d43b47d8b08f8b482d40305db68fa3a73e73c000fb758ea62b5", func := "loop.example/g00514/laws.FnExactCountExpr", spec := "fnExactCountExpr", unfollowed := true, recurses := true, loops := true, plainKeys := false, apart := false }
def FnExactCountExprSaid : Prop := fnExactCountExprRow.holds Try.pinned (OpenSpec.ofChange fnExactCountExprSpec)

/-- ITS FALSE NEIGHBOUR: 'it returns false'. Refute it at one input. -/
def fnExactCountExprWrong : ChangeSpec := { name := "fnExactCountExpr", fn := fun _ => fun
  | [d] => { results := [.lit (.bool false)], args := [d] }
  | _ => none }
def FnExactCountExprWrongFalsely : Prop := fnExactCountExprRow.holds Try.pinned (OpenSpec.ofChange fnExactCountExprWrong)

/-- 'laws.FnExactDepthOfExpr': WHATEVER THE INPUT: true; the input reads as it did. -/
def fnExactDepthOfExprSpec : ChangeSpec := { name := "fnExactDepthOfExpr", fn := fun _ => fun
  | [d] => { results := [.lit (.bool true)], args := [d] }
  | _ => none }
def fnExactDepthOfExprRow : OpenClaim := { program := "yteioojdgipodjaa", sum := "55781fa3aec67d43b47d8b08f8b482d40305db68fa3a73e73c000fb758ea62b5", func := "loop.example/g00514/laws.FnExactDepthOfExpr", spec := "fnExactDepthOfExpr", unfollowed := true, recurses := true, loops := true, plainKeys := false, apart := false }
def FnExactDepthOfExprSaid : Prop := fnExactDepthOfExprRow.holds Try.pinned (OpenSpec.ofChange fnExactDepthOfExprSpec)

/-- ITS FALSE NEIGHBOUR: 'it returns false'. Refute it at one input. -/
def fnExactDepthOfExprWrong : ChangeSpec := { name := "fnExactDepthOfExpr", fn := fun _ => fun
  | [d] => { results := [.lit (.bool false)], args := [d] }
  | _ => none }
def FnExactDepthOfExprWrongFalsely : Prop := fnExactDepthOfExprRow.holds Try.pinned (OpenSpec.ofChange fnExactDepthOfExprWrong)

/-- 'laws.FnExactEqualExpr': WHATEVER THE INPUT: true; the input reads as it did. -/
def fnExactEqualExprSpec : ChangeSpec := { name := "fnExactEqualExpr", fn := fun _ => fun
  | [d1, d2] => { results := [.lit (.bool true)], args := [d1, d2] }
  | _ => none }
def fnExactEqualExprRow : OpenClaim := { program := "yteioojdgipodjaa", sum := "55781fa3aec67d43b47d8b08f8b482d40305db68fa3a73e73c000fb758ea62b5", func := "loop.example/g00514/laws.FnExactEqualExpr", spec := "fnExactEqualExpr", unfollowed := true, recurses := true, loops := true, plainKeys := false, apart := false }
def FnExactEqualExprSaid : Prop := fnExactEqualExprRow.holds Try.pinned (OpenSpec.ofChange fnExactEqualExprSpec)

/-- ITS FALSE NEIGHBOUR: 'it returns false'. Refute it at one input. -/
def fnExactEqualExprWrong : ChangeSpec := { name := "fnExactEqualExpr", fn := fun _ => fun
  | [d1, d2] => { results := [.lit (.bool false)], args := [d1, d2] }
  | _ => none }
def FnExactEqualExprWrongFalsely : Prop := fnExactEqualExprRow.holds Try.pinned (OpenSpec.ofChange fnExactEqualExprWrong)

/-- 'laws.FnExactVarsOfExpr': WHATEVER THE INPUT: true; the input reads as it did. -/
def fnExactVarsOfExprSpec : ChangeSpec := { name := "fnExactVarsOfExpr", fn := fun _ => fun
  | [d] => { results := [.lit (.bool true)], args := [d] }
  | _ => none }
def fnExactVarsOfExprRow : OpenClaim := { program := "yteioojdgipodjaa", sum := "55781fa3aec67d43b47d8b08f8b482d40305db68fa3a73e73c000fb758ea62b5", func := "loop.example/g00514/laws.FnExactVarsOfExpr", spec := "fnExactVarsOfExpr", unfollowed := true, recurses := true, loops := true, plainKeys := false, apart := false }
def FnExactVarsOfExprSaid : Prop := fnExactVarsOfExprRow.holds Try.pinned (OpenSpec.ofChange fnExactVarsOfExprSpec)

/-- ITS FALSE NEIGHBOUR: 'it returns false'. Refute it at one input. -/
def fnExactVarsOfExprWrong : ChangeSpec := { name := "fnExactVarsOfExpr", fn := fun _ => fun
  | [d] => { results := [.lit (.bool false)], args := [d] }
  | _ => none }
def FnExactVarsOfExprWrongFalsely : Prop := fnExactVarsOfExprRow.holds Try.pinned (OpenSpec.ofChange fnExactVarsOfExprWrong)

/- THE SECOND FORM. 'bulk': how many values and letters a reading holds, each counted each time it is reached (what is shared counts as often as it is met; a slice's spare places count too). A statement '..UptoSaid' is the law's where the arguments, and the package variables that the reading takes, are together of bulk at most 1048576: NARROWER than '..Said'. Prove '..Said' where nothing that the law and all that it calls make is longer than what came in: it says more and counts as full. Else prove '..UptoSaid'. A law counts once. -/
mutual
def uptoBulk {H : Type} : DataW H → Nat
  | .lit (.string bytes) => bytes.length + 1
  | .lit _ => 1
  | .nil => 1
  | .ptr d => uptoBulk d + 1
  | .slice elems spare => uptoBulkAll elems + uptoBulkAll spare + 1
  | .agg parts => uptoBulkAll parts + 1
  | .iface _ d => uptoBulk d + 1
  | .map entries => uptoBulkEntries entries + 1
  | .held _ => 1
def uptoBulkAll {H : Type} : List (DataW H) → Nat
  | [] => 0
  | d :: r => uptoBulk d + uptoBulkAll r
def uptoBulkEntries {H : Type} : List (Lit × DataW H) → Nat
  | [] => 0
  | x :: r => uptoBulkEntry x + uptoBulkEntries r
def uptoBulkEntry {H : Type} : Lit × DataW H → Nat
  | (.string bytes, d) => bytes.length + uptoBulk d + 1
  | (_, d) => uptoBulk d + 1
 end
def uptoSmall : (H : Type) → List (DataW H) → Bool := fun _ ds => decide (uptoBulkAll ds ≤ 1048576)
def OpenSpec.upto (s : _root_.Go.ChangeSpec) : _root_.Go.OpenSpec := { _root_.Go.OpenSpec.ofChange s with cond := some uptoSmall }

/-- 'laws.FnExactCountStmts', WHERE WHAT IT READS IS OF BULK AT MOST 1048576: true; the input reads as it did. -/
def fnExactCountStmtsUptoRow : OpenClaim := { program := "yteioojdgipodjaa", sum := "55781fa3aec67d43b47d8b08f8b482d40305db68fa3a73e73c000fb758ea62b5", func := "loop.example/g00514/laws.FnExactCountStmts", spec := "fnExactCountStmts", unfollowed := true, recurses := true, loops := true, plainKeys := false, apart := false, narrowed := true }
def FnExactCountStmtsUptoSaid : Prop := fnExactCountStmtsUptoRow.holds Try.pinned (OpenSpec.upto fnExactCountStmtsSpec)

/-- 'laws.FnExactBlockDepth', WHERE WHAT IT READS IS OF BULK AT MOST 1048576: true; the input reads as it did. -/
def fnExactBlockDepthUptoRow : OpenClaim := { program := "yteioojdgipodjaa", sum := "55781fa3aec67d43b47d8b08f8b482d40305db68fa3a73e73c000fb758ea62b5", func := "loop.example/g00514/laws.FnExactBlockDepth", spec := "fnExactBlockDepth", unfollowed := true, recurses := true, loops := true, plainKeys := false, apart := false, narrowed := true }
def FnExactBlockDepthUptoSaid : Prop := fnExactBlockDepthUptoRow.holds Try.pinned (OpenSpec.upto fnExactBlockDepthSpec)

/-- 'laws.FnExactEqualProgram', WHERE WHAT IT READS IS OF BULK AT MOST 1048576: true; the input reads as it did. -/
def fnExactEqualProgramUptoRow : OpenClaim := { program := "yteioojdgipodjaa", sum := "55781fa3aec67d43b47d8b08f8b482d40305db68fa3a73e73c000fb758ea62b5", func := "loop.example/g00514/laws.FnExactEqualProgram", spec := "fnExactEqualProgram", unfollowed := true, recurses := true, loops := true, plainKeys := false, apart := false, narrowed := true }
def FnExactEqualProgramUptoSaid : Prop := fnExactEqualProgramUptoRow.holds Try.pinned (OpenSpec.upto fnExactEqualProgramSpec)

/-- 'laws.FnExactAssignedVars', WHERE WHAT IT READS IS OF BULK AT MOST 1048576: true; the input reads as it did. -/
def fnExactAssignedVarsUptoRow : OpenClaim := { program := "yteioojdgipodjaa", sum := "55781fa3aec67d43b47d8b08f8b482d40305db68fa3a73e73c000fb758ea62b5", func := "loop.example/g00514/laws.FnExactAssignedVars", spec := "fnExactAssignedVars", unfollowed := true, recurses := true, loops := true, plainKeys := false, apart := false, narrowed := true }
def FnExactAssignedVarsUptoSaid : Prop := fnExactAssignedVarsUptoRow.holds Try.pinned (OpenSpec.upto fnExactAssignedVarsSpec)

/-- 'laws.FnExprs', WHERE WHAT IT READS IS OF BULK AT MOST 1048576: true; the input reads as it did. -/
def fnExprsUptoRow : OpenClaim := { program := "yteioojdgipodjaa", sum := "55781fa3aec67d43b47d8b08f8b482d40305db68fa3a73e73c000fb758ea62b5", func := "loop.example/g00514/laws.FnExprs", spec := "fnExprs", unfollowed := true, recurses := true, plainKeys := false, apart := false, narrowed := true }
def FnExprsUptoSaid : Prop := fnExprsUptoRow.holds Try.pinned (OpenSpec.upto fnExprsSpec)

/-- 'laws.FnExactCountExpr', WHERE WHAT IT READS IS OF BULK AT MOST 1048576: true; the input reads as it did. -/
def fnExactCountExprUptoRow : OpenClaim := { program := "yteioojdgipodjaa", sum := "55781fa3aec67d43b47d8b08f8b482d40305db68fa3a73e73c000fb758ea62b5", func := "loop.example/g00514/laws.FnExactCountExpr", spec := "fnExactCountExpr", unfollowed := true, recurses := true, loops := true, plainKeys := false, apart := false, narrowed := true }
def FnExactCountExprUptoSaid : Prop := fnExactCountExprUptoRow.holds Try.pinned (OpenSpec.upto fnExactCountExprSpec)

/-- 'laws.FnExactDepthOfExpr', WHERE WHAT IT READS IS OF BULK AT MOST 1048576: true; the input reads as it did. -/
def fnExactDepthOfExprUptoRow : OpenClaim := { program := "yteioojdgipodjaa", sum := "55781fa3aec67d43b47d8b08f8b482d40305db68fa3a73e73c000fb758ea62b5", func := "loop.example/g00514/laws.FnExactDepthOfExpr", spec := "fnExactDepthOfExpr", unfollowed := true, recurses := true, loops := true, plainKeys := false, apart := false, narrowed := true }
def FnExactDepthOfExprUptoSaid : Prop := fnExactDepthOfExprUptoRow.holds Try.pinned (OpenSpec.upto fnExactDepthOfExprSpec)

/-- 'laws.FnExactEqualExpr', WHERE WHAT IT READS IS OF BULK AT MOST 1048576: true; the input reads as it did. -/
def fnExactEqualExprUptoRow : OpenClaim := { program := "yteioojdgipodjaa", sum := "55781fa3aec67d43b47d8b08f8b482d40305db68fa3a73e73c000fb758ea62b5", func := "loop.example/g00514/laws.FnExactEqualExpr", spec := "fnExactEqualExpr", unfollowed := true, recurses := true, loops := true, plainKeys := false, apart := false, narrowed := true }
def FnExactEqualExprUptoSaid : Prop := fnExactEqualExprUptoRow.holds Try.pinned (OpenSpec.upto fnExactEqualExprSpec)

/-- 'laws.FnExactVarsOfExpr', WHERE WHAT IT READS IS OF BULK AT MOST 1048576: true; the input reads as it did. -/
def fnExactVarsOfExprUptoRow : OpenClaim := { program := "yteioojdgipodjaa", sum := "55781fa3aec67d43b47d8b08f8b482d40305db68fa3a73e73c000fb758ea62b5", func := "loop.example/g00514/laws.FnExactVarsOfExpr", spec := "fnExactVarsOfExpr", unfollowed := true, recurses := true, loops := true, plainKeys := false, apart := false, narrowed := true }
def FnExactVarsOfExprUptoSaid : Prop := fnExactVarsOfExprUptoRow.holds Try.pinned (OpenSpec.upto fnExactVarsOfExprSpec)

end Rows
end Go.Proofs.Yteioojdgipodjaa
