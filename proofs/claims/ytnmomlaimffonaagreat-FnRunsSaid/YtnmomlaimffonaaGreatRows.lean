/-
  NARROWER THAN 'FOR EVERY INPUT', by the rows' own cells (each row's printed sentence says how): FnExactRunProgram: loops · FnExactTerminates: loops.
  DERIVED. THE GIVEN ROWS OF THIS SEAT. 4 by the template 'for every input the law returns true; each argument reads behind the call as it read before'; 0 by the template 'total and deterministic' (their statements: YtnmomlaimffonaaGreatTotals.lean).
  GIVEN WITH THE SEED: the statements are not yours to turn. If you find one false, say at which input.
  Laid BY PROGRAM, IN A SANDBOX (cutbox-rows.mjs): the forced cells as the released guide's own fill.sh prints them over the translation bad85ba9163ac350… (all of the seat's roots in one cut). By AI agents, Wed Nov 11 2026. No macro, syntax, notation, axiom, sorry.
-/
import Derived.Test.YtnmomlaimffonaaGreatChecked
import GoSem.Claim
import GoSem.ClaimJoined
import GoSem.ClaimMapViews
import Derived.JoinedTies
import Derived.KernelRfl
namespace Go.Proofs.YtnmomlaimffonaaGreat
/- THE CELL 'sum', in the pinned program and in every row, IS THE sha256 OF THE DUMP (.gsa) THAT YtnmomlaimffonaaGreatProg.lean LOADS. Nothing in Lean hashes anything: it is a label: what it is worth is what the hold of that sum in a sandbox is worth. -/
noncomputable def Tryz.pinned : Pinned := { name := "ytnmomlaimffonaagreat", sum := "bad85ba9163ac35084d10ce65fa0957c0c669f6e6188e3297d015cd080af4eb6", checked := Tryz.checked }
namespace Rows
def none {H : Type} : Left H := { results := [], args := [] }

/-- 'laws.FnRuns': WHATEVER THE INPUT: true; the input reads as it did. -/
def fnRunsSpec : ChangeSpec := { name := "fnRuns", fn := fun _ => fun
  | [d] => { results := [.lit (.bool true)], args := [d] }
  | _ => none }
def fnRunsRow : OpenClaim := { program := "ytnmomlaimffonaagreat", sum := "bad85ba9163ac35084d10ce65fa0957c0c669f6e6188e3297d015cd080af4eb6", func := "loop.example/g00514/laws.FnRuns", spec := "fnRuns", unfollowed := true, recurses := true, plainKeys := false, apart := false }
def FnRunsSaid : Prop := fnRunsRow.holds Tryz.pinned (OpenSpec.ofChange fnRunsSpec)

/-- ITS FALSE NEIGHBOUR: 'it returns false'. Refute it at one input. -/
def fnRunsWrong : ChangeSpec := { name := "fnRuns", fn := fun _ => fun
  | [d] => { results := [.lit (.bool false)], args := [d] }
  | _ => none }
def FnRunsWrongFalsely : Prop := fnRunsRow.holds Tryz.pinned (OpenSpec.ofChange fnRunsWrong)

/-- 'laws.FnTerminates': WHATEVER THE INPUT: true; the input reads as it did. -/
def fnTerminatesSpec : ChangeSpec := { name := "fnTerminates", fn := fun _ => fun
  | [d] => { results := [.lit (.bool true)], args := [d] }
  | _ => none }
def fnTerminatesRow : OpenClaim := { program := "ytnmomlaimffonaagreat", sum := "bad85ba9163ac35084d10ce65fa0957c0c669f6e6188e3297d015cd080af4eb6", func := "loop.example/g00514/laws.FnTerminates", spec := "fnTerminates", unfollowed := true, recurses := true, plainKeys := false, apart := false }
def FnTerminatesSaid : Prop := fnTerminatesRow.holds Tryz.pinned (OpenSpec.ofChange fnTerminatesSpec)

/-- ITS FALSE NEIGHBOUR: 'it returns false'. Refute it at one input. -/
def fnTerminatesWrong : ChangeSpec := { name := "fnTerminates", fn := fun _ => fun
  | [d] => { results := [.lit (.bool false)], args := [d] }
  | _ => none }
def FnTerminatesWrongFalsely : Prop := fnTerminatesRow.holds Tryz.pinned (OpenSpec.ofChange fnTerminatesWrong)

/-- 'laws.FnExactRunProgram': WHATEVER THE INPUT: true; the input reads as it did. -/
def fnExactRunProgramSpec : ChangeSpec := { name := "fnExactRunProgram", fn := fun _ => fun
  | [d1, d2, d3] => { results := [.lit (.bool true)], args := [d1, d2, d3] }
  | _ => none }
def fnExactRunProgramRow : OpenClaim := { program := "ytnmomlaimffonaagreat", sum := "bad85ba9163ac35084d10ce65fa0957c0c669f6e6188e3297d015cd080af4eb6", func := "loop.example/g00514/laws.FnExactRunProgram", spec := "fnExactRunProgram", unfollowed := true, recurses := true, loops := true, plainKeys := false, apart := false }
def FnExactRunProgramSaid : Prop := fnExactRunProgramRow.holds Tryz.pinned (OpenSpec.ofChange fnExactRunProgramSpec)

/-- ITS FALSE NEIGHBOUR: 'it returns false'. Refute it at one input. -/
def fnExactRunProgramWrong : ChangeSpec := { name := "fnExactRunProgram", fn := fun _ => fun
  | [d1, d2, d3] => { results := [.lit (.bool false)], args := [d1, d2, d3] }
  | _ => none }
def FnExactRunProgramWrongFalsely : Prop := fnExactRunProgramRow.holds Tryz.pinned (OpenSpec.ofChange fnExactRunProgramWrong)

/-- 'laws.FnExactTerminates': WHATEVER THE INPUT: true; the input reads as it did. -/
def fnExactTerminatesSpec : ChangeSpec := { name := "fnExactTerminates", fn := fun _ => fun
  | [d1, d2] => { results := [.lit (.bool true)], args := [d1, d2] }
  | _ => none }
def fnExactTerminatesRow : OpenClaim := { program := "ytnmomlaimffonaagreat", sum := "bad85ba9163ac35084d10ce65fa0957c0c669f6e6188e3297d015cd080af4eb6", func := "loop.example/g00514/laws.FnExactTerminates", spec := "fnExactTerminates", unfollowed := true, recurses := true, loops := true, plainKeys := false, apart := false }
def FnExactTerminatesSaid : Prop := fnExactTerminatesRow.holds Tryz.pinned (OpenSpec.ofChange fnExactTerminatesSpec)

/-- ITS FALSE NEIGHBOUR: 'it returns false'. Refute it at one input. -/
def fnExactTerminatesWrong : ChangeSpec := { name := "fnExactTerminates", fn := fun _ => fun
  | [d1, d2] => { results := [.lit (.bool false)], args := [d1, d2] }
  | _ => none }
def FnExactTerminatesWrongFalsely : Prop := fnExactTerminatesRow.holds Tryz.pinned (OpenSpec.ofChange fnExactTerminatesWrong)

/- THE SECOND FORM. 'bulk': how many values and letters a reading holds, each counted each time it is reached (what is shared counts as often as it is met; a slice's spare places count too). A statement '..UptoSaid' is the law's where the arguments, and the package variables that the reading takes, are together of bulk at most 1048576: NARROWER than '..Said'. Prove '..Said' where nothing that the law and all that it calls make is longer than what came in: it says more and counts as full. Else prove '..UptoSaid'. A law counts once. -/
mutual
def uptoBulk {H : Type} : DataW H → Nat
  | .lit (.string bytes) => bytes.length + 1
  | .lit _ => 1
  | .nil => 1
  | .ptr d => uptoBulk d + 1
  | .slice elems spare => uptoBulkAll elems + uptoBulkAll spare + 1
  | .agg parts => uptoBulkAll parts + 1
  | .iface _ d => uptoBulk d + 1
  | .map entries => uptoBulkEntries entries + 1
  | .held _ => 1
def uptoBulkAll {H : Type} : List (DataW H) → Nat
  | [] => 0
  | d :: r => uptoBulk d + uptoBulkAll r
def uptoBulkEntries {H : Type} : List (Lit × DataW H) → Nat
  | [] => 0
  | x :: r => uptoBulkEntry x + uptoBulkEntries r
def uptoBulkEntry {H : Type} : Lit × DataW H → Nat
  | (.string bytes, d) => bytes.length + uptoBulk d + 1
  | (_, d) => uptoBulk d + 1
 end
def uptoSmall : (H : Type) → List (DataW H) → Bool := fun _ ds => decide (uptoBulkAll ds ≤ 1048576)
def OpenSpec.upto (s : _root_.Go.ChangeSpec) : _root_.Go.OpenSpec := { _root_.Go.OpenSpec.ofChange s with cond := some uptoSmall }

/-- 'laws.FnRuns', WHERE WHAT IT READS IS OF BULK AT MOST 1048576: true; the input reads as it did. -/
def fnRunsUptoRow : OpenClaim := { program := "ytnmomlaimffonaagreat", sum := "bad85ba9163ac35084d10ce65fa0957c0c669f6e6188e3297d015cd080af4eb6", func := "loop.example/g00514/laws.FnRuns", spec := "fnRuns", unfollowed := true, recurses := true, plainKeys := false, apart := false, narrowed := true }
def FnRunsUptoSaid : Prop := fnRunsUptoRow.holds Tryz.pinned (OpenSpec.upto fnRunsSpec)

/-- 'laws.FnTerminates', WHERE WHAT IT READS IS OF BULK AT MOST 1048576: true; the input reads as it did. -/
def fnTerminatesUptoRow : OpenClaim := { program := "ytnmomlaimffonaagreat", sum := "bad85ba9163ac35084d10ce65fa0957c0c669f6e6188e3297d015cd080af4eb6", func := "loop.example/g00514/laws.FnTerminates", spec := "fnTerminates", unfollowed := true, recurses := true, plainKeys := false, apart := false, narrowed := true }
def FnTerminatesUptoSaid : Prop := fnTerminatesUptoRow.holds Tryz.pinned (OpenSpec.upto fnTerminatesSpec)

/-- 'laws.FnExactRunProgram', WHERE WHAT IT READS IS OF BULK AT MOST 1048576: true; the input reads as it did. -/
def fnExactRunProgramUptoRow : OpenClaim := { program := "ytnmomlaimffonaagreat", sum := "bad85ba9163ac35084d10ce65fa0957c0c669f6e6188e3297d015cd080af4eb6", func := "loop.example/g00514/laws.FnExactRunProgram", spec := "fnExactRunProgram", unfollowed := true, recurses := true, loops := true, plainKeys := false, apart := false, narrowed := true }
def FnExactRunProgramUptoSaid : Prop := fnExactRunProgramUptoRow.holds Tryz.pinned (OpenSpec.upto fnExactRunProgramSpec)

/-- 'laws.FnExactTerminates', WHERE WHAT IT READS IS OF BULK AT MOST 1048576: true; the input reads as it did. -/
def fnExactTerminatesUptoRow : OpenClaim := { program := "ytnmomlaimffonaagreat", sum := "bad85ba9163ac35084d10ce65fa0957c0c669f6e6188e3297d015cd080af4eb6", func := "loop.example/g00514/laws.FnExactTerminates", spec := "fnExactTerminates", unfollowed := true, recurses := true, loops := true, plainKeys := false, apart := false, narrowed := true }
def FnExactTerminatesUptoSaid : Prop := fnExactTerminatesUptoRow.holds Tryz.pinned (OpenSpec.upto fnExactTerminatesSpec)

end Rows
end Go.Proofs.YtnmomlaimffonaaGreat
