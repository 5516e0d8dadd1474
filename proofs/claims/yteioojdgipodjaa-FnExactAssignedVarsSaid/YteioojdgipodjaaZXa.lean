/- The program's list of assigned variables, in the exact law's words. -/
import Derived.Test.YteioojdgipodjaaZNvs
import Derived.Test.YteioojdgipodjaaZXs
set_option maxRecDepth 100000
namespace Go.Proofs.Yteioojdgipodjaa.Gd
open Go.RowKit Go.Lib Go.Sort Go.Proofs.Yteioojdgipodjaa.Com Go.Proofs.Yteioojdgipodjaa.Mem Go.Proofs.Yteioojdgipodjaa.Os Go.Proofs.Yteioojdgipodjaa.Tr Go.Proofs.Yteioojdgipodjaa.Nm

theorem iassigned_own {lo hi : Nat} {v : Value} {L : List St} (w : World) (h : OwnL lo hi w v L) (hz : szL8 L ≤ 1048576) :
    Calls Try.prog 25 #[v] w fun e w' => ∃ r, e = .returned r ∧ OwnS w.heap.size w'.heap.size w' r (sortU (asgL L)) ∧ Below w.heap.size w w' := by
  obtain ⟨A, c, rfl, hl⟩ := own_la h
  exact Gs.iassigned ⟨A, c, L⟩ w hl (by have := cnt_sz8 L; show cntL L ≤ _; omega)
end Go.Proofs.Yteioojdgipodjaa.Gd
