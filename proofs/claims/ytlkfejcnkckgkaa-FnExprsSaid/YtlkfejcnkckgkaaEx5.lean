/- The model's functions on expressions, in the exact laws' words. -/
import Derived.Test.YtlkfejcnkckgkaaEx4
import Derived.Test.YtlkfejcnkckgkaaTr6
import Derived.Test.YtlkfejcnkckgkaaTr7
import Derived.Test.YtlkfejcnkckgkaaOs
set_option maxRecDepth 100000
namespace Go.Proofs.Ytlkfejcnkckgkaa.Tr
open Go.RowKit Go.Lib Go.Proofs.Ytlkfejcnkckgkaa.Com Go.Proofs.Ytlkfejcnkckgkaa.Mem Go.Proofs.Ytlkfejcnkckgkaa.Os Go.Proofs.Ytlkfejcnkckgkaa.Nm
section
variable {lo hi lo' hi' lo2 hi2 : Nat} {v v' v2 : Value} {t : T}
theorem svalid_own (w : World) (h : OwnX lo hi w v t) (hz : szT t ≤ 1048576) : Calls Try.prog 14 #[v] w fun e w' => e = .returned (.bool (okT t)) ∧ Below w.heap.size w w' :=
  svalidE t v w h.ex (by have := cnt_sz t; omega)
theorem svars_own (w : World) (h : OwnX lo hi w v t) (hz : szT t ≤ 1048576) : Calls Try.prog 22 #[v] w fun e w' => ∃ r, e = .returned r ∧ OwnS w.heap.size w'.heap.size w' r (sortU (varsT t)) ∧ Below w.heap.size w w' :=
  svarsOf t v w h.ex (by have := cnt_sz t; omega)
theorem seval_own {L : List (List UInt8)} {S : List Int} (w : World) (h : OwnX lo hi w v t) (hL : OwnS lo' hi' w v' L) (hS : OwnI lo2 hi2 w v2 S) (hz : szT t ≤ 1048576) :
    Calls Try.prog 25 #[v, v', v2] w fun e w' => e = .returned (.tuple #[.int .i64 (evT L S t).1, .bool (evT L S t).2]) ∧ Below w.heap.size w w' := by
  obtain ⟨A1, c1, rfl, hr1, hc1, hm1, _⟩ := hL.read_
  obtain ⟨A2, c2, rfl, hr2, hc2, hm2, _⟩ := hS.read_
  exact sevalOf L S (by unfold maxLen at hm1; omega) (by unfold maxLen at hm2; omega) t v A1 A2 c1 c2 w h.ex (by have := cnt_sz t; omega) hr1 hr2
end
end Go.Proofs.Ytlkfejcnkckgkaa.Tr
