/- Chapter 7 in the exact laws' words. -/
import Derived.Test.YteglampoceponaaDoorZI7c
import Derived.Test.YteglampoceponaaDoorZEx5
set_option maxRecDepth 100000
namespace Go.Proofs.YteglampoceponaaDoor.Tk
open Go.RowKit Go.Lib Go.Proofs.YteglampoceponaaDoor.Num Go.Proofs.YteglampoceponaaDoor.Com Go.Proofs.YteglampoceponaaDoor.Mem Go.Proofs.YteglampoceponaaDoor.Os Go.Proofs.YteglampoceponaaDoor.Tr
section
variable {lo hi : Nat} {v : Value} {t : T}
theorem level_form {w : World} (h : OwnX lo hi w v t) : ∃ s A l c k n, v = nv k n s A l c ∧ lvlT t = lvl k n := by
  obtain ⟨k, n, s, ks⟩ := t
  obtain ⟨A, c, vs, rfl, _⟩ := h.ex.kids
  exact ⟨s, A, _, c, k, n, rfl, rfl⟩
theorem slevel_own (w : World) (h : OwnX lo hi w v t) (_ : szT t ≤ 1048576) : Calls Tryd.prog 6 #[v] w fun e w' => e = .returned (.int .i64 (lvlT t : Nat)) ∧ Below w.heap.size w w' := by
  obtain ⟨s, A, l, c, k, n, rfl, e⟩ := level_form h
  rw [e]
  exact slevel_any k n s A l c w
theorem ilevel_own (w : World) (h : OwnX lo hi w v t) (_ : szT t ≤ 1048576) : Calls Tryd.prog 8 #[v] w fun e w' => e = .returned (.int .i64 (lvlT t : Nat)) ∧ Below w.heap.size w w' := by
  obtain ⟨s, A, l, c, k, n, rfl, e⟩ := level_form h
  rw [e]
  exact ilevel_any k n s A l c w
theorem sformat_own (w : World) (h : OwnX lo hi w v t) (hz : szT t ≤ 1048576) : Calls Tryd.prog 10 #[v] w fun e w' => e = .returned (sv (fmtX t)) ∧ Below w.heap.size w w' :=
  sformat_any t v w h.ex (by have := cnt_sz t; omega)
theorem iformat_own (w : World) (hp : L1b.Pow w) (h : OwnX lo hi w v t) (_ : szT t ≤ 1048576) : Calls Tryd.prog 11 #[v] w fun e w' => e = .returned (sv (fmtX t)) ∧ Below w.heap.size w w' :=
  iformat_any t v w hp h.ex
end
end Go.Proofs.YteglampoceponaaDoor.Tk
