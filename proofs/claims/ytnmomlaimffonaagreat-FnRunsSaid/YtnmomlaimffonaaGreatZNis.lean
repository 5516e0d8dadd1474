/- The program's list of a tree's nodes. -/
import Derived.Test.YtnmomlaimffonaaGreatZMes
set_option maxRecDepth 100000
namespace Go.Proofs.YtnmomlaimffonaaGreat.Gs
open Go.RowKit Go.Lib Go.Sort Com Mem Tr Im Ag Pl Kd Ow
abbrev NR := List Value × Gd.St
theorem la_mono {w W : World} {l : LN Gd.St} (h : LA (pln w) w.heap.size l) (hb : Below w.heap.size w W) : LA (pln W) W.heap.size l := by
  obtain ⟨rows, h⟩ := h
  refine ⟨rows, fun j hj => ?_, fun j t ht => ?_, h.len⟩
  · obtain ⟨ad, e, hB, hl⟩ := h.cell j hj
    exact ⟨ad, e, Nat.lt_of_lt_of_le hB hb.size, ldC_keep hl fun p hp => (pln_below hb).cell (by rw [hp, add_block]; exact hB)⟩
  · have := h.kid j t ht
    unfold RdN at this ⊢
    exact (this.blw (pln_below hb)).more hb.size
end Go.Proofs.YtnmomlaimffonaaGreat.Gs
set_option maxRecDepth 100000
namespace Go.Proofs.YtnmomlaimffonaaGreat.Gd
open Go.RowKit Go.Lib Go.Sort Com Mem YtnmomlaimffonaaGreat.Os Tr Pl Kd Gs
end Go.Proofs.YtnmomlaimffonaaGreat.Gd
