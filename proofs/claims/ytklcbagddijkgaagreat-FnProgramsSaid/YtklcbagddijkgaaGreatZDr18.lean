/- A drawn program, read by the model's and by the program's functions. -/
import Derived.Test.YtklcbagddijkgaaGreatZDr17
import Derived.Test.YtklcbagddijkgaaGreatZXi
import Derived.Test.YtklcbagddijkgaaGreatZNvx
import Derived.Test.YtklcbagddijkgaaGreatZS8c
import Derived.Test.YtklcbagddijkgaaGreatZS8f
set_option maxRecDepth 100000
namespace Go.Proofs.YtklcbagddijkgaaGreat.Gd
open Go.RowKit Go.Lib Go.Proofs.YtklcbagddijkgaaGreat.Com Go.Proofs.YtklcbagddijkgaaGreat.Mem Go.Proofs.YtklcbagddijkgaaGreat.Os Go.Proofs.YtklcbagddijkgaaGreat.Ow Go.Proofs.YtklcbagddijkgaaGreat.Tr Go.Proofs.YtklcbagddijkgaaGreat.Pl Go.Proofs.YtklcbagddijkgaaGreat.Gs

/-- a drawn program, spelled out, in a later world -/
theorem PgOut.form {W : World} {lo : Nat} {v : Value} {V : List (List UInt8)} {L : List St} (h : PgOut W lo v V L) : ∃ (VA : Option Addr) (vc : Nat) (B : Option Addr) (bc : Nat), v = .agg #[.slice VA V.length vc, .slice B L.length bc] ∧ V.length ≤ vc ∧ L.length ≤ bc ∧ L.length ≤ maxI ∧ (∀ ad, VA = some ad → ad = ⟨ad.block, 0, none⟩) ∧
    (∀ w, Below W.heap.size W w → Rd w w.heap.size VA (V.map sv) ∧ (∃ rows, Row w w.heap.size 1 B (dl L) rows) ∧ LA (pln w) w.heap.size ⟨B, bc, L⟩) := by
  obtain ⟨VA, vc, B, bc, rows, e, h1, h2, h3, h4, h5, h6⟩ := h
  refine ⟨VA, vc, B, bc, e, h1, h4, h5, h3, fun w hb => ?_⟩
  have hc : Cry (ezb W lo) (pln w) W.heap.size := fun p v hp hv => by
    have := (ezb_cell hv).2
    exact (pln_below hb).cell hp ▸ this
  have hc' : Cry (ezb W lo) w W.heap.size := fun p v hp hv => (pln_cell (hc p v hp hv)).1
  exact ⟨rd_cry h2 hc' hb.size, ⟨rows, h6.cry hc' hb.size⟩, la_row (h6.cry hc hb.size) h5⟩
end Go.Proofs.YtklcbagddijkgaaGreat.Gd

/- A valid program assigns only its variables. -/
set_option maxRecDepth 100000
namespace Go.Proofs.YtklcbagddijkgaaGreat.Gd
open Go.RowKit Go.Lib Go.Proofs.YtklcbagddijkgaaGreat.Com Go.Proofs.YtklcbagddijkgaaGreat.Mem Go.Proofs.YtklcbagddijkgaaGreat.Os Go.Proofs.YtklcbagddijkgaaGreat.Tr Go.Proofs.YtklcbagddijkgaaGreat.Nm Go.Proofs.YtklcbagddijkgaaGreat.C2

mutual
theorem asgSt_ok (V : List (List UInt8)) : ∀ t : St, okSt V t = true → ∀ x ∈ asgSt t, x ∈ V
  | .mk k s e bs es, h, x, hx => by
    simp only [okSt, Bool.and_eq_true] at h
    obtain ⟨_, h1, h2, h3⟩ := h
    simp only [asgSt, List.mem_append] at hx
    rcases hx with (hx | hx) | hx
    · by_cases hk : k = 1
      · rw [if_pos hk] at hx
        simp only [List.mem_singleton] at hx
        subst hx
        unfold kindB at h3
        rw [if_pos hk, Bool.and_eq_true] at h3
        have h4 := of_decide_eq_true h3.1
        refine Classical.byContradiction fun hn => ?_
        have := ixOf_neg.2 hn
        omega
      · rw [if_neg hk] at hx; cases hx
    · exact asgL_ok V bs h1 x hx
    · exact asgL_ok V es h2 x hx
theorem asgL_ok (V : List (List UInt8)) : ∀ L : List St, okSts V L = true → ∀ x ∈ asgL L, x ∈ V
  | [], _, x, hx => by simp [asgL] at hx
  | a :: r, h, x, hx => by
    simp only [okSts, Bool.and_eq_true] at h
    simp only [asgL, List.mem_append] at hx
    rcases hx with hx | hx
    · exact asgSt_ok V a h.1 x hx
    · exact asgL_ok V r h.2 x hx
end
theorem asg_keep {p : Pg} (h : okP p = true) : keepS (sortU (asgL p.body)) p.vs = [] := by
  unfold okP at h
  simp only [Bool.and_eq_true] at h
  unfold keepS
  rw [List.filter_eq_nil_iff]
  intro x hx
  have := asgL_ok p.vs p.body h.2.2.2 x (mem_sortU.1 hx)
  rw [show Mp.hasS p.vs x = true from Mp.hasS_iff.2 this]; simp
end Go.Proofs.YtklcbagddijkgaaGreat.Gd
