/- Chapter 2: SortNames and Without over slices of the call's own. -/
import Derived.Test.YtkoppcpkkpgaiaaC2s
import Derived.Test.YtkoppcpkkpgaiaaC2t
import Derived.Test.YtkoppcpkkpgaiaaOs
namespace Go.Proofs.Ytkoppcpkkpgaiaa.C2
open Go.RowKit Go.Lib Go.Proofs.Ytkoppcpkkpgaiaa.Com Go.Proofs.Ytkoppcpkkpgaiaa.Mem Go.Proofs.Ytkoppcpkkpgaiaa.Ow Go.Proofs.Ytkoppcpkkpgaiaa.Nm Go.Proofs.Ytkoppcpkkpgaiaa.Os Go.Proofs.Ytkoppcpkkpgaiaa.Lh

theorem le_sum {l : List (List UInt8)} : ∀ x ∈ l, x.length ≤ (l.map List.length).sum := by
  induction l with
  | nil => intro x hx; cases hx
  | cons y r ih =>
    intro x hx
    simp only [List.map_cons, List.sum_cons]
    rcases List.mem_cons.1 hx with rfl | hx
    · omega
    · have := ih x hx; omega
theorem szL_each {l : List (List UInt8)} (h : szL l ≤ 1048576) : ∀ x ∈ l, x.length ≤ 9223372036854775807 := by
  intro x hx
  have := le_sum x hx
  unfold szL at h; omega
section
variable {lo hi lo' hi' : Nat} {v v' : Value} {l r : List (List UInt8)}
theorem sort_own (w : World) (h : OwnS lo hi w v l) (hz : szL l ≤ 1048576) : Calls Try.prog 14 #[v] w fun e w' => ∃ r, e = .returned r ∧ OwnS w.heap.size w'.heap.size w' r (sortU l) ∧ Below w.heap.size w w' := by
  obtain ⟨A, c, rfl, hr, hc, hm, hA, _⟩ := h.read_
  exact (sort_any A c l w hr hA (by have := szL_len l; omega)).mono fun _ _ ⟨u, he, hg⟩ => ⟨u, he, Own.of_grow hg, hg.2⟩
theorem ssort_own (w : World) (h : OwnS lo hi w v l) (hz : szL l ≤ 1048576) : Calls Try.prog 34 #[v] w fun e w' => ∃ r, e = .returned r ∧ OwnS w.heap.size w'.heap.size w' r (sortU l) ∧ Below w.heap.size w w' := by
  obtain ⟨A, c, rfl, hr, hc, hm, hA, _⟩ := h.read_
  exact (ssort_any A c l w hr (by have := szL_len l; omega)).mono fun _ _ ⟨u, he, hg⟩ => ⟨u, he, Own.of_grow hg, hg.2⟩
theorem without_own (w : World) (h : OwnS lo hi w v l) (h' : OwnS lo' hi' w v' r) (hz : szL l ≤ 1048576) (hz' : szL r ≤ 1048576) : Calls Try.prog 23 #[v, v'] w fun e w' => ∃ u, e = .returned u ∧ OwnS w.heap.size w'.heap.size w' u (keepS l r) ∧ Below w.heap.size w w' := by
  obtain ⟨A, c, rfl, hr, _⟩ := h.read_
  obtain ⟨A', c', rfl, hr', _⟩ := h'.read_
  exact (without_any A A' c c' l r w hr hr' (szL_each hz) (szL_each hz') (by have := szL_len l; omega) (by have := szL_len r; omega)).mono fun _ _ ⟨u, he, hg⟩ => ⟨u, he, Own.of_grow hg, hg.2⟩
theorem swithout_own (w : World) (h : OwnS lo hi w v l) (h' : OwnS lo' hi' w v' r) (hz : szL l ≤ 1048576) (hz' : szL r ≤ 1048576) : Calls Try.prog 37 #[v, v'] w fun e w' => ∃ u, e = .returned u ∧ OwnS w.heap.size w'.heap.size w' u (keepS l r) ∧ Below w.heap.size w w' := by
  obtain ⟨A, c, rfl, hr, _⟩ := h.read_
  obtain ⟨A', c', rfl, hr', _⟩ := h'.read_
  exact (swithout_any A A' c c' l r w hr hr' (by have := szL_len l; omega) (by have := szL_len r; omega)).mono fun _ _ ⟨u, he, hg⟩ => ⟨u, he, Own.of_grow hg, hg.2⟩
end
end Go.Proofs.Ytkoppcpkkpgaiaa.C2
