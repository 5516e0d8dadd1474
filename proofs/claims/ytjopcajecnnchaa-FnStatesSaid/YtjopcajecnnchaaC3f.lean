/- Chapter 3: slices of slices of integers while they grow; slices.Concat of two. -/
import Derived.Test.YtjopcajecnnchaaOii
import Derived.Lib.AppendZeros
import Derived.Lib.SliceRun
namespace Go.Proofs.Ytjopcajecnnchaa.C3
open Go.RowKit Go.Lib Go.Sort Go.Proofs.Ytjopcajecnnchaa.Com Go.Proofs.Ytjopcajecnnchaa.Mem Go.Proofs.Ytjopcajecnnchaa.Ow Go.Proofs.Ytjopcajecnnchaa.Os

theorem intT : SlT Try.prog 34 3 (.int .i64 0) 8 := ⟨Try.underlying34, by kernel_rfl, rfl, by decide⟩
theorem sliT : SlT Try.prog 32 34 (.slice none 0 0) 24 := ⟨Try.underlying32, by kernel_rfl, rfl, by decide⟩

/-- a slice of slices that grows -/
def Bld (w0 w : World) (v : Value) (vs : List Value) (f : Nat → List Int) : Prop := Grow 34 w0 w v vs ∧ Inn w0.heap.size w.heap.size w vs f
theorem Bld.own {w0 w : World} {v : Value} {vs : List Value} {f : Nat → List Int} (h : Bld w0 w v vs f) : OwnF w0.heap.size w.heap.size w v vs.length f := ⟨vs, rfl, Own.of_grow h.1, h.2⟩
theorem Bld.below {w0 w w' : World} {v : Value} {vs : List Value} {f : Nat → List Int} (h : Bld w0 w v vs f) (hb : Below w.heap.size w w') : Bld w0 w' v vs f :=
  ⟨h.1.below hb (Nat.le_refl _), fun i u hu => ((h.2.at_ i u hu).same (same_below hb (Nat.le_refl _))).mono (Nat.le_refl _) hb.size, h.2.dis⟩
theorem Bld.step {w0 w w1 w' : World} {v v' u : Value} {vs : List Value} {f : Nat → List Int} (h : Bld w0 w v vs f) (hb : Below w.heap.size w w1) (hu : OwnI w.heap.size w1.heap.size w1 u (f vs.length))
    (hg : Grow 34 w0 w' v' (vs ++ [u])) (hgb : w1.grownBy w' v.ownBlock) : Bld w0 w' v' (vs ++ [u]) f := by
  have hkind : ∀ g, v.ownBlock = some g → ∃ cs, Blk w1 g 34 cs := fun g hg' => by
    obtain ⟨_, _, cs, hc⟩ := (Own.of_grow h.1).block_ hg'
    exact ⟨cs, hc.below hb hc.lt⟩
  have hs := hgb.size
  have hs1 := hb.size
  have hs0 := h.1.2.size
  have hnew : OwnI w.heap.size w'.heap.size w' u (f vs.length) := (hu.gb_ hgb (fun g h1 h2 => by
    obtain ⟨_, _, cs, hc⟩ := hu.block_ h1
    obtain ⟨cs2, hc2⟩ := hkind g h2
    exact absurd (kinds hc hc2) (by decide))).mono (Nat.le_refl _) hs
  have hold : ∀ (i : Nat) (x : Value), vs[i]? = some x → OwnI w0.heap.size w.heap.size w' x (f i) := fun i x hx => by
    have h1 := (h.2.at_ i x hx).same (same_below hb (Nat.le_refl _))
    exact h1.gb_ hgb (fun g e1 e2 => by
      obtain ⟨_, _, cs, hc⟩ := h1.block_ e1
      obtain ⟨cs2, hc2⟩ := hkind g e2
      exact absurd (kinds hc hc2) (by decide))
  have hcase : ∀ (i : Nat) (x : Value), (vs ++ [u])[i]? = some x → vs[i]? = some x ∨ (i = vs.length ∧ x = u) := fun i x hx => by
    rcases Nat.lt_or_ge i vs.length with hi | hi
    · rw [List.getElem?_append_left hi] at hx; exact Or.inl hx
    · rw [List.getElem?_append_right hi] at hx
      have : i - vs.length = 0 := by
        rcases Nat.eq_zero_or_pos (i - vs.length) with h | h
        · exact h
        · rw [List.getElem?_eq_none (by simp; omega)] at hx; cases hx
      rw [this] at hx
      exact Or.inr ⟨by omega, by cases hx; rfl⟩
  refine ⟨hg, fun i x hx => ?_, fun i j x x' g hij hx hx' hxg hxg' => ?_⟩
  · rcases hcase i x hx with hx | ⟨rfl, rfl⟩
    · exact (hold i x hx).mono (Nat.le_refl _) (by omega)
    · exact hnew.mono hs0 (Nat.le_refl _)
  · rcases hcase i x hx with hx1 | ⟨rfl, rfl⟩ <;> rcases hcase j x' hx' with hx2 | ⟨rfl, rfl⟩
    · exact h.2.dis i j x x' g hij hx1 hx2 hxg hxg'
    · have := ((h.2.at_ i x hx1).block_ hxg).2.1
      have := (hnew.block_ hxg').1
      omega
    · have := ((h.2.at_ j x' hx2).block_ hxg').2.1
      have := (hnew.block_ hxg).1
      omega
    · exact hij rfl

theorem zeros_size {z : Array Value} {n : Nat} (h : z.size = 1) : (Builtin.zeroCells z n).size = n := by
  simp [Builtin.zeroCells, h]

set_option maxHeartbeats 1000000 in
theorem growI_nil (n : Nat) (h0 : 0 < n) (hn : n ≤ 1000000) (w : World) : Calls Try.prog 49 #[.slice none 0 0, .int .i64 n] w fun e w' => ∃ v, e = .returned v ∧ Grow 3 w w' v [] := by
  obtain ⟨i0, hi, hz0, hz1, hz2⟩ := info_parts intT.inf
  have t1 : decide ((n : Int) < 0) = false := decide_eq_false (by omega)
  have t2 : decide (0 < (n : Int)) = true := decide_eq_true (by omega)
  have hr := Lib.run_append_nil_zeros w 34 3 34 3 i0 (.int .i64 0) .i64 .i64 Try.underlying34 Try.underlying3 hi hz0 n h0 (by omega) (by omega) (by rw [hz2]; omega)
  have hG := grownCap_le_maxLen w n 0 3 (by unfold maxLen; omega)
  have hGn := grownCap_ge w n 0 3
  have hown : Grow 3 w (w.drew.alloc (.cells (Builtin.zeroCells (Value.int .i64 0).cells n ++ Builtin.zeroCells (Value.int .i64 0).cells (grownCap w n 0 3 - n)) 3)) (.slice (some ⟨w.heap.size, 0, none⟩) 0 (grownCap w n 0 3)) [] :=
    ⟨World.ownsRow_made w.drew _ _ (Nat.le_refl _) hG (by rw [Array.size_append, zeros_size rfl, zeros_size rfl]; omega), ((Below.refl _ _).drew).alloc (Nat.le_refl _) _⟩
  have hown := hid hown
  generalize grownCap w n 0 3 = G at *
  have hGc : G ≤ 9223372036854775807 := by unfold maxLen at hG; omega
  clear hi hz0 hz1 hz2
  go_enter Try.func49, Try.ntmps49
  go_wp2_with (at_builtin; refine Lib.wpList_append_run _ rfl _ _ _ _ rfl _ _ rfl rfl _ _ hr ?_)
  go_ret
  exact ⟨_, rfl, hown.out⟩
theorem one_iv (l : List Int) : ∀ u ∈ l.map iv, u.oneCell' = true := by
  intro u hu
  obtain ⟨x, _, rfl⟩ := List.mem_map.1 hu
  rfl
set_option maxHeartbeats 4000000 in
theorem concat2 (g c : Nat) (v1 v2 : Value) (lo1 hi1 lo2 hi2 : Nat) (l1 l2 : List Int) (w : World) (hB : Blk w g 34 [v1, v2]) (h1 : OwnI lo1 hi1 w v1 l1) (h2 : OwnI lo2 hi2 w v2 l2) (hn : 0 < l1.length + l2.length) (hm : l1.length + l2.length ≤ 1000000) :
    Calls Try.prog 48 #[.slice (some ⟨g, 0, none⟩) 2 c] w fun e w' => ∃ v, e = .returned v ∧ OwnI w.heap.size w'.heap.size w' v (l1 ++ l2) ∧ Below w.heap.size w w' := by
  have k1 : w.cell? ⟨g, 0, none⟩ = some v1 := hB.cell 0
  have k2 : w.cell? ⟨g, 1, none⟩ = some v2 := hB.cell 1
  obtain ⟨A1, c1, rfl, r1, b1, m1, n1, _⟩ := h1.read_
  obtain ⟨A2, c2, rfl, r2, b2, m2, n2, _⟩ := h2.read_
  have n1' : A1 = none → l1.length = 0 ∧ c1 = 0 := fun e => ⟨by have := n1 e; omega, n1 e⟩
  have n2' : A2 = none → l2.length = 0 ∧ c2 = 0 := fun e => ⟨by have := n2 e; omega, n2 e⟩
  have n1' := hid n1'
  have n2' := hid n2'
  have r1 := hid r1
  have r2 := hid r2
  have hgr := growI_nil (l1.length + l2.length) hn hm w
  rw [Int.natCast_add] at hgr
  have hgr := hid hgr
  have t1 : decide ((l1.length : Int) < 0) = false := decide_eq_false (by omega)
  have t2 : decide ((l1.length : Int) + (l2.length : Int) < 0) = false := decide_eq_false (by omega)
  have g0 := hid hB.lt
  have k2h := hid k2
  clear b1 m1 n1 b2 m2 n2 h1 h2 hB
  go_enter Try.func48, Try.ntmps48
  go_wp2_with fail
  refine wp_loop_rounds 3 ?_; rw [rounds_succ]
  go_wp2_with fail
  rw [rounds_succ]
  go_wp2_with fail
  rw [rounds_succ]
  go_wp2_with fail
  refine hgr.out.mono ?_
  rintro e w1 ⟨v, rfl, hg1⟩
  have k1b : w1.cell? ⟨g, 0, none⟩ = some (Value.slice A1 l1.length c1) := (hg1.2.cell g0.out).trans k1
  have hg1 := hid hg1
  clear k1 k2 hgr
  go_wp2_with fail
  refine wp_loop_rounds 3 ?_; rw [rounds_succ]
  go_wp2_with (at_builtin; refine hg1.out.appendAll intT A1 l1.length c1 w.heap.size (l1.map iv) (by simp) n1'.out (r1.out.below hg1.out.2) (one_iv l1) (by simp; omega) rfl _ _ rfl rfl rfl ?_; intro v2 w2 hg2 _ _; have k2b : w2.cell? ⟨g, 1, none⟩ = some (Value.slice A2 l2.length c2) := (hg2.2.cell g0.out).trans k2h.out; have hg2 := hid hg2; clear k1b hg1)
  rw [rounds_succ]
  go_wp2_with (at_builtin; refine hg2.out.appendAll intT A2 l2.length c2 w.heap.size (l2.map iv) (by simp) n2'.out (r2.out.below hg2.out.2) (one_iv l2) (by simp; omega) rfl _ _ rfl rfl rfl ?_; intro v3 w3 hg3 _ _; have hg3 := hid hg3; clear k2b hg2)
  rw [rounds_succ]
  go_wp2_with fail
  go_ret
  refine ⟨_, rfl, ?_, hg3.out.2⟩
  have := Own.of_grow hg3.out
  rwa [List.nil_append, ← List.map_append] at this
end Go.Proofs.Ytjopcajecnnchaa.C3
