/- Chapter 3: the model's lists of states. -/
import Derived.Test.YtjopcajecnnchaaC3g
namespace Go.Proofs.Ytjopcajecnnchaa.C3
open Go.RowKit Go.Lib Go.Sort Go.Proofs.Ytjopcajecnnchaa.Com Go.Proofs.Ytjopcajecnnchaa.Mem Go.Proofs.Ytjopcajecnnchaa.Ow Go.Proofs.Ytjopcajecnnchaa.Os

def sF1 (i : Nat) : List Int := [(i : Int)]
def sF2 (i : Nat) : List Int := [(i : Int) / 4, (i : Int) % 4]
/-- a literal of integers, as an inner slice -/
theorem lit_own (w : World) (l : List Int) (h : l.length ≤ 1000) : OwnI w.heap.size (w.alloc (.cells (l.map iv).toArray 3)).heap.size (w.alloc (.cells (l.map iv).toArray 3)) (.slice (some ⟨w.heap.size, 0, none⟩) l.length l.length) l := by
  have := Own.of_blk (lo := w.heap.size) (Blk.new w 3 (l.map iv)) (Nat.le_refl _) (by rw [List.length_map]; unfold maxLen; omega)
  rwa [List.length_map] at this
theorem bld_start (w : World) (f : Nat → List Int) : Bld w (w.alloc (.cells #[] 34)) (.slice (some ⟨w.heap.size, 0, none⟩) 0 0) [] f :=
  ⟨Grow.lit0 _ _, fun i v h => by simp at h, fun i j v v' g _ h => by simp at h⟩
set_option maxHeartbeats 1000000 in
theorem sall_not (n : Int) (h : n < 0 ∨ 2 < n) (w : World) :
    Calls Try.prog 20 #[.int .i64 n] w fun e w' => ∃ v, e = .returned v ∧ OwnII w.heap.size w'.heap.size w' v [] ∧ Below w.heap.size w w' := by
  have e0 : (n == 0) = false := beq_false_of_ne (by omega)
  have e1 : (n == 1) = false := beq_false_of_ne (by omega)
  have e2 : (n == 2) = false := beq_false_of_ne (by omega)
  have hb := hid (bld_start w (fF []))
  clear h
  go_enter Try.func20, Try.ntmps20
  go_wp2_with fail
  go_ret
  exact ⟨_, rfl, hb.out.own, hb.out.1.2⟩
set_option maxHeartbeats 1000000 in
theorem sall_0 (w : World) :
    Calls Try.prog 20 #[.int .i64 0] w fun e w' => ∃ v, e = .returned v ∧ OwnF w.heap.size w'.heap.size w' v 1 (fun _ => []) ∧ Below w.heap.size w w' := by
  have s1 := size_alloc' w (.cells #[] 34)
  have h1 := start_own (w.alloc (.cells #[] 34))
  have h2 := ((Below.refl w.heap.size w).alloc (Nat.le_refl _) (.cells #[] 34)).trans ((start_below (w.alloc (.cells #[] 34))).mono (by omega))
  rw [s1] at h1 h2
  have h1 := hid h1
  have h2 := hid h2
  clear s1
  go_enter Try.func20, Try.ntmps20
  go_wp2_with fail
  go_ret
  exact ⟨_, rfl, h1.out.mono (by omega) (Nat.le_refl _), h2.out⟩
set_option maxHeartbeats 4000000 in
theorem sall_1 (w : World) :
    Calls Try.prog 20 #[.int .i64 1] w fun e w' => ∃ v, e = .returned v ∧ OwnF w.heap.size w'.heap.size w' v 4 sF1 ∧ Below w.heap.size w w' := by
  have hb0 := hid (bld_start w sF1)
  go_enter Try.func20, Try.ntmps20
  go_wp2_with fail
  go_loopw [3, 4] (fun o x wr => ∃ (k : Nat) (vs : List Value), k ≤ 4 ∧ x = .int .i64 k ∧ Bld w wr o vs sF1 ∧ vs.length = k) (fun _ x _ => 4 - (Go.RowKit.intOf x).toNat)
  case atStart => exact ⟨0, [], Nat.zero_le _, rfl, hb0.out, rfl⟩
  case round =>
    obtain ⟨k, vs, hk, rfl, hb, hl⟩ := hrel
    by_cases hlt : k < 4
    · have t1 : decide ((k : Int) < 4) = true := decide_eq_true (by omega)
      have hlit := hid (lit_own wr [(k : Int)] (by simp))
      have hbw := hid ((Below.refl wr.heap.size wr).alloc (Nat.le_refl _) (.cells ([(k : Int)].map iv).toArray 3))
      have hg := hid (hb.1.below hbw.out (Nat.le_refl _))
      have hb := hid hb
      go_wp2_with (at_builtin; refine hg.out.append sliT _ rfl (by omega) rfl _ _ rfl rfl (congrArg (fun n => Value.slice (some ⟨n, 0, none⟩) 1 1) (size_alloc' wr _).symm) ?_; intro v4 w4 hg4 hgb4 _; have hg4 := hid hg4; have hgb4 := hid hgb4)
      exact ⟨⟨k + 1, vs ++ [_], hlt, by go_num, hb.out.step hbw.out (by rw [hl]; exact hlit.out) hg4.out hgb4.out, by rw [List.length_append, hl]; simp⟩, by simp [Go.RowKit.intOf]; omega⟩
    · obtain rfl : k = 4 := by omega
      go_wp2_with fail
      go_ret
      have := hb.own
      rw [hl] at this
      exact ⟨_, rfl, this, hb.1.2⟩
set_option maxHeartbeats 4000000 in
theorem sall_2 (w : World) :
    Calls Try.prog 20 #[.int .i64 2] w fun e w' => ∃ v, e = .returned v ∧ OwnF w.heap.size w'.heap.size w' v 16 sF2 ∧ Below w.heap.size w w' := by
  have hb0 := hid (bld_start w sF2)
  go_enter Try.func20, Try.ntmps20
  go_wp2_with fail
  go_loopw [3, 5] (fun o x wr => ∃ (k : Nat) (vs : List Value), k ≤ 16 ∧ x = .int .i64 k ∧ Bld w wr o vs sF2 ∧ vs.length = k) (fun _ x _ => 16 - (Go.RowKit.intOf x).toNat)
  case atStart => exact ⟨0, [], Nat.zero_le _, rfl, hb0.out, rfl⟩
  case round =>
    obtain ⟨k, vs, hk, rfl, hb, hl⟩ := hrel
    by_cases hlt : k < 16
    · have t1 : decide ((k : Int) < 16) = true := decide_eq_true (by omega)
      have hlit := hid (lit_own wr [(k : Int) / 4, (k : Int) % 4] (by simp))
      have hbw := hid ((Below.refl wr.heap.size wr).alloc (Nat.le_refl _) (.cells ([(k : Int) / 4, (k : Int) % 4].map iv).toArray 3))
      have hg := hid (hb.1.below hbw.out (Nat.le_refl _))
      have hb := hid hb
      go_wp2_with (at_builtin; refine hg.out.append sliT _ rfl (by omega) rfl _ _ rfl rfl (congrArg (fun n => Value.slice (some ⟨n, 0, none⟩) 1 1) (size_alloc' wr _).symm) ?_; intro v4 w4 hg4 hgb4 _; have hg4 := hid hg4; have hgb4 := hid hgb4)
      exact ⟨⟨k + 1, vs ++ [_], hlt, by go_num, hb.out.step hbw.out (by rw [hl]; exact hlit.out) hg4.out hgb4.out, by rw [List.length_append, hl]; simp⟩, by simp [Go.RowKit.intOf]; omega⟩
    · obtain rfl : k = 16 := by omega
      go_wp2_with fail
      go_ret
      have := hb.own
      rw [hl] at this
      exact ⟨_, rfl, this, hb.1.2⟩
theorem sstates_own {n : Int} (w : World) :
    Calls Try.prog 20 #[.int .i64 n] w fun e w' => ∃ v, e = .returned v ∧ OwnII w.heap.size w'.heap.size w' v (statesL n) ∧ Below w.heap.size w w' := by
  by_cases h : 0 ≤ n ∧ n ≤ 2
  · have : n = 0 ∨ n = 1 ∨ n = 2 := by omega
    rcases this with rfl | rfl | rfl
    · refine (sall_0 w).mono ?_
      rintro e w' ⟨v, rfl, ho, hb⟩
      exact ⟨v, rfl, ho.congr (by decide), hb⟩
    · refine (sall_1 w).mono ?_
      rintro e w' ⟨v, rfl, ho, hb⟩
      exact ⟨v, rfl, ho.congr (by decide), hb⟩
    · refine (sall_2 w).mono ?_
      rintro e w' ⟨v, rfl, ho, hb⟩
      exact ⟨v, rfl, ho.congr (by decide), hb⟩
  · rw [states_not (by omega)]
    exact sall_not n (by omega) w
end Go.Proofs.Ytjopcajecnnchaa.C3
