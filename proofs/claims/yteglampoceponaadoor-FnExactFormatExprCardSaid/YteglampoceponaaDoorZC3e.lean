/- Chapter 3: the model's ApplyOp and OpSymbol. -/
import Derived.Test.YteglampoceponaaDoorZC3o
set_option maxRecDepth 100000
namespace Go.Proofs.YteglampoceponaaDoor.C3
open Go.RowKit Go.Lib Go.Sort Go.Proofs.YteglampoceponaaDoor.Com Go.Proofs.YteglampoceponaaDoor.Mem
set_option maxHeartbeats 1000000 in
theorem ssymbol1 (w : World) : Calls Tryd.prog 34 #[.int .i64 1] w fun e w' => e = .returned (.string ⟨#[43]⟩) ∧ Below w.heap.size w w' := by
  have h0 := hid (l1In_any 1 1 8 w)
  rw [inB_lit 1 (by decide) (by decide)] at h0
  go_enter Tryd.func34, Tryd.ntmps34
  go_wp2_with fail
  refine h0.out.mono ?_
  rintro e w1 ⟨rfl, rfl⟩
  go_wp2_with fail
  go_ret
  exact ⟨rfl, (Below.refl _ _).alloc (Nat.le_refl _) _⟩
set_option maxHeartbeats 1000000 in
theorem ssymbol2 (w : World) : Calls Tryd.prog 34 #[.int .i64 2] w fun e w' => e = .returned (.string ⟨#[45]⟩) ∧ Below w.heap.size w w' := by
  have h0 := hid (l1In_any 2 1 8 w)
  rw [inB_lit 2 (by decide) (by decide)] at h0
  go_enter Tryd.func34, Tryd.ntmps34
  go_wp2_with fail
  refine h0.out.mono ?_
  rintro e w1 ⟨rfl, rfl⟩
  go_wp2_with fail
  go_ret
  exact ⟨rfl, (Below.refl _ _).alloc (Nat.le_refl _) _⟩
set_option maxHeartbeats 1000000 in
theorem ssymbol3 (w : World) : Calls Tryd.prog 34 #[.int .i64 3] w fun e w' => e = .returned (.string ⟨#[42]⟩) ∧ Below w.heap.size w w' := by
  have h0 := hid (l1In_any 3 1 8 w)
  rw [inB_lit 3 (by decide) (by decide)] at h0
  go_enter Tryd.func34, Tryd.ntmps34
  go_wp2_with fail
  refine h0.out.mono ?_
  rintro e w1 ⟨rfl, rfl⟩
  go_wp2_with fail
  go_ret
  exact ⟨rfl, (Below.refl _ _).alloc (Nat.le_refl _) _⟩
set_option maxHeartbeats 1000000 in
theorem ssymbol4 (w : World) : Calls Tryd.prog 34 #[.int .i64 4] w fun e w' => e = .returned (.string ⟨#[47]⟩) ∧ Below w.heap.size w w' := by
  have h0 := hid (l1In_any 4 1 8 w)
  rw [inB_lit 4 (by decide) (by decide)] at h0
  go_enter Tryd.func34, Tryd.ntmps34
  go_wp2_with fail
  refine h0.out.mono ?_
  rintro e w1 ⟨rfl, rfl⟩
  go_wp2_with fail
  go_ret
  exact ⟨rfl, (Below.refl _ _).alloc (Nat.le_refl _) _⟩
set_option maxHeartbeats 1000000 in
theorem ssymbol5 (w : World) : Calls Tryd.prog 34 #[.int .i64 5] w fun e w' => e = .returned (.string ⟨#[60]⟩) ∧ Below w.heap.size w w' := by
  have h0 := hid (l1In_any 5 1 8 w)
  rw [inB_lit 5 (by decide) (by decide)] at h0
  go_enter Tryd.func34, Tryd.ntmps34
  go_wp2_with fail
  refine h0.out.mono ?_
  rintro e w1 ⟨rfl, rfl⟩
  go_wp2_with fail
  go_ret
  exact ⟨rfl, (Below.refl _ _).alloc (Nat.le_refl _) _⟩
set_option maxHeartbeats 1000000 in
theorem ssymbol6 (w : World) : Calls Tryd.prog 34 #[.int .i64 6] w fun e w' => e = .returned (.string ⟨#[61, 61]⟩) ∧ Below w.heap.size w w' := by
  have h0 := hid (l1In_any 6 1 8 w)
  rw [inB_lit 6 (by decide) (by decide)] at h0
  go_enter Tryd.func34, Tryd.ntmps34
  go_wp2_with fail
  refine h0.out.mono ?_
  rintro e w1 ⟨rfl, rfl⟩
  go_wp2_with fail
  go_ret
  exact ⟨rfl, (Below.refl _ _).alloc (Nat.le_refl _) _⟩
set_option maxHeartbeats 1000000 in
theorem ssymbol7 (w : World) : Calls Tryd.prog 34 #[.int .i64 7] w fun e w' => e = .returned (.string ⟨#[38]⟩) ∧ Below w.heap.size w w' := by
  have h0 := hid (l1In_any 7 1 8 w)
  rw [inB_lit 7 (by decide) (by decide)] at h0
  go_enter Tryd.func34, Tryd.ntmps34
  go_wp2_with fail
  refine h0.out.mono ?_
  rintro e w1 ⟨rfl, rfl⟩
  go_wp2_with fail
  go_ret
  exact ⟨rfl, (Below.refl _ _).alloc (Nat.le_refl _) _⟩
set_option maxHeartbeats 1000000 in
theorem ssymbol8 (w : World) : Calls Tryd.prog 34 #[.int .i64 8] w fun e w' => e = .returned (.string ⟨#[124]⟩) ∧ Below w.heap.size w w' := by
  have h0 := hid (l1In_any 8 1 8 w)
  rw [inB_lit 8 (by decide) (by decide)] at h0
  go_enter Tryd.func34, Tryd.ntmps34
  go_wp2_with fail
  refine h0.out.mono ?_
  rintro e w1 ⟨rfl, rfl⟩
  go_wp2_with fail
  go_ret
  exact ⟨rfl, (Below.refl _ _).alloc (Nat.le_refl _) _⟩
set_option maxHeartbeats 1000000 in
theorem ssymbol_not (k : Int) (hk : k < 1 ∨ 8 < k) (w : World) : Calls Tryd.prog 34 #[.int .i64 k] w fun e w' => e = .returned (.string ⟨#[63]⟩) ∧ Below w.heap.size w w' := by
  have h0 := hid (l1In_any k 1 8 w)
  rw [inB_not k hk] at h0
  clear hk
  go_enter Tryd.func34, Tryd.ntmps34
  go_wp2_with fail
  refine h0.out.mono ?_
  rintro e w1 ⟨rfl, rfl⟩
  go_wp2_with fail
  go_ret
  exact ⟨rfl, Below.refl _ _⟩
theorem ssymbol_any (k : Int) (w : World) : Calls Tryd.prog 34 #[.int .i64 k] w fun e w' => e = .returned (.string ⟨(symL k).toArray⟩) ∧ Below w.heap.size w w' := by
  by_cases h : 1 ≤ k ∧ k ≤ 8
  · rcases op_cases h.1 h.2 with rfl | rfl | rfl | rfl | rfl | rfl | rfl | rfl
    · exact ssymbol1 w
    · exact ssymbol2 w
    · exact ssymbol3 w
    · exact ssymbol4 w
    · exact ssymbol5 w
    · exact ssymbol6 w
    · exact ssymbol7 w
    · exact ssymbol8 w
  · rw [symL_not (by omega)]; exact ssymbol_not k (by omega) w
end Go.Proofs.YteglampoceponaaDoor.C3
