/- The levels of operators; the model's table of them. -/
import Derived.Test.YtklcbagddijkgaaGreatDoorZC3a
import Derived.Test.YtklcbagddijkgaaGreatDoorZNum
set_option maxRecDepth 100000
namespace Go.Proofs.YtklcbagddijkgaaGreatDoor.Tk
open Go.RowKit Go.Lib Go.Sort Go.Proofs.YtklcbagddijkgaaGreatDoor.Com Go.Proofs.YtklcbagddijkgaaGreatDoor.Mem Go.Proofs.YtklcbagddijkgaaGreatDoor.Os

def opsOf : Nat → List Int
  | 1 => [8]
  | 2 => [7]
  | 3 => [5, 6]
  | 4 => [1, 2]
  | 5 => [3, 4]
  | _ => []
theorem opsOf_few (l : Nat) : (opsOf l).length ≤ 8 := by
  unfold opsOf
  split <;> simp
theorem lev7 (w : World) (I J : TypeId) (o0 : Obj) (r1 r2 r3 r4 r5 top : List Value) {W : World} (hW : W = ((((((w.alloc o0).alloc (.cells r1.toArray I)).alloc (.cells r2.toArray I)).alloc (.cells r3.toArray I)).alloc (.cells r4.toArray I)).alloc (.cells r5.toArray I)).alloc (.cells top.toArray J)) :
    Below w.heap.size w W ∧ Blk W (w.heap.size + 1) I r1 ∧ Blk W (w.heap.size + 1 + 1) I r2 ∧ Blk W (w.heap.size + 1 + 1 + 1) I r3 ∧ Blk W (w.heap.size + 1 + 1 + 1 + 1) I r4 ∧ Blk W (w.heap.size + 1 + 1 + 1 + 1 + 1) I r5 ∧ Blk W (w.heap.size + 1 + 1 + 1 + 1 + 1 + 1) J top := by
  subst hW
  have e1 := Blk.new (w.alloc o0) I r1
  have e2 := Blk.new ((w.alloc o0).alloc (.cells r1.toArray I)) I r2
  have e3 := Blk.new (((w.alloc o0).alloc (.cells r1.toArray I)).alloc (.cells r2.toArray I)) I r3
  have e4 := Blk.new ((((w.alloc o0).alloc (.cells r1.toArray I)).alloc (.cells r2.toArray I)).alloc (.cells r3.toArray I)) I r4
  have e5 := Blk.new (((((w.alloc o0).alloc (.cells r1.toArray I)).alloc (.cells r2.toArray I)).alloc (.cells r3.toArray I)).alloc (.cells r4.toArray I)) I r5
  have e6 := Blk.new ((((((w.alloc o0).alloc (.cells r1.toArray I)).alloc (.cells r2.toArray I)).alloc (.cells r3.toArray I)).alloc (.cells r4.toArray I)).alloc (.cells r5.toArray I)) J top
  simp only [size_alloc'] at e1 e2 e3 e4 e5 e6
  refine ⟨?_, ((((e1.alloc _).alloc _).alloc _).alloc _).alloc _, (((e2.alloc _).alloc _).alloc _).alloc _, ((e3.alloc _).alloc _).alloc _, (e4.alloc _).alloc _, e5.alloc _, e6⟩
  have g := fun (v : World) (o : Obj) (h : Below w.heap.size w v) => h.alloc h.size o
  exact g _ _ (g _ _ (g _ _ (g _ _ (g _ _ (g _ _ (g _ _ (Below.refl _ _)))))))
theorem levs_any (w : World) : Calls Tryz.prog 138 #[] w fun e w' => ∃ B, e = .returned (.slice (some ⟨B, 0, none⟩) 6 6) ∧ Below w.heap.size w w' ∧
    ∀ l, 1 ≤ l → l ≤ 5 → ∃ b, w'.cell? ⟨B, l, none⟩ = some (.slice (some ⟨b, 0, none⟩) (opsOf l).length (opsOf l).length) ∧ Rd w' w'.heap.size (some ⟨b, 0, none⟩) ((opsOf l).map (Value.int .i64)) ∧ w.heap.size ≤ b := by
  go_enter Tryz.func138, Tryz.ntmps138
  go_wp2_with fail
  go_ret
  obtain ⟨hb, e1, e2, e3, e4, e5, e6⟩ := lev7 w 3 114 (.cells #[] 3) [.int .i64 8] [.int .i64 7] [.int .i64 5, .int .i64 6] [.int .i64 1, .int .i64 2] [.int .i64 3, .int .i64 4]
    [.slice (some ⟨w.heap.size, 0, none⟩) 0 0, .slice (some ⟨w.heap.size + 1, 0, none⟩) 1 1, .slice (some ⟨w.heap.size + 1 + 1, 0, none⟩) 1 1, .slice (some ⟨w.heap.size + 1 + 1 + 1, 0, none⟩) 2 2, .slice (some ⟨w.heap.size + 1 + 1 + 1 + 1, 0, none⟩) 2 2, .slice (some ⟨w.heap.size + 1 + 1 + 1 + 1 + 1, 0, none⟩) 2 2] rfl
  refine ⟨_, rfl, hb, fun l h1 h2 => ?_⟩
  have hl : l = 1 ∨ l = 2 ∨ l = 3 ∨ l = 4 ∨ l = 5 := by omega
  rcases hl with rfl | rfl | rfl | rfl | rfl
  · exact ⟨_, e6.cell 1, e1.rd.more e1.lt, by omega⟩
  · exact ⟨_, e6.cell 2, e2.rd.more e2.lt, by omega⟩
  · exact ⟨_, e6.cell 3, e3.rd.more e3.lt, by omega⟩
  · exact ⟨_, e6.cell 4, e4.rd.more e4.lt, by omega⟩
  · exact ⟨_, e6.cell 5, e5.rd.more e5.lt, by omega⟩
end Go.Proofs.YtklcbagddijkgaaGreatDoor.Tk
