/- Chapter 4's draws: expressions. -/
import Derived.Test.YtiogceepjffmkaaGreatDoorZC1
set_option maxHeartbeats 2000000
set_option maxRecDepth 100000
namespace Go.Proofs.YtiogceepjffmkaaGreatDoor.Dr
open Go.RowKit Go.Lib Com Mem Cur YtiogceepjffmkaaGreatDoor.Os Tr
theorem gb_new {a w : World} {row : Option Nat} (h : a.grownBy w row) {b : Nat} (hb : a.heap.size ≤ b) (i : Nat) (u : Value) : a.grownBy (w.setCell ⟨b, i, none⟩ u) row :=
  ⟨h.os, h.tape, h.output, by simpa [World.setCell] using h.size, fun k hk hr => (Below.heap_setCell w ⟨b, i, none⟩ u k (by show k ≠ b; omega)).trans (h.block k hk hr)⟩
def RootOk (w : World) (lo : Nat) (v : Value) : Prop :=
  ∃ k n s A l c, v = nv k n s A l c ∧ ((A = none ∧ l = 0 ∧ c = 0) ∨ ∃ b cs, A = some ⟨b, 0, none⟩ ∧ c = l ∧ Blk w b 58 cs ∧ cs.length = l * 4 ∧ lo ≤ b)
def Made (w : World) (lo : Nat) (v : Value) (t : T) : Prop := OwnE 58 w lo w.heap.size v t ∧ RootOk w lo v
theorem made_one {w : World} {lo b : Nat} {k n : Int} {s : List UInt8} {A : Option Addr} {l c : Nat} {t : T} (K N : Int) (hk : OwnE 58 w lo b (nv k n s A l c) t) (hb : Blk w b 58 [.int .i64 k, .int .i64 n, sv s, .slice A l c]) (hlo : lo ≤ b) :
    Made w lo (nv K N [] (some ⟨b, 0, none⟩) 1 1) (.mk K N [] [t]) := by
  refine ⟨OwnE.mk (ks := [t]) (some ⟨b, 0, none⟩) 1 (fun _ => nv k n s A l c) (fun _ => lo) (fun _ => b) (by simp) (by simp) (fun _ => ⟨b, _, rfl, hlo, hb.lt, hb, ?_, fun j _ => Or.inr (Nat.le_refl _)⟩) (fun j _ => ⟨Nat.le_refl _, Nat.le_of_lt hb.lt⟩) (fun i j hij hj => by simp at hj; omega) (fun j a ha => ?_), K, N, [], some ⟨b, 0, none⟩, 1, 1, rfl, Or.inr ⟨b, _, rfl, rfl, hb, rfl, hlo⟩⟩
  · intro j hj
    obtain rfl : j = 0 := by simp at hj; omega
    exact ⟨_, _, _, _, rfl, rfl, rfl, rfl, rfl⟩
  · obtain rfl : j = 0 := by have := lt_of_get ha; simp at this; omega
    cases ha; exact hk
theorem made_two {w : World} {lo mid mid' b : Nat} {k n k' n' : Int} {s s' : List UInt8} {A A' : Option Addr} {l c l' c' : Nat} {t t' : T} (K N : Int) (hk : OwnE 58 w lo mid (nv k n s A l c) t) (hk' : OwnE 58 w mid mid' (nv k' n' s' A' l' c') t')
    (hb : Blk w b 58 [.int .i64 k, .int .i64 n, sv s, .slice A l c, .int .i64 k', .int .i64 n', sv s', .slice A' l' c']) (h1 : lo ≤ mid) (h2 : mid ≤ mid') (h3 : mid' ≤ b) :
    Made w lo (nv K N [] (some ⟨b, 0, none⟩) 2 2) (.mk K N [] [t, t']) := by
  have hlt := hb.lt
  refine ⟨OwnE.mk (ks := [t, t']) (some ⟨b, 0, none⟩) 2 (fun j => if j = 0 then nv k n s A l c else nv k' n' s' A' l' c') (fun j => if j = 0 then lo else mid) (fun j => if j = 0 then mid else mid') (by simp) (by simp) (fun _ => ⟨b, _, rfl, by omega, hlt, hb, ?_, fun j _ => Or.inr ?_⟩) (fun j _ => ?_) (fun i j hij hj => ?_) (fun j a ha => ?_), K, N, [], some ⟨b, 0, none⟩, 2, 2, rfl, Or.inr ⟨b, _, rfl, rfl, hb, rfl, by omega⟩⟩
  · intro j hj
    have : j = 0 ∨ j = 1 := by simp at hj; omega
    rcases this with rfl | rfl
    · exact ⟨_, _, _, _, rfl, rfl, rfl, rfl, rfl⟩
    · exact ⟨_, _, _, _, rfl, rfl, rfl, rfl, rfl⟩
  · split <;> omega
  · split <;> omega
  · have hij' : i = 0 ∧ j = 1 := by simp at hj; omega
    obtain ⟨rfl, rfl⟩ := hij'
    left; simp
  · have : j = 0 ∨ j = 1 := by have := lt_of_get ha; simp at this; omega
    rcases this with rfl | rfl
    · cases ha; exact hk
    · cases ha; exact hk'
theorem const4 (n : Int) (w : World) : Calls Tryz.prog 49 #[.int .i64 n] w fun e w' => e = .returned (nv 1 n [] none 0 0) ∧ Below w.heap.size w w' := by
  go_enter Tryz.func49, Tryz.ntmps49
  go_wp2_with fail
  refine bodyPost_ret (results_cell_row Tryz.results49 _ _ w.heap.size 58 _ (0, 0) _ rfl (heap_alloc_new w _) Tryz.underlying58 rfl (by kernel_rfl)) rfl ⟨rfl, (Below.refl _ _).alloc (Nat.le_refl _) _⟩
theorem var4 (s : List UInt8) (w : World) : Calls Tryz.prog 161 #[sv s] w fun e w' => e = .returned (nv 2 0 s none 0 0) ∧ Below w.heap.size w w' := by
  go_enter Tryz.func161, Tryz.ntmps161
  go_wp2_with fail
  refine bodyPost_ret (results_cell_row Tryz.results161 _ _ w.heap.size 58 _ (0, 0) _ rfl (heap_alloc_new w _) Tryz.underlying58 rfl (by kernel_rfl)) rfl ⟨rfl, (Below.refl _ _).alloc (Nat.le_refl _) _⟩
theorem op4_res (w : World) (a b c d : Obj) (cs : List Value) (hc : c = .cells cs.toArray 58) : Blk ((((w.alloc a).alloc b).alloc c).alloc d) (w.heap.size + 1 + 1) 58 cs := by
  subst hc
  have h := Blk.new ((w.alloc a).alloc b) 58 cs
  rw [size_alloc', size_alloc'] at h
  exact h.alloc _
theorem op4_row (w : World) (a b c d : Obj) (cs : List Value) (hc : d = .cells cs.toArray 58) : Blk ((((w.alloc a).alloc b).alloc c).alloc d) (w.heap.size + 1 + 1 + 1) 58 cs := by
  subst hc
  have h := Blk.new (((w.alloc a).alloc b).alloc c) 58 cs
  rw [size_alloc', size_alloc', size_alloc'] at h
  exact h
theorem op4_below (w : World) (a b c d : Obj) : Below w.heap.size w ((((w.alloc a).alloc b).alloc c).alloc d) :=
  ((((Below.refl _ _).alloc (Nat.le_refl _) _).alloc (by rw [size_alloc']; omega) _).alloc (by rw [size_alloc', size_alloc']; omega) _).alloc (by rw [size_alloc', size_alloc', size_alloc']; omega) _
theorem op4 (op k n k' n' : Int) (s s' : List UInt8) (A A' : Option Addr) (l c l' c' : Nat) (w : World) :
    Calls Tryz.prog 89 #[.int .i64 op, nv k n s A l c, nv k' n' s' A' l' c'] w fun e w' => e = .returned (nv 3 op [] (some ⟨w.heap.size + 1 + 1 + 1, 0, none⟩) 2 2) ∧
      Blk w' (w.heap.size + 1 + 1 + 1) 58 [.int .i64 k, .int .i64 n, sv s, .slice A l c, .int .i64 k', .int .i64 n', sv s', .slice A' l' c'] ∧ Below w.heap.size w w' := by
  go_enter Tryz.func89, Tryz.ntmps89
  go_wp2_with fail
  refine bodyPost_ret (results_cell_row Tryz.results89 _ _ (w.heap.size + 1 + 1) 58 _ (0, 0) _ rfl (op4_res w _ _ _ _ [.int .i64 3, .int .i64 op, sv [], .slice (some ⟨w.heap.size + 1 + 1 + 1, 0, none⟩) 2 2] rfl) Tryz.underlying58 rfl (by kernel_rfl)) rfl ⟨rfl, op4_row w _ _ _ _ _ rfl, op4_below w _ _ _ _⟩
abbrev setR (w : World) (b : Nat) (k n : Int) (s : List UInt8) (S : Value) : World := (((w.setCell ⟨b, 0, none⟩ (.int .i64 k)).setCell ⟨b, 1, none⟩ (.int .i64 n)).setCell ⟨b, 2, none⟩ (sv s)).setCell ⟨b, 3, none⟩ S
theorem setR_blk {w : World} {b : Nat} {x0 x1 x2 x3 : Value} (h : Blk w b 58 [x0, x1, x2, x3]) (k n : Int) (s : List UInt8) (S : Value) : Blk (setR w b k n s S) b 58 [.int .i64 k, .int .i64 n, sv s, S] := ((((h.set_ 0 _).set_ 1 _).set_ 2 _).set_ 3 _)
theorem setR_chg (w : World) (b : Nat) (k n : Int) (s : List UInt8) (S : Value) : Chg w (setR w b k n s S) b (b + 1) :=
  chg_trans (chg_trans (chg_trans (chg_set (Nat.le_refl b) (Nat.lt_succ_self b) _) (chg_set (Nat.le_refl b) (Nat.lt_succ_self b) _)) (chg_set (Nat.le_refl b) (Nat.lt_succ_self b) _)) (chg_set (Nat.le_refl b) (Nat.lt_succ_self b) _)
theorem setR_gb {a w : World} {row : Option Nat} (h : a.grownBy w row) {b : Nat} (hb : a.heap.size ≤ b) (k n : Int) (s : List UInt8) (S : Value) : a.grownBy (setR w b k n s S) row := gb_new (gb_new (gb_new (gb_new h hb 0 _) hb 1 _) hb 2 _) hb 3 _
end Go.Proofs.YtiogceepjffmkaaGreatDoor.Dr
