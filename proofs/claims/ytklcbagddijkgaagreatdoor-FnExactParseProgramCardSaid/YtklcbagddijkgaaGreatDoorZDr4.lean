/- Chapter 4's draws: expressions. -/
import Derived.Test.YtklcbagddijkgaaGreatDoorZCur
import Derived.Test.YtklcbagddijkgaaGreatDoorZTr
import Derived.Test.YtklcbagddijkgaaGreatDoorZC3a
set_option maxRecDepth 100000
namespace Go.Proofs.YtklcbagddijkgaaGreatDoor.Dr
open Go.RowKit Go.Lib Go.Proofs.YtklcbagddijkgaaGreatDoor.Com Go.Proofs.YtklcbagddijkgaaGreatDoor.Mem Go.Proofs.YtklcbagddijkgaaGreatDoor.Cur Go.Proofs.YtklcbagddijkgaaGreatDoor.Os Go.Proofs.YtklcbagddijkgaaGreatDoor.Tr

theorem gb_new {a w : World} {row : Option Nat} (h : a.grownBy w row) {b : Nat} (hb : a.heap.size ≤ b) (i : Nat) (u : Value) : a.grownBy (w.setCell ⟨b, i, none⟩ u) row :=
  ⟨h.os, h.tape, h.output, by simpa [World.setCell] using h.size, fun k hk hr => (Below.heap_setCell w ⟨b, i, none⟩ u k (by show k ≠ b; omega)).trans (h.block k hk hr)⟩
theorem chg_of_gbs {w w' : World} {g : Nat} (h : w.grownBy w' (some g)) : Chg w w' g (g + 1) := chg_of_gb h (Nat.le_refl g) (Nat.lt_succ_self g)
/-- the root's row of kids: none, or a block of just these cells -/
def RootOk (w : World) (lo : Nat) (v : Value) : Prop :=
  ∃ k n s A l c, v = nv k n s A l c ∧ ((A = none ∧ l = 0 ∧ c = 0) ∨ ∃ b cs, A = some ⟨b, 0, none⟩ ∧ c = l ∧ Blk w b 27 cs ∧ cs.length = l * 4 ∧ lo ≤ b)
/-- an expression that a draw has made, in blocks from lo on -/
def Made (w : World) (lo : Nat) (v : Value) (t : T) : Prop := OwnE 27 w lo w.heap.size v t ∧ RootOk w lo v
theorem RootOk.chg {w w' : World} {lo lo' hi' : Nat} {v : Value} (h : RootOk w lo v) (hc : Chg w w' lo' hi') (hn : hi' ≤ lo) : RootOk w' lo v := by
  obtain ⟨k, n, s, A, l, c, e, h⟩ := h
  refine ⟨k, n, s, A, l, c, e, ?_⟩
  rcases h with h | ⟨b, cs, e1, e2, e3, e4, e5⟩
  · exact Or.inl h
  · exact Or.inr ⟨b, cs, e1, e2, blk_chg e3 hc (by omega), e4, e5⟩
theorem RootOk.mono {w : World} {lo lo' : Nat} {v : Value} (h : RootOk w lo v) (hl : lo' ≤ lo) : RootOk w lo' v := by
  obtain ⟨k, n, s, A, l, c, e, h⟩ := h
  refine ⟨k, n, s, A, l, c, e, ?_⟩
  rcases h with h | ⟨b, cs, e1, e2, e3, e4, e5⟩
  · exact Or.inl h
  · exact Or.inr ⟨b, cs, e1, e2, e3, e4, by omega⟩
theorem Made.chg {w w' : World} {lo lo' hi' : Nat} {v : Value} {t : T} (h : Made w lo v t) (hc : Chg w w' lo' hi') (hn : hi' ≤ lo) : Made w' lo v t :=
  ⟨(h.1.chg hc (Or.inr hn)).mono (Nat.le_refl _) hc.size, h.2.chg hc hn⟩
theorem Made.below {w w' : World} {lo : Nat} {v : Value} {t : T} (h : Made w lo v t) (hb : Below w.heap.size w w') : Made w' lo v t := h.chg (chg_of_below hb 0 0) (Nat.zero_le _)
theorem Made.mono {w : World} {lo lo' : Nat} {v : Value} {t : T} (h : Made w lo v t) (hl : lo' ≤ lo) : Made w lo' v t := ⟨h.1.mono hl (Nat.le_refl _), h.2.mono hl⟩
theorem Made.drew {w w' : World} {lo g : Nat} {v : Value} {t : T} (h : Made w lo v t) (hg : w.grownBy w' (some g)) (hl : g < lo) : Made w' lo v t := h.chg (chg_of_gbs hg) hl
/-- one kid, in a row of its own -/
theorem made_one {w : World} {lo b : Nat} {k n : Int} {s : List UInt8} {A : Option Addr} {l c : Nat} {t : T} (K N : Int) (hk : OwnE 27 w lo b (nv k n s A l c) t) (hb : Blk w b 27 [.int .i64 k, .int .i64 n, sv s, .slice A l c]) (hlo : lo ≤ b) :
    Made w lo (nv K N [] (some ⟨b, 0, none⟩) 1 1) (.mk K N [] [t]) := by
  refine ⟨OwnE.mk (ks := [t]) (some ⟨b, 0, none⟩) 1 (fun _ => nv k n s A l c) (fun _ => lo) (fun _ => b) (by simp) (by simp) (fun _ => ⟨b, _, rfl, hlo, hb.lt, hb, ?_, fun j _ => Or.inr (Nat.le_refl _)⟩) (fun j _ => ⟨Nat.le_refl _, Nat.le_of_lt hb.lt⟩) (fun i j hij hj => by simp at hj; omega) (fun j a ha => ?_), K, N, [], some ⟨b, 0, none⟩, 1, 1, rfl, Or.inr ⟨b, _, rfl, rfl, hb, rfl, hlo⟩⟩
  · intro j hj
    obtain rfl : j = 0 := by simp at hj; omega
    exact ⟨_, _, _, _, rfl, rfl, rfl, rfl, rfl⟩
  · obtain rfl : j = 0 := by have := lt_of_get ha; simp at this; omega
    cases ha; exact hk
/-- two kids, in a row of their own -/
theorem made_two {w : World} {lo mid mid' b : Nat} {k n k' n' : Int} {s s' : List UInt8} {A A' : Option Addr} {l c l' c' : Nat} {t t' : T} (K N : Int) (hk : OwnE 27 w lo mid (nv k n s A l c) t) (hk' : OwnE 27 w mid mid' (nv k' n' s' A' l' c') t')
    (hb : Blk w b 27 [.int .i64 k, .int .i64 n, sv s, .slice A l c, .int .i64 k', .int .i64 n', sv s', .slice A' l' c']) (h1 : lo ≤ mid) (h2 : mid ≤ mid') (h3 : mid' ≤ b) :
    Made w lo (nv K N [] (some ⟨b, 0, none⟩) 2 2) (.mk K N [] [t, t']) := by
  have hlt := hb.lt
  refine ⟨OwnE.mk (ks := [t, t']) (some ⟨b, 0, none⟩) 2 (fun j => if j = 0 then nv k n s A l c else nv k' n' s' A' l' c') (fun j => if j = 0 then lo else mid) (fun j => if j = 0 then mid else mid') (by simp) (by simp) (fun _ => ⟨b, _, rfl, by omega, hlt, hb, ?_, fun j _ => Or.inr ?_⟩) (fun j _ => ?_) (fun i j hij hj => ?_) (fun j a ha => ?_), K, N, [], some ⟨b, 0, none⟩, 2, 2, rfl, Or.inr ⟨b, _, rfl, rfl, hb, rfl, by omega⟩⟩
  · intro j hj
    have : j = 0 ∨ j = 1 := by simp at hj; omega
    rcases this with rfl | rfl
    · exact ⟨_, _, _, _, rfl, rfl, rfl, rfl, rfl⟩
    · exact ⟨_, _, _, _, rfl, rfl, rfl, rfl, rfl⟩
  · split <;> omega
  · split <;> omega
  · have hij' : i = 0 ∧ j = 1 := by simp at hj; omega
    obtain ⟨rfl, rfl⟩ := hij'
    left; simp
  · have : j = 0 ∨ j = 1 := by have := lt_of_get ha; simp at this; omega
    rcases this with rfl | rfl
    · cases ha; exact hk
    · cases ha; exact hk'

set_option maxHeartbeats 1000000 in
theorem const4 (n : Int) (w : World) : Calls Tryz.prog 82 #[.int .i64 n] w fun e w' => e = .returned (nv 1 n [] none 0 0) ∧ Below w.heap.size w w' := by
  go_enter Tryz.func82, Tryz.ntmps82
  go_wp2_with fail
  refine bodyPost_ret (results_cell_row Tryz.results82 _ _ w.heap.size 27 _ (0, 0) _ rfl (heap_alloc_new w _) Tryz.underlying27 rfl (by kernel_rfl)) rfl ⟨rfl, (Below.refl _ _).alloc (Nat.le_refl _) _⟩
set_option maxHeartbeats 1000000 in
theorem var4 (s : List UInt8) (w : World) : Calls Tryz.prog 124 #[sv s] w fun e w' => e = .returned (nv 2 0 s none 0 0) ∧ Below w.heap.size w w' := by
  go_enter Tryz.func124, Tryz.ntmps124
  go_wp2_with fail
  refine bodyPost_ret (results_cell_row Tryz.results124 _ _ w.heap.size 27 _ (0, 0) _ rfl (heap_alloc_new w _) Tryz.underlying27 rfl (by kernel_rfl)) rfl ⟨rfl, (Below.refl _ _).alloc (Nat.le_refl _) _⟩
theorem op4_res (w : World) (a b c d : Obj) (cs : List Value) (hc : c = .cells cs.toArray 27) : Blk ((((w.alloc a).alloc b).alloc c).alloc d) (w.heap.size + 1 + 1) 27 cs := by
  subst hc
  have h := Blk.new ((w.alloc a).alloc b) 27 cs
  rw [size_alloc', size_alloc'] at h
  exact h.alloc _
theorem op4_row (w : World) (a b c d : Obj) (cs : List Value) (hc : d = .cells cs.toArray 27) : Blk ((((w.alloc a).alloc b).alloc c).alloc d) (w.heap.size + 1 + 1 + 1) 27 cs := by
  subst hc
  have h := Blk.new (((w.alloc a).alloc b).alloc c) 27 cs
  rw [size_alloc', size_alloc', size_alloc'] at h
  exact h
theorem op4_below (w : World) (a b c d : Obj) : Below w.heap.size w ((((w.alloc a).alloc b).alloc c).alloc d) :=
  ((((Below.refl _ _).alloc (Nat.le_refl _) _).alloc (by rw [size_alloc']; omega) _).alloc (by rw [size_alloc', size_alloc']; omega) _).alloc (by rw [size_alloc', size_alloc', size_alloc']; omega) _
set_option maxHeartbeats 2000000 in
theorem op4 (op k n k' n' : Int) (s s' : List UInt8) (A A' : Option Addr) (l c l' c' : Nat) (w : World) :
    Calls Tryz.prog 92 #[.int .i64 op, nv k n s A l c, nv k' n' s' A' l' c'] w fun e w' => e = .returned (nv 3 op [] (some ⟨w.heap.size + 1 + 1 + 1, 0, none⟩) 2 2) ∧
      Blk w' (w.heap.size + 1 + 1 + 1) 27 [.int .i64 k, .int .i64 n, sv s, .slice A l c, .int .i64 k', .int .i64 n', sv s', .slice A' l' c'] ∧ Below w.heap.size w w' := by
  go_enter Tryz.func92, Tryz.ntmps92
  go_wp2_with fail
  refine bodyPost_ret (results_cell_row Tryz.results92 _ _ (w.heap.size + 1 + 1) 27 _ (0, 0) _ rfl (op4_res w _ _ _ _ [.int .i64 3, .int .i64 op, sv [], .slice (some ⟨w.heap.size + 1 + 1 + 1, 0, none⟩) 2 2] rfl) Tryz.underlying27 rfl (by kernel_rfl)) rfl ⟨rfl, op4_row w _ _ _ _ _ rfl, op4_below w _ _ _ _⟩
/-- a node stored into a block of its own -/
abbrev setR (w : World) (b : Nat) (k n : Int) (s : List UInt8) (S : Value) : World := (((w.setCell ⟨b, 0, none⟩ (.int .i64 k)).setCell ⟨b, 1, none⟩ (.int .i64 n)).setCell ⟨b, 2, none⟩ (sv s)).setCell ⟨b, 3, none⟩ S
theorem setR_blk {w : World} {b : Nat} {x0 x1 x2 x3 : Value} (h : Blk w b 27 [x0, x1, x2, x3]) (k n : Int) (s : List UInt8) (S : Value) : Blk (setR w b k n s S) b 27 [.int .i64 k, .int .i64 n, sv s, S] := ((((h.set_ 0 _).set_ 1 _).set_ 2 _).set_ 3 _)
theorem setR_chg (w : World) (b : Nat) (k n : Int) (s : List UInt8) (S : Value) : Chg w (setR w b k n s S) b (b + 1) :=
  chg_trans (chg_trans (chg_trans (chg_set (Nat.le_refl b) (Nat.lt_succ_self b) _) (chg_set (Nat.le_refl b) (Nat.lt_succ_self b) _)) (chg_set (Nat.le_refl b) (Nat.lt_succ_self b) _)) (chg_set (Nat.le_refl b) (Nat.lt_succ_self b) _)
theorem setR_gb {a w : World} {row : Option Nat} (h : a.grownBy w row) {b : Nat} (hb : a.heap.size ≤ b) (k n : Int) (s : List UInt8) (S : Value) : a.grownBy (setR w b k n s S) row := gb_new (gb_new (gb_new (gb_new h hb 0 _) hb 1 _) hb 2 _) hb 3 _
/-- the names that a draw picks from -/
def VarsAt (w : World) (g : Nat) (VA : Option Addr) (V : List (List UInt8)) : Prop := V = [] ∨ ∃ vb cs, VA = some ⟨vb, 0, none⟩ ∧ Blk w vb 9 cs ∧ cs.take V.length = V.map sv ∧ vb ≠ g
theorem VarsAt.chg {w w' : World} {g : Nat} {VA : Option Addr} {V : List (List UInt8)} {lo hi : Nat} (h : VarsAt w g VA V) (hc : Chg w w' lo hi) (hn : ∀ vb cs, VA = some ⟨vb, 0, none⟩ → Blk w vb 9 cs → vb < lo ∨ hi ≤ vb) : VarsAt w' g VA V := by
  rcases h with h | ⟨vb, cs, e1, e2, e3, e4⟩
  · exact Or.inl h
  · exact Or.inr ⟨vb, cs, e1, blk_chg e2 hc (hn vb cs e1 e2), e3, e4⟩
theorem VarsAt.drew {w w' : World} {g : Nat} {VA : Option Addr} {V : List (List UInt8)} (h : VarsAt w g VA V) (hg : w.grownBy w' (some g)) : VarsAt w' g VA V := by
  rcases h with h | ⟨vb, cs, e1, e2, e3, e4⟩
  · exact Or.inl h
  · exact Or.inr ⟨vb, cs, e1, e2.gb hg e4, e3, e4⟩
theorem VarsAt.below {w w' : World} {g : Nat} {VA : Option Addr} {V : List (List UInt8)} (h : VarsAt w g VA V) (hb : Below w.heap.size w w') : VarsAt w' g VA V := by
  rcases h with h | ⟨vb, cs, e1, e2, e3, e4⟩
  · exact Or.inl h
  · exact Or.inr ⟨vb, cs, e1, e2.below hb e2.lt, e3, e4⟩
theorem VarsAt.rd {w : World} {g : Nat} {VA : Option Addr} {V : List (List UInt8)} (h : VarsAt w g VA V) : Rd w w.heap.size VA (V.map sv) ∧ (0 < V.length → ∀ ad, VA = some ad → ad.block ≠ g) := by
  rcases h with rfl | ⟨vb, cs, rfl, e2, e3, e4⟩
  · exact ⟨Rd.nil_, fun h => by simp at h⟩
  · refine ⟨fun _ => ⟨_, rfl, e2.lt, fun j u hj => ?_⟩, fun _ ad e => by cases e; exact e4⟩
    rw [Os.add_zero, e2.cell]
    rw [← e3, List.getElem?_take] at hj
    split at hj
    · exact hj
    · cases hj

end Go.Proofs.YtklcbagddijkgaaGreatDoor.Dr

/- Chapter 4's draws: expressions of some depth. -/
set_option maxRecDepth 100000
namespace Go.Proofs.YtklcbagddijkgaaGreatDoor.Dr
open Go.RowKit Go.Lib Go.Proofs.YtklcbagddijkgaaGreatDoor.Com Go.Proofs.YtklcbagddijkgaaGreatDoor.Mem Go.Proofs.YtklcbagddijkgaaGreatDoor.Cur Go.Proofs.YtklcbagddijkgaaGreatDoor.Os Go.Proofs.YtklcbagddijkgaaGreatDoor.Tr
end Go.Proofs.YtklcbagddijkgaaGreatDoor.Dr

/- Chapter 4's draws: valid expressions. -/
set_option maxRecDepth 100000
namespace Go.Proofs.YtklcbagddijkgaaGreatDoor.Dr
open Go.RowKit Go.Lib Go.Proofs.YtklcbagddijkgaaGreatDoor.Com Go.Proofs.YtklcbagddijkgaaGreatDoor.Mem Go.Proofs.YtklcbagddijkgaaGreatDoor.Cur Go.Proofs.YtklcbagddijkgaaGreatDoor.Os Go.Proofs.YtklcbagddijkgaaGreatDoor.Tr
end Go.Proofs.YtklcbagddijkgaaGreatDoor.Dr
