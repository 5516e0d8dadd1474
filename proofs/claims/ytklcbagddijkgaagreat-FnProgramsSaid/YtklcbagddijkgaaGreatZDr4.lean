/- Chapter 4's draws: expressions. -/
import Derived.Test.YtklcbagddijkgaaGreatZCur
import Derived.Test.YtklcbagddijkgaaGreatZEx4
import Derived.Test.YtklcbagddijkgaaGreatZC3a
import Derived.Deep.RegionWith
import Derived.Deep.RegionLaw
import Derived.Maps.AppendAt
set_option maxRecDepth 100000
namespace Go.Proofs.YtklcbagddijkgaaGreat.Dr
open Go.RowKit Go.Lib Go.Proofs.YtklcbagddijkgaaGreat.Com Go.Proofs.YtklcbagddijkgaaGreat.Mem Go.Proofs.YtklcbagddijkgaaGreat.Cur Go.Proofs.YtklcbagddijkgaaGreat.Os Go.Proofs.YtklcbagddijkgaaGreat.Tr

theorem gb_new {a w : World} {row : Option Nat} (h : a.grownBy w row) {b : Nat} (hb : a.heap.size ≤ b) (i : Nat) (u : Value) : a.grownBy (w.setCell ⟨b, i, none⟩ u) row :=
  ⟨h.os, h.tape, h.output, by simpa [World.setCell] using h.size, fun k hk hr => (Below.heap_setCell w ⟨b, i, none⟩ u k (by show k ≠ b; omega)).trans (h.block k hk hr)⟩
theorem cur_set {w : World} {g c b : Nat} {A : Option Addr} {xs : List UInt8} (h : CurAt w g A c xs) (hb : g < b) (i : Nat) (u : Value) : CurAt (w.setCell ⟨b, i, none⟩ u) g A c xs :=
  cur_below h ((Below.refl (g + 1) w).setCell (p := ⟨b, i, none⟩) hb u)
theorem chg_of_gbs {w w' : World} {g : Nat} (h : w.grownBy w' (some g)) : Chg w w' g (g + 1) := chg_of_gb h (Nat.le_refl g) (Nat.lt_succ_self g)
/-- the root's row of kids: none, or a block of just these cells -/
def RootOk (w : World) (lo : Nat) (v : Value) : Prop :=
  ∃ k n s A l c, v = nv k n s A l c ∧ ((A = none ∧ l = 0 ∧ c = 0) ∨ ∃ b cs, A = some ⟨b, 0, none⟩ ∧ c = l ∧ Blk w b 48 cs ∧ cs.length = l * 4 ∧ lo ≤ b)
/-- an expression that a draw has made, in blocks from lo on -/
def Made (w : World) (lo : Nat) (v : Value) (t : T) : Prop := OwnE 48 w lo w.heap.size v t ∧ RootOk w lo v
theorem RootOk.chg {w w' : World} {lo lo' hi' : Nat} {v : Value} (h : RootOk w lo v) (hc : Chg w w' lo' hi') (hn : hi' ≤ lo) : RootOk w' lo v := by
  obtain ⟨k, n, s, A, l, c, e, h⟩ := h
  refine ⟨k, n, s, A, l, c, e, ?_⟩
  rcases h with h | ⟨b, cs, e1, e2, e3, e4, e5⟩
  · exact Or.inl h
  · exact Or.inr ⟨b, cs, e1, e2, blk_chg e3 hc (by omega), e4, e5⟩
theorem RootOk.mono {w : World} {lo lo' : Nat} {v : Value} (h : RootOk w lo v) (hl : lo' ≤ lo) : RootOk w lo' v := by
  obtain ⟨k, n, s, A, l, c, e, h⟩ := h
  refine ⟨k, n, s, A, l, c, e, ?_⟩
  rcases h with h | ⟨b, cs, e1, e2, e3, e4, e5⟩
  · exact Or.inl h
  · exact Or.inr ⟨b, cs, e1, e2, e3, e4, by omega⟩
theorem Made.chg {w w' : World} {lo lo' hi' : Nat} {v : Value} {t : T} (h : Made w lo v t) (hc : Chg w w' lo' hi') (hn : hi' ≤ lo) : Made w' lo v t :=
  ⟨(h.1.chg hc (Or.inr hn)).mono (Nat.le_refl _) hc.size, h.2.chg hc hn⟩
theorem Made.below {w w' : World} {lo : Nat} {v : Value} {t : T} (h : Made w lo v t) (hb : Below w.heap.size w w') : Made w' lo v t := h.chg (chg_of_below hb 0 0) (Nat.zero_le _)
theorem Made.mono {w : World} {lo lo' : Nat} {v : Value} {t : T} (h : Made w lo v t) (hl : lo' ≤ lo) : Made w lo' v t := ⟨h.1.mono hl (Nat.le_refl _), h.2.mono hl⟩
theorem Made.drew {w w' : World} {lo g : Nat} {v : Value} {t : T} (h : Made w lo v t) (hg : w.grownBy w' (some g)) (hl : g < lo) : Made w' lo v t := h.chg (chg_of_gbs hg) hl
theorem made_leaf (w : World) (lo : Nat) (k n : Int) (s : List UInt8) (hs : s.length ≤ 9223372036854775807) : Made w lo (nv k n s none 0 0) (.mk k n s []) :=
  ⟨OwnE.mk (ks := []) none 0 (fun _ => .nilFunc) (fun _ => 0) (fun _ => 0) hs (by simp) (fun h => absurd rfl h) (fun j hj => by simp at hj) (fun i j _ hj => by simp at hj) (fun j a ha => by simp at ha), k, n, s, none, 0, 0, rfl, Or.inl ⟨rfl, rfl, rfl⟩⟩
/-- one kid, in a row of its own -/
theorem made_one {w : World} {lo b : Nat} {k n : Int} {s : List UInt8} {A : Option Addr} {l c : Nat} {t : T} (K N : Int) (hk : OwnE 48 w lo b (nv k n s A l c) t) (hb : Blk w b 48 [.int .i64 k, .int .i64 n, sv s, .slice A l c]) (hlo : lo ≤ b) :
    Made w lo (nv K N [] (some ⟨b, 0, none⟩) 1 1) (.mk K N [] [t]) := by
  refine ⟨OwnE.mk (ks := [t]) (some ⟨b, 0, none⟩) 1 (fun _ => nv k n s A l c) (fun _ => lo) (fun _ => b) (by simp) (by simp) (fun _ => ⟨b, _, rfl, hlo, hb.lt, hb, ?_, fun j _ => Or.inr (Nat.le_refl _)⟩) (fun j _ => ⟨Nat.le_refl _, Nat.le_of_lt hb.lt⟩) (fun i j hij hj => by simp at hj; omega) (fun j a ha => ?_), K, N, [], some ⟨b, 0, none⟩, 1, 1, rfl, Or.inr ⟨b, _, rfl, rfl, hb, rfl, hlo⟩⟩
  · intro j hj
    obtain rfl : j = 0 := by simp at hj; omega
    exact ⟨_, _, _, _, rfl, rfl, rfl, rfl, rfl⟩
  · obtain rfl : j = 0 := by have := lt_of_get ha; simp at this; omega
    cases ha; exact hk
/-- two kids, in a row of their own -/
theorem made_two {w : World} {lo mid mid' b : Nat} {k n k' n' : Int} {s s' : List UInt8} {A A' : Option Addr} {l c l' c' : Nat} {t t' : T} (K N : Int) (hk : OwnE 48 w lo mid (nv k n s A l c) t) (hk' : OwnE 48 w mid mid' (nv k' n' s' A' l' c') t')
    (hb : Blk w b 48 [.int .i64 k, .int .i64 n, sv s, .slice A l c, .int .i64 k', .int .i64 n', sv s', .slice A' l' c']) (h1 : lo ≤ mid) (h2 : mid ≤ mid') (h3 : mid' ≤ b) :
    Made w lo (nv K N [] (some ⟨b, 0, none⟩) 2 2) (.mk K N [] [t, t']) := by
  have hlt := hb.lt
  refine ⟨OwnE.mk (ks := [t, t']) (some ⟨b, 0, none⟩) 2 (fun j => if j = 0 then nv k n s A l c else nv k' n' s' A' l' c') (fun j => if j = 0 then lo else mid) (fun j => if j = 0 then mid else mid') (by simp) (by simp) (fun _ => ⟨b, _, rfl, by omega, hlt, hb, ?_, fun j _ => Or.inr ?_⟩) (fun j _ => ?_) (fun i j hij hj => ?_) (fun j a ha => ?_), K, N, [], some ⟨b, 0, none⟩, 2, 2, rfl, Or.inr ⟨b, _, rfl, rfl, hb, rfl, by omega⟩⟩
  · intro j hj
    have : j = 0 ∨ j = 1 := by simp at hj; omega
    rcases this with rfl | rfl
    · exact ⟨_, _, _, _, rfl, rfl, rfl, rfl, rfl⟩
    · exact ⟨_, _, _, _, rfl, rfl, rfl, rfl, rfl⟩
  · split <;> omega
  · split <;> omega
  · have hij' : i = 0 ∧ j = 1 := by simp at hj; omega
    obtain ⟨rfl, rfl⟩ := hij'
    left; simp
  · have : j = 0 ∨ j = 1 := by have := lt_of_get ha; simp at this; omega
    rcases this with rfl | rfl
    · cases ha; exact hk
    · cases ha; exact hk'

set_option maxHeartbeats 1000000 in
theorem const4 (n : Int) (w : World) : Calls Tryz.prog 42 #[.int .i64 n] w fun e w' => e = .returned (nv 1 n [] none 0 0) ∧ Below w.heap.size w w' := by
  go_enter Tryz.func42, Tryz.ntmps42
  go_wp2_with fail
  refine bodyPost_ret (results_cell_row Tryz.results42 _ _ w.heap.size 48 _ (0, 0) _ rfl (heap_alloc_new w _) Tryz.underlying48 rfl (by kernel_rfl)) rfl ⟨rfl, (Below.refl _ _).alloc (Nat.le_refl _) _⟩
set_option maxHeartbeats 1000000 in
theorem var4 (s : List UInt8) (w : World) : Calls Tryz.prog 101 #[sv s] w fun e w' => e = .returned (nv 2 0 s none 0 0) ∧ Below w.heap.size w w' := by
  go_enter Tryz.func101, Tryz.ntmps101
  go_wp2_with fail
  refine bodyPost_ret (results_cell_row Tryz.results101 _ _ w.heap.size 48 _ (0, 0) _ rfl (heap_alloc_new w _) Tryz.underlying48 rfl (by kernel_rfl)) rfl ⟨rfl, (Below.refl _ _).alloc (Nat.le_refl _) _⟩
theorem op4_res (w : World) (a b c d : Obj) (cs : List Value) (hc : c = .cells cs.toArray 48) : Blk ((((w.alloc a).alloc b).alloc c).alloc d) (w.heap.size + 1 + 1) 48 cs := by
  subst hc
  have h := Blk.new ((w.alloc a).alloc b) 48 cs
  rw [size_alloc', size_alloc'] at h
  exact h.alloc _
theorem op4_row (w : World) (a b c d : Obj) (cs : List Value) (hc : d = .cells cs.toArray 48) : Blk ((((w.alloc a).alloc b).alloc c).alloc d) (w.heap.size + 1 + 1 + 1) 48 cs := by
  subst hc
  have h := Blk.new (((w.alloc a).alloc b).alloc c) 48 cs
  rw [size_alloc', size_alloc', size_alloc'] at h
  exact h
theorem op4_below (w : World) (a b c d : Obj) : Below w.heap.size w ((((w.alloc a).alloc b).alloc c).alloc d) :=
  ((((Below.refl _ _).alloc (Nat.le_refl _) _).alloc (by rw [size_alloc']; omega) _).alloc (by rw [size_alloc', size_alloc']; omega) _).alloc (by rw [size_alloc', size_alloc', size_alloc']; omega) _
set_option maxHeartbeats 2000000 in
theorem op4 (op k n k' n' : Int) (s s' : List UInt8) (A A' : Option Addr) (l c l' c' : Nat) (w : World) :
    Calls Tryz.prog 61 #[.int .i64 op, nv k n s A l c, nv k' n' s' A' l' c'] w fun e w' => e = .returned (nv 3 op [] (some ⟨w.heap.size + 1 + 1 + 1, 0, none⟩) 2 2) ∧
      Blk w' (w.heap.size + 1 + 1 + 1) 48 [.int .i64 k, .int .i64 n, sv s, .slice A l c, .int .i64 k', .int .i64 n', sv s', .slice A' l' c'] ∧ Below w.heap.size w w' := by
  go_enter Tryz.func61, Tryz.ntmps61
  go_wp2_with fail
  refine bodyPost_ret (results_cell_row Tryz.results61 _ _ (w.heap.size + 1 + 1) 48 _ (0, 0) _ rfl (op4_res w _ _ _ _ [.int .i64 3, .int .i64 op, sv [], .slice (some ⟨w.heap.size + 1 + 1 + 1, 0, none⟩) 2 2] rfl) Tryz.underlying48 rfl (by kernel_rfl)) rfl ⟨rfl, op4_row w _ _ _ _ _ rfl, op4_below w _ _ _ _⟩
/-- a node stored into a block of its own -/
abbrev setR (w : World) (b : Nat) (k n : Int) (s : List UInt8) (S : Value) : World := (((w.setCell ⟨b, 0, none⟩ (.int .i64 k)).setCell ⟨b, 1, none⟩ (.int .i64 n)).setCell ⟨b, 2, none⟩ (sv s)).setCell ⟨b, 3, none⟩ S
theorem setR_blk {w : World} {b : Nat} {x0 x1 x2 x3 : Value} (h : Blk w b 48 [x0, x1, x2, x3]) (k n : Int) (s : List UInt8) (S : Value) : Blk (setR w b k n s S) b 48 [.int .i64 k, .int .i64 n, sv s, S] := ((((h.set_ 0 _).set_ 1 _).set_ 2 _).set_ 3 _)
theorem setR_chg (w : World) (b : Nat) (k n : Int) (s : List UInt8) (S : Value) : Chg w (setR w b k n s S) b (b + 1) :=
  chg_trans (chg_trans (chg_trans (chg_set (Nat.le_refl b) (Nat.lt_succ_self b) _) (chg_set (Nat.le_refl b) (Nat.lt_succ_self b) _)) (chg_set (Nat.le_refl b) (Nat.lt_succ_self b) _)) (chg_set (Nat.le_refl b) (Nat.lt_succ_self b) _)
theorem setR_gb {a w : World} {row : Option Nat} (h : a.grownBy w row) {b : Nat} (hb : a.heap.size ≤ b) (k n : Int) (s : List UInt8) (S : Value) : a.grownBy (setR w b k n s S) row := gb_new (gb_new (gb_new (gb_new h hb 0 _) hb 1 _) hb 2 _) hb 3 _
theorem setR_cur {w : World} {g c b : Nat} {A : Option Addr} {xs : List UInt8} (h : CurAt w g A c xs) (hb : g < b) (k n : Int) (s : List UInt8) (S : Value) : CurAt (setR w b k n s S) g A c xs := cur_set (cur_set (cur_set (cur_set h hb 0 _) hb 1 _) hb 2 _) hb 3 _
/-- the names that a draw picks from -/
def VarsAt (w : World) (g : Nat) (VA : Option Addr) (V : List (List UInt8)) : Prop := V = [] ∨ ∃ vb cs, VA = some ⟨vb, 0, none⟩ ∧ Blk w vb 9 cs ∧ cs.take V.length = V.map sv ∧ vb ≠ g
theorem VarsAt.chg {w w' : World} {g : Nat} {VA : Option Addr} {V : List (List UInt8)} {lo hi : Nat} (h : VarsAt w g VA V) (hc : Chg w w' lo hi) (hn : ∀ vb cs, VA = some ⟨vb, 0, none⟩ → Blk w vb 9 cs → vb < lo ∨ hi ≤ vb) : VarsAt w' g VA V := by
  rcases h with h | ⟨vb, cs, e1, e2, e3, e4⟩
  · exact Or.inl h
  · exact Or.inr ⟨vb, cs, e1, blk_chg e2 hc (hn vb cs e1 e2), e3, e4⟩
theorem VarsAt.drew {w w' : World} {g : Nat} {VA : Option Addr} {V : List (List UInt8)} (h : VarsAt w g VA V) (hg : w.grownBy w' (some g)) : VarsAt w' g VA V := by
  rcases h with h | ⟨vb, cs, e1, e2, e3, e4⟩
  · exact Or.inl h
  · exact Or.inr ⟨vb, cs, e1, e2.gb hg e4, e3, e4⟩
theorem VarsAt.below {w w' : World} {g : Nat} {VA : Option Addr} {V : List (List UInt8)} (h : VarsAt w g VA V) (hb : Below w.heap.size w w') : VarsAt w' g VA V := by
  rcases h with h | ⟨vb, cs, e1, e2, e3, e4⟩
  · exact Or.inl h
  · exact Or.inr ⟨vb, cs, e1, e2.below hb e2.lt, e3, e4⟩
theorem VarsAt.rd {w : World} {g : Nat} {VA : Option Addr} {V : List (List UInt8)} (h : VarsAt w g VA V) : Rd w w.heap.size VA (V.map sv) ∧ (0 < V.length → ∀ ad, VA = some ad → ad.block ≠ g) := by
  rcases h with rfl | ⟨vb, cs, rfl, e2, e3, e4⟩
  · exact ⟨Rd.nil_, fun h => by simp at h⟩
  · refine ⟨fun _ => ⟨_, rfl, e2.lt, fun j u hj => ?_⟩, fun _ ad e => by cases e; exact e4⟩
    rw [Os.add_zero, e2.cell]
    rw [← e3, List.getElem?_take] at hj
    split at hj
    · exact hj
    · cases hj

/-- what l4Make promises down to depth n -/
def MakeP (g : Nat) (A : Option Addr) (c : Nat) (xs : List UInt8) (n : Nat) : Prop := ∀ (d : Int) (VA : Option Addr) (vc : Nat) (V : List (List UInt8)) (w : World), -1000 ≤ d → d ≤ n → CurAt w g A c xs → VarsAt w g VA V → V.length ≤ 1048576 → (∀ s ∈ V, s.length ≤ 9) →
  Calls Tryz.prog 77 #[.pointer (some ⟨g, 0, none⟩), .slice VA V.length vc, .int .i64 d] w fun e w' => ∃ v t, e = .returned v ∧ Made w' w.heap.size v t ∧ cntT t + 1 ≤ 2 ^ n ∧ Drew w g A c xs w'
/-- the end of each way through l4Make: the node goes into the result's block -/
theorem make_fin {g c : Nat} {A : Option Addr} {xs : List UInt8} {w W : World} {lo : Nat} {k n : Int} {s : List UInt8} {KA : Option Addr} {l kc : Nat} {t : T} {x0 x1 x2 x3 : Value} (hgw : g < w.heap.size) (hD : Drew w g A c xs W) (hB : Blk W w.heap.size 48 [x0, x1, x2, x3])
    (hm : Made W lo (nv k n s KA l kc) t) (hlo : w.heap.size + 1 ≤ lo) :
    Blk (setR W w.heap.size k n s (.slice KA l kc)) w.heap.size 48 [.int .i64 k, .int .i64 n, sv s, .slice KA l kc] ∧ Made (setR W w.heap.size k n s (.slice KA l kc)) w.heap.size (nv k n s KA l kc) t ∧ Drew w g A c xs (setR W w.heap.size k n s (.slice KA l kc)) :=
  ⟨setR_blk hB k n s _, (hm.chg (setR_chg W w.heap.size k n s (.slice KA l kc)) hlo).mono (by omega), setR_cur hD.1 hgw k n s _, setR_gb hD.2 (Nat.le_refl _) k n s _⟩
theorem drew_tr {w w1 w2 : World} {g c : Nat} {A : Option Addr} {xs : List UInt8} (h : Drew w g A c xs w1) (k : Drew w1 g A c xs w2) : Drew w g A c xs w2 := ⟨k.1, gb_trans h.2 k.2⟩
theorem drew_be {w w1 w2 : World} {g c : Nat} {A : Option Addr} {xs : List UInt8} (h : Drew w g A c xs w1) (hb : Below w1.heap.size w1 w2) : Drew w g A c xs w2 := ⟨cur_below h.1 (hb.mono (cur_lt h.1)), gb_below h.2 hb⟩
theorem le_pow {m n : Nat} (h : m ≤ 2) (hn : 1 ≤ n) : m ≤ 2 ^ n := Nat.le_trans h (Nat.le_trans (by omega) (Nat.pow_le_pow_right (by omega) hn))
set_option maxHeartbeats 4000000 in
theorem make_leaf0 (g : Nat) (A : Option Addr) (c : Nat) (xs : List UInt8) (VA : Option Addr) (vc : Nat) (V : List (List UInt8)) (d : Int) (n : Nat) (hn : 1 ≤ n) (w : World) (hd : d < 2) (hc : CurAt w g A c xs) (hV : VarsAt w g VA V) (h0 : V.length = 0) :
    Calls Tryz.prog 77 #[.pointer (some ⟨g, 0, none⟩), .slice VA V.length vc, .int .i64 d] w fun e w' => ∃ v t, e = .returned v ∧ Made w' w.heap.size v t ∧ cntT t + 1 ≤ 2 ^ n ∧ Drew w g A c xs w' := by
  obtain rfl := List.eq_nil_of_length_eq_zero h0
  clear h0
  have t1 : decide (d < 2) = true := decide_eq_true hd
  have hgw := cur_lt hc
  have hc1 := cur_alloc hc (.cells #[.int .i64 0, .int .i64 0, .string ⟨#[]⟩, .slice none 0 0] 48)
  have hD1 : Drew w g A c xs (w.alloc (.cells #[.int .i64 0, .int .i64 0, .string ⟨#[]⟩, .slice none 0 0] 48)) := ⟨hc1, World.grownBy_alloc w _ _⟩
  have B1 := hid (Blk.new w 48 [.int .i64 0, .int .i64 0, .string ⟨#[]⟩, .slice none 0 0])
  have V1 := hid (hV.below (box_below w (.cells #[.int .i64 0, .int .i64 0, .string ⟨#[]⟩, .slice none 0 0] 48)))
  have D1 := hid hD1
  clear hc hV hc1 hD1
  go_enter Tryz.func77, Tryz.ntmps77
  go_wp2_with fail
  generalize (w.alloc (.cells #[.int .i64 0, .int .i64 0, .string ⟨#[]⟩, .slice none 0 0] 48)) = w1 at *
  refine (below_any g A c xs 4 _ D1.out.1 (by omega) (by omega)).mono ?_
  rintro e w2 ⟨⟨q, rfl, hq, hq2⟩, hd⟩
  have D2 := hid (drew_tr D1.out hd)
  have B2 := hid (B1.out.gb hd.2 (by omega))
  clear hd hq
  go_wp2_with fail
  refine (const4 q _).mono ?_
  rintro e w3 ⟨rfl, hb⟩
  have D3 := hid (drew_be D2.out hb)
  have B3 := hid (B2.out.below hb B2.out.lt)
  have f := make_fin hgw D3.out B3.out (made_leaf w3 (w.heap.size + 1) 1 q [] (by simp)) (Nat.le_refl _)
  have f1 := hid f.1
  have f2 := hid f.2.1
  have f3 := hid f.2.2
  clear hb f
  obtain ⟨x0, x1, x2, x3⟩ := four B3.out
  have y0 := B3.out.frozen 0
  have y1 := B3.out.frozen 1
  have y2 := B3.out.frozen 2
  have y3 := B3.out.frozen 3
  go_wp2_with fail
  exact bodyPost_ret (results_cell_row Tryz.results77 _ _ w.heap.size 48 _ (0, 0) _ rfl f1.out Tryz.underlying48 rfl (by kernel_rfl)) rfl ⟨_, _, rfl, f2.out, le_pow (by simp [cntT_mk, cntK]) hn, f3.out⟩
set_option maxHeartbeats 4000000 in
theorem make_leaf1 (g : Nat) (A : Option Addr) (c : Nat) (xs : List UInt8) (VA : Option Addr) (vc : Nat) (V : List (List UInt8)) (d : Int) (n : Nat) (hn : 1 ≤ n) (w : World) (hd : d < 2) (hc : CurAt w g A c xs) (hV : VarsAt w g VA V) (hpos : 0 < V.length) (hl : V.length ≤ 1048576) (hs : ∀ s ∈ V, s.length ≤ 9) :
    Calls Tryz.prog 77 #[.pointer (some ⟨g, 0, none⟩), .slice VA V.length vc, .int .i64 d] w fun e w' => ∃ v t, e = .returned v ∧ Made w' w.heap.size v t ∧ cntT t + 1 ≤ 2 ^ n ∧ Drew w g A c xs w' := by
  have t1 : decide (d < 2) = true := decide_eq_true hd
  have t2 : decide (0 < (V.length : Int)) = true := decide_eq_true (by omega)
  have hgw := cur_lt hc
  have hc1 := cur_alloc hc (.cells #[.int .i64 0, .int .i64 0, .string ⟨#[]⟩, .slice none 0 0] 48)
  have hD1 : Drew w g A c xs (w.alloc (.cells #[.int .i64 0, .int .i64 0, .string ⟨#[]⟩, .slice none 0 0] 48)) := ⟨hc1, World.grownBy_alloc w _ _⟩
  have B1 := hid (Blk.new w 48 [.int .i64 0, .int .i64 0, .string ⟨#[]⟩, .slice none 0 0])
  have V1 := hid (hV.below (box_below w (.cells #[.int .i64 0, .int .i64 0, .string ⟨#[]⟩, .slice none 0 0] 48)))
  have D1 := hid hD1
  clear hc hV hc1 hD1
  go_enter Tryz.func77, Tryz.ntmps77
  go_wp2_with fail
  generalize (w.alloc (.cells #[.int .i64 0, .int .i64 0, .string ⟨#[]⟩, .slice none 0 0] 48)) = w1 at *
  refine (once_any g A c xs 3 _ D1.out.1 (by omega) (by omega)).mono ?_
  rintro e w2 ⟨⟨b1, rfl⟩, hd⟩
  have D2 := hid (drew_tr D1.out hd)
  have B2 := hid (B1.out.gb hd.2 (by omega))
  have V2 := hid (V1.out.drew hd.2)
  clear hd
  cases b1
  · go_wp2_with fail
    refine (pick_any g A c xs VA vc V _ D2.out.1 V2.out.rd.1 (V2.out.rd.2 hpos) hpos hl).mono ?_
    rintro e w3 ⟨⟨s, hsm, rfl⟩, hd⟩
    have D3 := hid (drew_tr D2.out hd)
    have B3 := hid (B2.out.gb hd.2 (by omega))
    have hs9 := hs s hsm
    clear hd hsm
    go_wp2_with fail
    refine (var4 s _).mono ?_
    rintro e w4 ⟨rfl, hb⟩
    have D4 := hid (drew_be D3.out hb)
    have B4 := hid (B3.out.below hb B3.out.lt)
    have f := make_fin hgw D4.out B4.out (made_leaf w4 (w.heap.size + 1) 2 0 s (by omega)) (Nat.le_refl _)
    have f1 := hid f.1
    have f2 := hid f.2.1
    have f3 := hid f.2.2
    clear hb f
    obtain ⟨x0, x1, x2, x3⟩ := four B4.out
    have y0 := B4.out.frozen 0
    have y1 := B4.out.frozen 1
    have y2 := B4.out.frozen 2
    have y3 := B4.out.frozen 3
    go_wp2_with fail
    exact bodyPost_ret (results_cell_row Tryz.results77 _ _ w.heap.size 48 _ (0, 0) _ rfl f1.out Tryz.underlying48 rfl (by kernel_rfl)) rfl ⟨_, _, rfl, f2.out, le_pow (by simp [cntT_mk, cntK]) hn, f3.out⟩
  · go_wp2_with fail
    refine (below_any g A c xs 4 _ D2.out.1 (by omega) (by omega)).mono ?_
    rintro e w3 ⟨⟨q, rfl, hq, hq2⟩, hd⟩
    have D3 := hid (drew_tr D2.out hd)
    have B3 := hid (B2.out.gb hd.2 (by omega))
    clear hd hq
    go_wp2_with fail
    refine (const4 q _).mono ?_
    rintro e w4 ⟨rfl, hb⟩
    have D4 := hid (drew_be D3.out hb)
    have B4 := hid (B3.out.below hb B3.out.lt)
    have f := make_fin hgw D4.out B4.out (made_leaf w4 (w.heap.size + 1) 1 q [] (by simp)) (Nat.le_refl _)
    have f1 := hid f.1
    have f2 := hid f.2.1
    have f3 := hid f.2.2
    clear hb f
    obtain ⟨x0, x1, x2, x3⟩ := four B4.out
    have y0 := B4.out.frozen 0
    have y1 := B4.out.frozen 1
    have y2 := B4.out.frozen 2
    have y3 := B4.out.frozen 3
    go_wp2_with fail
    exact bodyPost_ret (results_cell_row Tryz.results77 _ _ w.heap.size 48 _ (0, 0) _ rfl f1.out Tryz.underlying48 rfl (by kernel_rfl)) rfl ⟨_, _, rfl, f2.out, le_pow (by simp [cntT_mk, cntK]) hn, f3.out⟩
end Go.Proofs.YtklcbagddijkgaaGreat.Dr

/- Chapter 4's draws: expressions of some depth. -/
set_option maxRecDepth 100000
namespace Go.Proofs.YtklcbagddijkgaaGreat.Dr
open Go.RowKit Go.Lib Go.Proofs.YtklcbagddijkgaaGreat.Com Go.Proofs.YtklcbagddijkgaaGreat.Mem Go.Proofs.YtklcbagddijkgaaGreat.Cur Go.Proofs.YtklcbagddijkgaaGreat.Os Go.Proofs.YtklcbagddijkgaaGreat.Tr
theorem form_made {w : World} {lo : Nat} {v : Value} {t : T} (h : Made w lo v t) : ∃ k n s A l c, v = nv k n s A l c := h.1.form
theorem pow_one {a n : Nat} (h : a + 1 ≤ 2 ^ n) : 1 + a + 1 ≤ 2 ^ (n + 1) := by
  have h1 : 1 ≤ 2 ^ n := Nat.one_le_two_pow
  rw [Nat.pow_succ]; omega
theorem pow_two {a b n : Nat} (h : a + 1 ≤ 2 ^ n) (h' : b + 1 ≤ 2 ^ n) : 1 + (a + b) + 1 ≤ 2 ^ (n + 1) := by
  rw [Nat.pow_succ]; omega
def ops10 : List Int := [1, 1, 2, 2, 3, 5, 6, 7, 8, 4]
set_option maxHeartbeats 1000000 in
theorem make_node0 (g : Nat) (A : Option Addr) (c : Nat) (xs : List UInt8) (n : Nat) (hn1 : n ≤ 1000) (ih : MakeP g A c xs n) (VA : Option Addr) (vc : Nat) (V : List (List UInt8)) (d : Int) (w : World) (hd2 : 2 ≤ d) (hdn : d ≤ ((n + 1 : Nat) : Int)) (hc : CurAt w g A c xs) (hV : VarsAt w g VA V) (hl : V.length ≤ 1048576) (hs : ∀ s ∈ V, s.length ≤ 9) (h0 : V.length = 0) :
    Calls Tryz.prog 77 #[.pointer (some ⟨g, 0, none⟩), .slice VA V.length vc, .int .i64 d] w fun e w' => ∃ v t, e = .returned v ∧ Made w' w.heap.size v t ∧ cntT t + 1 ≤ 2 ^ (n + 1) ∧ Drew w g A c xs w' := by
  obtain rfl := List.eq_nil_of_length_eq_zero h0
  clear h0
  have t1 : decide (d < 2) = false := decide_eq_false (by omega)
  have hn : 1 ≤ n + 1 := by omega
  have hgw := cur_lt hc
  have hc1 := cur_alloc hc (.cells #[.int .i64 0, .int .i64 0, .string ⟨#[]⟩, .slice none 0 0] 48)
  have hD1 : Drew w g A c xs (w.alloc (.cells #[.int .i64 0, .int .i64 0, .string ⟨#[]⟩, .slice none 0 0] 48)) := ⟨hc1, World.grownBy_alloc w _ _⟩
  have B1 := hid (Blk.new w 48 [.int .i64 0, .int .i64 0, .string ⟨#[]⟩, .slice none 0 0])
  have V1 := hid (hV.below (box_below w (.cells #[.int .i64 0, .int .i64 0, .string ⟨#[]⟩, .slice none 0 0] 48)))
  have D1 := hid hD1
  clear hc hV hc1 hD1
  have z1 := D1.out.2.size
  have zz := hid (size_alloc' w (.cells #[.int .i64 0, .int .i64 0, .string ⟨#[]⟩, .slice none 0 0] 48))
  go_enter Tryz.func77, Tryz.ntmps77
  go_wp2_with fail
  generalize (w.alloc (.cells #[.int .i64 0, .int .i64 0, .string ⟨#[]⟩, .slice none 0 0] 48)) = w1 at *
  refine (once_any g A c xs 4 _ D1.out.1 (by omega) (by omega)).mono ?_
  rintro e w2 ⟨⟨b1, rfl⟩, hd⟩
  have u2 := hd.2.size
  have D2 := hid (drew_tr D1.out hd)
  have B2 := hid (B1.out.gb hd.2 (by omega))
  have V2 := hid (V1.out.drew hd.2)
  clear hd
  cases b1
  · go_wp2_with fail
    refine (once_any g A c xs 8 _ D2.out.1 (by omega) (by omega)).mono ?_
    rintro e w3 ⟨⟨b2, rfl⟩, hd⟩
    have u3 := hd.2.size
    have D3 := hid (drew_tr D2.out hd)
    have B3 := hid (B2.out.gb hd.2 (by omega))
    have V3 := hid (V2.out.drew hd.2)
    clear hd
    have z2 := D3.out.2.size
    cases b2
    · go_wp2_with fail
      refine (pickInt_lit g A c xs ops10 w3 D3.out.1 (by decide) (by decide)).mono ?_
      rintro e w5 ⟨⟨op, _, rfl⟩, hd⟩
      have D5 := hid (drew_tr D3.out hd)
      have B5 := hid (B3.out.gb hd.2 (by omega))
      have V5 := hid (V3.out.drew hd.2)
      have z5 := hd.2.size
      clear hd
      go_wp2_with fail
      refine (ih (d - 1) VA vc [] w5 (by omega) (by omega) D5.out.1 V5.out hl hs).mono ?_
      rintro e w6 ⟨v5, t5, rfl, hm, hcnt5, hd⟩
      obtain ⟨k5, n5, s5, A5, l5, c5, rfl⟩ := form_made hm
      have D6 := hid (drew_tr D5.out hd)
      have B6 := hid (B5.out.gb hd.2 (by omega))
      have V6 := hid (V5.out.drew hd.2)
      have z6 := hd.2.size
      have m5 := hid hm.1
      have hg5 := hid hd.2
      clear hd hm
      go_wp2_with fail
      refine (ih (d - 1) VA vc [] w6 (by omega) (by omega) D6.out.1 V6.out hl hs).mono ?_
      rintro e w7 ⟨v6, t6, rfl, hm, hcnt6, hd⟩
      obtain ⟨k6, n6, s6, A6, l6, c6, rfl⟩ := form_made hm
      have D7 := hid (drew_tr D6.out hd)
      have B7 := hid (B6.out.gb hd.2 (by omega))
      have V7 := hid (V6.out.drew hd.2)
      have z7 := hd.2.size
      have m6 := hid hm.1
      have hg6 := hid hd.2
      clear hd hm
      go_wp2_with fail
      refine (op4 op k5 n5 k6 n6 s5 s6 A5 A6 l5 c5 l6 c6 w7).mono ?_
      rintro e w8 ⟨rfl, hrow, hb⟩
      have D8 := hid (drew_be D7.out hb)
      have B8 := hid (B7.out.below hb B7.out.lt)
      have hm8 := made_two (lo := w5.heap.size) (mid := w6.heap.size) (mid' := w7.heap.size) 3 op ((m5.out.chg (chg_of_gbs hg6.out) (Or.inr (by omega))).chg (chg_of_below hb 0 0) (Or.inr (Nat.zero_le _))) (m6.out.chg (chg_of_below hb 0 0) (Or.inr (Nat.zero_le _))) hrow (by have := zz.out; omega) (by omega) (by omega)
      have f := make_fin hgw D8.out B8.out hm8 (by have := zz.out; omega)
      have f1 := hid f.1
      have f2 := hid f.2.1
      have f3 := hid f.2.2
      have hcc := hid (show cntT (.mk 3 op [] [t5, t6]) + 1 ≤ 2 ^ (n + 1) by rw [cntT_mk]; simp only [cntK, List.map_cons, List.map_nil, List.sum_cons, List.sum_nil, Nat.add_zero]; exact pow_two hcnt5 hcnt6)
      clear f hb hrow hm8
      obtain ⟨x0, x1, x2, x3⟩ := four B8.out
      have y0 := B8.out.frozen 0
      have y1 := B8.out.frozen 1
      have y2 := B8.out.frozen 2
      have y3 := B8.out.frozen 3
      go_wp2_with fail
      exact bodyPost_ret (results_cell_row Tryz.results77 _ _ w.heap.size 48 _ (0, 0) _ rfl f1.out Tryz.underlying48 rfl (by kernel_rfl)) rfl ⟨_, _, rfl, f2.out, hcc.out, f3.out⟩
    · go_wp2_with fail
      refine (ih (d - 1) VA vc [] w3 (by omega) (by omega) D3.out.1 V3.out hl hs).mono ?_
      rintro e w5 ⟨v4, t4, rfl, hm, hcnt4, hd⟩
      obtain ⟨k4, n4, s4, A4, l4, c4, rfl⟩ := form_made hm
      have D5 := hid (drew_tr D3.out hd)
      have B5 := hid (B3.out.gb hd.2 (by omega))
      have V5 := hid (V3.out.drew hd.2)
      have z5 := hd.2.size
      have m4 := hid hm.1
      have hg4 := hid hd.2
      clear hd hm
      have hb := box_below w5 (.cells #[.int .i64 k4, .int .i64 n4, sv s4, .slice A4 l4 c4] 48)
      have hrow := box_blk w5 k4 n4 s4 A4 l4 c4 48
      have D6 := hid (drew_be D5.out hb)
      have B6 := hid (B5.out.below hb B5.out.lt)
      have hm6 := made_one (lo := w3.heap.size) 4 0 (m4.out.chg (chg_of_below hb 0 0) (Or.inr (Nat.zero_le _))) hrow (by have := zz.out; omega)
      have f := make_fin hgw D6.out B6.out hm6 (by have := zz.out; omega)
      have f1 := hid f.1
      have f2 := hid f.2.1
      have f3 := hid f.2.2
      have hcc := hid (show cntT (.mk 4 0 [] [t4]) + 1 ≤ 2 ^ (n + 1) by rw [cntT_mk]; simp only [cntK, List.map_cons, List.map_nil, List.sum_cons, List.sum_nil, Nat.add_zero]; exact pow_one hcnt4)
      clear f hb hrow hm6
      obtain ⟨x0, x1, x2, x3⟩ := four B6.out
      have y0 := B6.out.frozen 0
      have y1 := B6.out.frozen 1
      have y2 := B6.out.frozen 2
      have y3 := B6.out.frozen 3
      go_wp2_with fail
      exact bodyPost_ret (results_cell_row Tryz.results77 _ _ w.heap.size 48 _ (0, 0) _ rfl f1.out Tryz.underlying48 rfl (by kernel_rfl)) rfl ⟨_, _, rfl, f2.out, hcc.out, f3.out⟩
  · go_wp2_with fail
    refine (below_any g A c xs 4 _ D2.out.1 (by omega) (by omega)).mono ?_
    rintro e w3 ⟨⟨q, rfl, hq, hq2⟩, hd⟩
    have D3 := hid (drew_tr D2.out hd)
    have B3 := hid (B2.out.gb hd.2 (by omega))
    clear hd hq
    go_wp2_with fail
    refine (const4 q _).mono ?_
    rintro e w4 ⟨rfl, hb⟩
    have D4 := hid (drew_be D3.out hb)
    have B4 := hid (B3.out.below hb B3.out.lt)
    have f := make_fin hgw D4.out B4.out (made_leaf w4 (w.heap.size + 1) 1 q [] (by simp)) (Nat.le_refl _)
    have f1 := hid f.1
    have f2 := hid f.2.1
    have f3 := hid f.2.2
    clear hb f
    obtain ⟨x0, x1, x2, x3⟩ := four B4.out
    have y0 := B4.out.frozen 0
    have y1 := B4.out.frozen 1
    have y2 := B4.out.frozen 2
    have y3 := B4.out.frozen 3
    go_wp2_with fail
    exact bodyPost_ret (results_cell_row Tryz.results77 _ _ w.heap.size 48 _ (0, 0) _ rfl f1.out Tryz.underlying48 rfl (by kernel_rfl)) rfl ⟨_, _, rfl, f2.out, le_pow (by simp [cntT_mk, cntK]) hn, f3.out⟩
set_option maxHeartbeats 1000000 in
theorem make_node1 (g : Nat) (A : Option Addr) (c : Nat) (xs : List UInt8) (n : Nat) (hn1 : n ≤ 1000) (ih : MakeP g A c xs n) (VA : Option Addr) (vc : Nat) (V : List (List UInt8)) (d : Int) (w : World) (hd2 : 2 ≤ d) (hdn : d ≤ ((n + 1 : Nat) : Int)) (hc : CurAt w g A c xs) (hV : VarsAt w g VA V) (hl : V.length ≤ 1048576) (hs : ∀ s ∈ V, s.length ≤ 9) (hpos : 0 < V.length) :
    Calls Tryz.prog 77 #[.pointer (some ⟨g, 0, none⟩), .slice VA V.length vc, .int .i64 d] w fun e w' => ∃ v t, e = .returned v ∧ Made w' w.heap.size v t ∧ cntT t + 1 ≤ 2 ^ (n + 1) ∧ Drew w g A c xs w' := by
  have t1 : decide (d < 2) = false := decide_eq_false (by omega)
  have hn : 1 ≤ n + 1 := by omega
  have t2 : decide (0 < (V.length : Int)) = true := decide_eq_true (by omega)
  have hgw := cur_lt hc
  have hc1 := cur_alloc hc (.cells #[.int .i64 0, .int .i64 0, .string ⟨#[]⟩, .slice none 0 0] 48)
  have hD1 : Drew w g A c xs (w.alloc (.cells #[.int .i64 0, .int .i64 0, .string ⟨#[]⟩, .slice none 0 0] 48)) := ⟨hc1, World.grownBy_alloc w _ _⟩
  have B1 := hid (Blk.new w 48 [.int .i64 0, .int .i64 0, .string ⟨#[]⟩, .slice none 0 0])
  have V1 := hid (hV.below (box_below w (.cells #[.int .i64 0, .int .i64 0, .string ⟨#[]⟩, .slice none 0 0] 48)))
  have D1 := hid hD1
  clear hc hV hc1 hD1
  have z1 := D1.out.2.size
  have zz := hid (size_alloc' w (.cells #[.int .i64 0, .int .i64 0, .string ⟨#[]⟩, .slice none 0 0] 48))
  go_enter Tryz.func77, Tryz.ntmps77
  go_wp2_with fail
  generalize (w.alloc (.cells #[.int .i64 0, .int .i64 0, .string ⟨#[]⟩, .slice none 0 0] 48)) = w1 at *
  refine (once_any g A c xs 4 _ D1.out.1 (by omega) (by omega)).mono ?_
  rintro e w2 ⟨⟨b1, rfl⟩, hd⟩
  have u2 := hd.2.size
  have D2 := hid (drew_tr D1.out hd)
  have B2 := hid (B1.out.gb hd.2 (by omega))
  have V2 := hid (V1.out.drew hd.2)
  clear hd
  cases b1
  · go_wp2_with fail
    refine (once_any g A c xs 8 _ D2.out.1 (by omega) (by omega)).mono ?_
    rintro e w3 ⟨⟨b2, rfl⟩, hd⟩
    have u3 := hd.2.size
    have D3 := hid (drew_tr D2.out hd)
    have B3 := hid (B2.out.gb hd.2 (by omega))
    have V3 := hid (V2.out.drew hd.2)
    clear hd
    have z2 := D3.out.2.size
    cases b2
    · go_wp2_with fail
      refine (pickInt_lit g A c xs ops10 w3 D3.out.1 (by decide) (by decide)).mono ?_
      rintro e w5 ⟨⟨op, _, rfl⟩, hd⟩
      have D5 := hid (drew_tr D3.out hd)
      have B5 := hid (B3.out.gb hd.2 (by omega))
      have V5 := hid (V3.out.drew hd.2)
      have z5 := hd.2.size
      clear hd
      go_wp2_with fail
      refine (ih (d - 1) VA vc V w5 (by omega) (by omega) D5.out.1 V5.out hl hs).mono ?_
      rintro e w6 ⟨v5, t5, rfl, hm, hcnt5, hd⟩
      obtain ⟨k5, n5, s5, A5, l5, c5, rfl⟩ := form_made hm
      have D6 := hid (drew_tr D5.out hd)
      have B6 := hid (B5.out.gb hd.2 (by omega))
      have V6 := hid (V5.out.drew hd.2)
      have z6 := hd.2.size
      have m5 := hid hm.1
      have hg5 := hid hd.2
      clear hd hm
      go_wp2_with fail
      refine (ih (d - 1) VA vc V w6 (by omega) (by omega) D6.out.1 V6.out hl hs).mono ?_
      rintro e w7 ⟨v6, t6, rfl, hm, hcnt6, hd⟩
      obtain ⟨k6, n6, s6, A6, l6, c6, rfl⟩ := form_made hm
      have D7 := hid (drew_tr D6.out hd)
      have B7 := hid (B6.out.gb hd.2 (by omega))
      have V7 := hid (V6.out.drew hd.2)
      have z7 := hd.2.size
      have m6 := hid hm.1
      have hg6 := hid hd.2
      clear hd hm
      go_wp2_with fail
      refine (op4 op k5 n5 k6 n6 s5 s6 A5 A6 l5 c5 l6 c6 w7).mono ?_
      rintro e w8 ⟨rfl, hrow, hb⟩
      have D8 := hid (drew_be D7.out hb)
      have B8 := hid (B7.out.below hb B7.out.lt)
      have hm8 := made_two (lo := w5.heap.size) (mid := w6.heap.size) (mid' := w7.heap.size) 3 op ((m5.out.chg (chg_of_gbs hg6.out) (Or.inr (by omega))).chg (chg_of_below hb 0 0) (Or.inr (Nat.zero_le _))) (m6.out.chg (chg_of_below hb 0 0) (Or.inr (Nat.zero_le _))) hrow (by have := zz.out; omega) (by omega) (by omega)
      have f := make_fin hgw D8.out B8.out hm8 (by have := zz.out; omega)
      have f1 := hid f.1
      have f2 := hid f.2.1
      have f3 := hid f.2.2
      have hcc := hid (show cntT (.mk 3 op [] [t5, t6]) + 1 ≤ 2 ^ (n + 1) by rw [cntT_mk]; simp only [cntK, List.map_cons, List.map_nil, List.sum_cons, List.sum_nil, Nat.add_zero]; exact pow_two hcnt5 hcnt6)
      clear f hb hrow hm8
      obtain ⟨x0, x1, x2, x3⟩ := four B8.out
      have y0 := B8.out.frozen 0
      have y1 := B8.out.frozen 1
      have y2 := B8.out.frozen 2
      have y3 := B8.out.frozen 3
      go_wp2_with fail
      exact bodyPost_ret (results_cell_row Tryz.results77 _ _ w.heap.size 48 _ (0, 0) _ rfl f1.out Tryz.underlying48 rfl (by kernel_rfl)) rfl ⟨_, _, rfl, f2.out, hcc.out, f3.out⟩
    · go_wp2_with fail
      refine (ih (d - 1) VA vc V w3 (by omega) (by omega) D3.out.1 V3.out hl hs).mono ?_
      rintro e w5 ⟨v4, t4, rfl, hm, hcnt4, hd⟩
      obtain ⟨k4, n4, s4, A4, l4, c4, rfl⟩ := form_made hm
      have D5 := hid (drew_tr D3.out hd)
      have B5 := hid (B3.out.gb hd.2 (by omega))
      have V5 := hid (V3.out.drew hd.2)
      have z5 := hd.2.size
      have m4 := hid hm.1
      have hg4 := hid hd.2
      clear hd hm
      have hb := box_below w5 (.cells #[.int .i64 k4, .int .i64 n4, sv s4, .slice A4 l4 c4] 48)
      have hrow := box_blk w5 k4 n4 s4 A4 l4 c4 48
      have D6 := hid (drew_be D5.out hb)
      have B6 := hid (B5.out.below hb B5.out.lt)
      have hm6 := made_one (lo := w3.heap.size) 4 0 (m4.out.chg (chg_of_below hb 0 0) (Or.inr (Nat.zero_le _))) hrow (by have := zz.out; omega)
      have f := make_fin hgw D6.out B6.out hm6 (by have := zz.out; omega)
      have f1 := hid f.1
      have f2 := hid f.2.1
      have f3 := hid f.2.2
      have hcc := hid (show cntT (.mk 4 0 [] [t4]) + 1 ≤ 2 ^ (n + 1) by rw [cntT_mk]; simp only [cntK, List.map_cons, List.map_nil, List.sum_cons, List.sum_nil, Nat.add_zero]; exact pow_one hcnt4)
      clear f hb hrow hm6
      obtain ⟨x0, x1, x2, x3⟩ := four B6.out
      have y0 := B6.out.frozen 0
      have y1 := B6.out.frozen 1
      have y2 := B6.out.frozen 2
      have y3 := B6.out.frozen 3
      go_wp2_with fail
      exact bodyPost_ret (results_cell_row Tryz.results77 _ _ w.heap.size 48 _ (0, 0) _ rfl f1.out Tryz.underlying48 rfl (by kernel_rfl)) rfl ⟨_, _, rfl, f2.out, hcc.out, f3.out⟩
  · go_wp2_with fail
    refine (once_any g A c xs 3 _ D2.out.1 (by omega) (by omega)).mono ?_
    rintro e w3 ⟨⟨b2, rfl⟩, hd⟩
    have u3 := hd.2.size
    have D3 := hid (drew_tr D2.out hd)
    have B3 := hid (B2.out.gb hd.2 (by omega))
    have V3 := hid (V2.out.drew hd.2)
    clear hd
    cases b2
    · go_wp2_with fail
      refine (pick_any g A c xs VA vc V _ D3.out.1 V3.out.rd.1 (V3.out.rd.2 hpos) hpos hl).mono ?_
      rintro e w4 ⟨⟨s, hsm, rfl⟩, hd⟩
      have D4 := hid (drew_tr D3.out hd)
      have B4 := hid (B3.out.gb hd.2 (by omega))
      have hs9 := hs s hsm
      clear hd hsm
      go_wp2_with fail
      refine (var4 s _).mono ?_
      rintro e w5 ⟨rfl, hb⟩
      have D5 := hid (drew_be D4.out hb)
      have B5 := hid (B4.out.below hb B4.out.lt)
      have f := make_fin hgw D5.out B5.out (made_leaf w5 (w.heap.size + 1) 2 0 s (by omega)) (Nat.le_refl _)
      have f1 := hid f.1
      have f2 := hid f.2.1
      have f3 := hid f.2.2
      clear hb f
      obtain ⟨x0, x1, x2, x3⟩ := four B5.out
      have y0 := B5.out.frozen 0
      have y1 := B5.out.frozen 1
      have y2 := B5.out.frozen 2
      have y3 := B5.out.frozen 3
      go_wp2_with fail
      exact bodyPost_ret (results_cell_row Tryz.results77 _ _ w.heap.size 48 _ (0, 0) _ rfl f1.out Tryz.underlying48 rfl (by kernel_rfl)) rfl ⟨_, _, rfl, f2.out, le_pow (by simp [cntT_mk, cntK]) hn, f3.out⟩
    · go_wp2_with fail
      refine (below_any g A c xs 4 _ D3.out.1 (by omega) (by omega)).mono ?_
      rintro e w4 ⟨⟨q, rfl, hq, hq2⟩, hd⟩
      have D4 := hid (drew_tr D3.out hd)
      have B4 := hid (B3.out.gb hd.2 (by omega))
      clear hd hq
      go_wp2_with fail
      refine (const4 q _).mono ?_
      rintro e w5 ⟨rfl, hb⟩
      have D5 := hid (drew_be D4.out hb)
      have B5 := hid (B4.out.below hb B4.out.lt)
      have f := make_fin hgw D5.out B5.out (made_leaf w5 (w.heap.size + 1) 1 q [] (by simp)) (Nat.le_refl _)
      have f1 := hid f.1
      have f2 := hid f.2.1
      have f3 := hid f.2.2
      clear hb f
      obtain ⟨x0, x1, x2, x3⟩ := four B5.out
      have y0 := B5.out.frozen 0
      have y1 := B5.out.frozen 1
      have y2 := B5.out.frozen 2
      have y3 := B5.out.frozen 3
      go_wp2_with fail
      exact bodyPost_ret (results_cell_row Tryz.results77 _ _ w.heap.size 48 _ (0, 0) _ rfl f1.out Tryz.underlying48 rfl (by kernel_rfl)) rfl ⟨_, _, rfl, f2.out, le_pow (by simp [cntT_mk, cntK]) hn, f3.out⟩
theorem make_any (g : Nat) (A : Option Addr) (c : Nat) (xs : List UInt8) (n : Nat) (hn : n ≤ 1000) : MakeP g A c xs (n + 1) := by
  induction n with
  | zero =>
    intro d VA vc V w h1 h2 hc hV hl hs
    by_cases h0 : V.length = 0
    · exact make_leaf0 g A c xs VA vc V d (0 + 1) (by omega) w (by omega) hc hV h0
    · exact make_leaf1 g A c xs VA vc V d (0 + 1) (by omega) w (by omega) hc hV (by omega) hl hs
  | succ n ih =>
    intro d VA vc V w h1 h2 hc hV hl hs
    by_cases hd : d < 2
    · by_cases h0 : V.length = 0
      · exact make_leaf0 g A c xs VA vc V d (n + 1 + 1) (by omega) w hd hc hV h0
      · exact make_leaf1 g A c xs VA vc V d (n + 1 + 1) (by omega) w hd hc hV (by omega) hl hs
    · by_cases h0 : V.length = 0
      · exact make_node0 g A c xs (n + 1) (by omega) (ih (by omega)) VA vc V d w (by omega) h2 hc hV hl hs h0
      · exact make_node1 g A c xs (n + 1) (by omega) (ih (by omega)) VA vc V d w (by omega) h2 hc hV hl hs (by omega)
end Go.Proofs.YtklcbagddijkgaaGreat.Dr

/- Chapter 4's draws: valid expressions. -/
set_option maxRecDepth 100000
namespace Go.Proofs.YtklcbagddijkgaaGreat.Dr
open Go.RowKit Go.Lib Go.Proofs.YtklcbagddijkgaaGreat.Com Go.Proofs.YtklcbagddijkgaaGreat.Mem Go.Proofs.YtklcbagddijkgaaGreat.Cur Go.Proofs.YtklcbagddijkgaaGreat.Os Go.Proofs.YtklcbagddijkgaaGreat.Tr
set_option maxHeartbeats 2000000 in
theorem draw_any (g : Nat) (A : Option Addr) (c : Nat) (xs : List UInt8) (VA : Option Addr) (vc : Nat) (V : List (List UInt8)) (d : Int) (w : World) (h1 : -1000 ≤ d) (h2 : d ≤ 4) (hc : CurAt w g A c xs) (hV : VarsAt w g VA V) (hl : V.length ≤ 1048576) (hs : ∀ s ∈ V, s.length ≤ 9) :
    Calls Tryz.prog 60 #[.pointer (some ⟨g, 0, none⟩), .slice VA V.length vc, .int .i64 d] w fun e w' => ∃ v t, e = .returned v ∧ Made w' w.heap.size v t ∧ cntT t ≤ 15 ∧ Drew w g A c xs w' := by
  have hgw := cur_lt hc
  have hb0 := box_below w (.cells #[.int .i64 0, .int .i64 0, .string ⟨#[]⟩, .slice none 0 0] 48)
  have zz := hid (size_alloc' w (.cells #[.int .i64 0, .int .i64 0, .string ⟨#[]⟩, .slice none 0 0] 48))
  have hc1 := cur_alloc hc (.cells #[.int .i64 0, .int .i64 0, .string ⟨#[]⟩, .slice none 0 0] 48)
  have hD1 : Drew w g A c xs (w.alloc (.cells #[.int .i64 0, .int .i64 0, .string ⟨#[]⟩, .slice none 0 0] 48)) := ⟨hc1, World.grownBy_alloc w _ _⟩
  have D1 := hid hD1
  have B1 := hid (Blk.new w 48 [.int .i64 0, .int .i64 0, .string ⟨#[]⟩, .slice none 0 0])
  have hmk := hid (make_any g A c xs 3 (by omega) d VA vc V _ h1 h2 hc1 (hV.below hb0) hl hs)
  clear hc hV hc1 hD1 hb0
  go_enter Tryz.func60, Tryz.ntmps60
  go_wp2_with fail
  generalize (w.alloc (.cells #[.int .i64 0, .int .i64 0, .string ⟨#[]⟩, .slice none 0 0] 48)) = w1 at *
  refine hmk.out.mono ?_
  rintro e w2 ⟨v, t, rfl, hm, hcnt, hd⟩
  obtain ⟨k, n, s, KA, l, kc, rfl⟩ := form_made hm
  have hcnt : cntT t ≤ 15 := by omega
  have D2 := hid (drew_tr D1.out hd)
  have B2 := hid (B1.out.gb hd.2 (by omega))
  have u2 := hd.2.size
  have hb := box_below w2 (.cells #[.int .i64 k, .int .i64 n, sv s, .slice KA l kc] 48)
  have X3 := hid (box_blk w2 k n s KA l kc 48)
  have D3 := hid (drew_be D2.out hb)
  have B3 := hid (B2.out.below hb B2.out.lt)
  have M3 := hid (hm.below hb)
  clear hd hm hb hmk
  go_wp2_with fail
  generalize (w2.alloc (.cells #[.int .i64 k, .int .i64 n, sv s, .slice KA l kc] 48)) = w3 at *
  refine (svalidE t _ _ M3.out.1.ex (by omega)).mono ?_
  rintro e w4 ⟨rfl, hb⟩
  have D4 := hid (drew_be D3.out hb)
  have B4 := hid (B3.out.below hb B3.out.lt)
  have X4 := hid (X3.out.below hb X3.out.lt)
  have M4 := hid (M3.out.below hb)
  clear hb
  cases hok : okT t with
  | true =>
    have f := make_fin hgw D4.out B4.out M4.out (by have := zz.out; omega)
    have f1 := hid f.1
    have f2 := hid f.2.1
    have f3 := hid f.2.2
    clear f hok
    obtain ⟨x0, x1, x2, x3⟩ := four B4.out
    obtain ⟨y0, y1, y2, y3⟩ := four X4.out
    have r0 := B4.out.frozen 0
    have r1 := B4.out.frozen 1
    have r2 := B4.out.frozen 2
    have r3 := B4.out.frozen 3
    go_wp2_with fail
    exact bodyPost_ret (results_cell_row Tryz.results60 _ _ w.heap.size 48 _ (0, 0) _ rfl f1.out Tryz.underlying48 rfl (by kernel_rfl)) rfl ⟨_, _, rfl, f2.out, hcnt, f3.out⟩
  | false =>
    clear hok
    go_wp2_with fail
    refine (const4 1 _).mono ?_
    rintro e w5 ⟨rfl, hb⟩
    have D5 := hid (drew_be D4.out hb)
    have B5 := hid (B4.out.below hb B4.out.lt)
    have f := make_fin hgw D5.out B5.out (made_leaf w5 (w.heap.size + 1) 1 1 [] (by simp)) (Nat.le_refl _)
    have f1 := hid f.1
    have f2 := hid f.2.1
    have f3 := hid f.2.2
    have hcc := hid (show cntT (.mk 1 1 [] []) ≤ 15 by simp [cntT_mk, cntK])
    clear f hb
    obtain ⟨x0, x1, x2, x3⟩ := four B5.out
    have r0 := B5.out.frozen 0
    have r1 := B5.out.frozen 1
    have r2 := B5.out.frozen 2
    have r3 := B5.out.frozen 3
    go_wp2_with fail
    exact bodyPost_ret (results_cell_row Tryz.results60 _ _ w.heap.size 48 _ (0, 0) _ rfl f1.out Tryz.underlying48 rfl (by kernel_rfl)) rfl ⟨_, _, rfl, f2.out, hcc.out, f3.out⟩
end Go.Proofs.YtklcbagddijkgaaGreat.Dr

/- Chapter 4's draws: expressions that need not be valid. -/
set_option maxRecDepth 100000
namespace Go.Proofs.YtklcbagddijkgaaGreat.Dr
open Go.RowKit Go.Lib Go.Proofs.YtklcbagddijkgaaGreat.Com Go.Proofs.YtklcbagddijkgaaGreat.Mem Go.Proofs.YtklcbagddijkgaaGreat.Cur Go.Proofs.YtklcbagddijkgaaGreat.Os Go.Proofs.YtklcbagddijkgaaGreat.Tr

/-- the root's own fields may be others -/
theorem own_root {ty : TypeId} {w : World} {lo hi : Nat} {k n : Int} {s : List UInt8} {A : Option Addr} {l c : Nat} {ks : List T} (h : OwnE ty w lo hi (nv k n s A l c) (.mk k n s ks)) (k' n' : Int) (s' : List UInt8) (hs' : s'.length ≤ 9223372036854775807) :
    OwnE ty w lo hi (nv k' n' s' A l c) (.mk k' n' s' ks) := by
  cases h with
  | mk A c vs ls hs hsl hkl hA hin hdis hk => exact .mk A c vs ls hs hs' hkl hA hin hdis hk
theorem own_inv {ty : TypeId} {w : World} {lo hi : Nat} {k n : Int} {s : List UInt8} {A : Option Addr} {l c : Nat} {t : T} (h : OwnE ty w lo hi (nv k n s A l c) t) : ∃ ks, t = .mk k n s ks ∧ l = ks.length ∧ s.length ≤ 9223372036854775807 := by
  cases h with
  | mk A c vs ls hs hsl hkl hA hin hdis hk => exact ⟨_, rfl, rfl, hsl⟩
theorem bent_fin {g c : Nat} {A : Option Addr} {xs : List UInt8} {w W : World} {lo hi : Nat} {k n : Int} {s : List UInt8} {KA : Option Addr} {l kc : Nat} {t : T} {x0 x1 x2 x3 : Value} (hgw : g < w.heap.size) (hD : Drew w g A c xs W) (hB : Blk W w.heap.size 48 [x0, x1, x2, x3])
    (hm : OwnX lo hi W (nv k n s KA l kc) t) (hlo : w.heap.size + 1 ≤ lo) (hhi : hi ≤ W.heap.size) :
    Blk (setR W w.heap.size k n s (.slice KA l kc)) w.heap.size 48 [.int .i64 k, .int .i64 n, sv s, .slice KA l kc] ∧ OwnX w.heap.size (setR W w.heap.size k n s (.slice KA l kc)).heap.size (setR W w.heap.size k n s (.slice KA l kc)) (nv k n s KA l kc) t ∧ Drew w g A c xs (setR W w.heap.size k n s (.slice KA l kc)) :=
  ⟨setR_blk hB k n s _, (hm.chg (setR_chg W w.heap.size k n s (.slice KA l kc)) (Or.inr hlo)).mono (by omega) (Nat.le_trans hhi (setR_chg W w.heap.size k n s (.slice KA l kc)).size), setR_cur hD.1 hgw k n s _, setR_gb hD.2 (Nat.le_refl _) k n s _⟩

/-- two kids in a row of their own -/
theorem own_two {w : World} {lo mid b : Nat} {k n : Int} {s : List UInt8} {A : Option Addr} {l c : Nat} {t : T} (K N k' n' : Int) (hk : OwnE 48 w lo mid (nv k n s A l c) t) (hb : Blk w b 48 [.int .i64 k, .int .i64 n, sv s, .slice A l c, .int .i64 k', .int .i64 n', sv [], .slice none 0 0]) (h1 : lo ≤ mid) (h2 : mid ≤ b) :
    OwnE 48 w lo (b + 1) (nv K N [] (some ⟨b, 0, none⟩) 2 2) (.mk K N [] [t, .mk k' n' [] []]) := by
  have hk' := (made_leaf w mid k' n' [] (by simp)).1
  refine OwnE.mk (ks := [t, .mk k' n' [] []]) (some ⟨b, 0, none⟩) 2 (fun j => if j = 0 then nv k n s A l c else nv k' n' [] none 0 0) (fun j => if j = 0 then lo else mid) (fun j => if j = 0 then mid else mid) (by simp) (by simp) (fun _ => ⟨b, _, rfl, by omega, Nat.lt_succ_self b, hb, ?_, fun j _ => Or.inr ?_⟩) (fun j _ => ?_) (fun i j hij hj => ?_) (fun j a ha => ?_)
  · intro j hj
    have : j = 0 ∨ j = 1 := by simp at hj; omega
    rcases this with rfl | rfl
    · exact ⟨_, _, _, _, rfl, rfl, rfl, rfl, rfl⟩
    · exact ⟨_, _, _, _, rfl, rfl, rfl, rfl, rfl⟩
  · split <;> omega
  · split <;> omega
  · have hij' : i = 0 ∧ j = 1 := by simp at hj; omega
    obtain ⟨rfl, rfl⟩ := hij'
    left; simp
  · have : j = 0 ∨ j = 1 := by have := lt_of_get ha; simp at this; omega
    rcases this with rfl | rfl
    · cases ha; exact hk
    · cases ha
      exact OwnE.mk (ks := []) none 0 (fun _ => .nilFunc) (fun _ => 0) (fun _ => 0) (by simp) (by simp) (fun h => absurd rfl h) (fun j hj => by simp at hj) (fun i j _ hj => by simp at hj) (fun j a ha => by simp at ha)
/-- an expression that grows at its root, in blocks behind eb -/
inductive Chain (w : World) (lo eb : Nat) : Nat → Nat → Value → T → Prop where
  | zero {v : Value} {t : T} (h : OwnX lo eb w v t) : Chain w lo eb 0 eb v t
  | succ {m hi b : Nat} {k n : Int} {s : List UInt8} {A : Option Addr} {l c : Nat} {t : T} (h : Chain w lo eb m hi (nv k n s A l c) t) (h1 : hi ≤ b) (h2 : eb < b)
      (hB : Blk w b 48 [.int .i64 k, .int .i64 n, sv s, .slice A l c, .int .i64 1, .int .i64 1, sv [], .slice none 0 0]) : Chain w lo eb (m + 1) (b + 1) (nv 3 1 [] (some ⟨b, 0, none⟩) 2 2) (.mk 3 1 [] [t, .mk 1 1 [] []])
theorem Chain.chg {w w' : World} {lo eb m hi : Nat} {v : Value} {t : T} (h : Chain w lo eb m hi v t) (hz : eb < w.heap.size) (hb : ∀ k, k < w.heap.size → k ≠ eb → w'.heap[k]? = w.heap[k]?) : Chain w' lo eb m hi v t := by
  induction h with
  | zero h => exact .zero (h.same fun k _ h2 => hb k (by omega) (by omega))
  | succ h h1 h2 hB ih => exact .succ ih h1 h2 ((hb _ hB.lt (by omega)).trans hB)
theorem Chain.hi_le {w : World} {lo eb m hi : Nat} {v : Value} {t : T} (h : Chain w lo eb m hi v t) : eb ≤ hi := by
  induction h with
  | zero h => exact Nat.le_refl _
  | succ h h1 h2 hB ih => omega
theorem Chain.own {w : World} {lo eb m hi : Nat} {v : Value} {t : T} (h : Chain w lo eb m hi v t) (hl : lo ≤ eb) : OwnX lo hi w v t := by
  induction h with
  | zero h => exact h
  | succ h h1 h2 hB ih => exact own_two 3 1 1 1 ih hB (Nat.le_trans hl h.hi_le) h1

/-- the row of an expression's kids, as the call's own -/
theorem root_row {w : World} {lo : Nat} {k n : Int} {s : List UInt8} {A : Option Addr} {l c : Nat} (h : RootOk w lo (nv k n s A l c)) (hl : l ≤ 1000) : ∃ cs, w.ownsRow lo 48 4 (.slice A l c) l cs ∧ cs.length = l * 4 ∧ ∀ ad, A = some ad → ad = ⟨ad.block, 0, none⟩ ∧ Blk w ad.block 48 cs := by
  obtain ⟨k', n', s', A', l', c', e, h⟩ := h
  injection e with e1
  have e2 := congrArg Array.toList e1
  simp only [List.cons.injEq] at e2
  obtain ⟨_, _, _, e3, _⟩ := e2
  cases e3
  rcases h with ⟨rfl, rfl, rfl⟩ | ⟨b, cs, rfl, rfl, hB, hcl, hlo⟩
  · exact ⟨[], World.ownsRow_nil _ _ _ _, rfl, fun ad e => by cases e⟩
  · refine ⟨cs, ⟨hcl, Or.inr ⟨b, c, cs.toArray, rfl, hlo, hB, Nat.le_refl _, by unfold maxLen; omega, by simpa using hcl, ?_⟩⟩, hcl, fun ad e => by cases e; exact ⟨rfl, hB⟩⟩
    rw [← hcl]; simp
/-- one kid more: a constant -/
theorem own_snoc {W W' : World} {lo hi g2 c2 : Nat} {k n : Int} {s : List UInt8} {A : Option Addr} {c : Nat} {ks : List T} {cs cs2 : List Value} (h : OwnX lo hi W (nv k n s A ks.length c) (.mk k n s ks)) (hA : ∀ ad, A = some ad → ad = ⟨ad.block, 0, none⟩ ∧ Blk W ad.block 48 cs) (hcl : cs.length = ks.length * 4)
    (hW : ∀ q, q < hi → (∀ ad, A = some ad → q ≠ ad.block) → W'.heap[q]? = W.heap[q]?) (hB : Blk W' g2 48 cs2) (htk : cs2.take ((ks.length + 1) * 4) = cs ++ [.int .i64 1, .int .i64 0, sv [], .slice none 0 0]) (hg : (∃ ad, A = some ad ∧ ad.block = g2) ∨ hi ≤ g2) (hlo : lo ≤ g2) (hkl : ks.length ≤ 1000) :
    OwnX lo (max hi (g2 + 1)) W' (nv k n s (some ⟨g2, 0, none⟩) (ks.length + 1) c2) (.mk k n s (ks ++ [.mk 1 0 [] []])) := by
  have hlen : (ks ++ [T.mk 1 0 [] []]).length = ks.length + 1 := by simp
  have hat : ∀ i, i < (ks.length + 1) * 4 → cs2[i]? = (cs ++ [.int .i64 1, .int .i64 0, sv [], .slice none 0 0])[i]? := by
    intro i hi'
    rw [← htk, List.getElem?_take, if_pos hi']
  obtain ⟨l, hl⟩ : ∃ l, l = ks.length := ⟨_, rfl⟩
  rw [← hl] at h
  cases h with
  | mk _ _ vs ls hs hsl hkl' hA' hin hdis hk =>
    clear hl
    have hgo : ks.length ≠ 0 → ∃ g, A = some ⟨g, 0, none⟩ ∧ g < hi ∧ lo ≤ g ∧ Blk W g 48 cs ∧ RowsAt cs ks.length vs ∧ ∀ j, j < ks.length → g < ls j ∨ hs j ≤ g := by
      intro hne
      obtain ⟨g, cs0, e, h1, h2, hb, hr, hd⟩ := hA' hne
      have hb2 := (hA _ e).2
      have : cs0 = cs := by
        unfold Blk at hb hb2
        rw [hb] at hb2
        injection hb2 with h3; injection h3 with h4 _ _
        simpa using h4
      subst this
      exact ⟨g, e, h2, h1, hb, hr, hd⟩
    have hg2 : ∀ j, j < ks.length → g2 < ls j ∨ hs j ≤ g2 := by
      intro j hj
      obtain ⟨g, e, h1, _, _, _, hd⟩ := hgo (by omega)
      rcases hg with ⟨ad, e', e2⟩ | h3
      · rw [e] at e'; cases e'; subst e2; exact hd j hj
      · have := hin j hj; omega
    have hown := OwnE.mk (ty := 48) (w := W') (lo := lo) (hi := max hi (g2 + 1)) (k := k) (n := n) (s := s) (ks := ks ++ [T.mk 1 0 [] []]) (some ⟨g2, 0, none⟩) c2 (fun j => if j = ks.length then nv 1 0 [] none 0 0 else vs j) (fun j => if j = ks.length then lo else ls j) (fun j => if j = ks.length then lo else hs j) hsl (by rw [hlen]; omega) (fun _ => ⟨g2, cs2, rfl, hlo, by omega, hB, fun j hj => ?_, fun j hj => ?_⟩) (fun j hj => ?_) (fun i j hij hj => ?_) (fun j a ha => ?_)
    · rw [hlen] at hown; exact hown
    · rw [hlen] at hj
      by_cases e : j = ks.length
      · subst e
        refine ⟨_, _, _, _, if_pos rfl, ?_, ?_, ?_, ?_⟩ <;> rw [hat _ (by omega), List.getElem?_append_right (by omega), hcl]
        · rw [Nat.sub_self]; rfl
        · rw [Nat.add_sub_cancel_left]; rfl
        · rw [Nat.add_sub_cancel_left]; rfl
        · rw [Nat.add_sub_cancel_left]; rfl
      · obtain ⟨_, _, _, _, _, hr, _⟩ := hgo (by omega)
        obtain ⟨d0, d1, d2, d3, hv, h0, h1, h2, h3⟩ := hr j (by omega)
        refine ⟨d0, d1, d2, d3, (if_neg e).trans hv, ?_, ?_, ?_, ?_⟩ <;> rw [hat _ (by omega), List.getElem?_append_left (by omega)] <;> assumption
    · rw [hlen] at hj
      by_cases e : j = ks.length
      · rw [if_pos e, if_pos e]; exact Or.inr hlo
      · rw [if_neg e, if_neg e]; exact hg2 j (by omega)
    · rw [hlen] at hj
      by_cases e : j = ks.length
      · rw [if_pos e, if_pos e]; omega
      · rw [if_neg e, if_neg e]; have := hin j (by omega); omega
    · rw [hlen] at hj
      have e1 : i ≠ ks.length := by omega
      rw [if_neg e1, if_neg e1]
      by_cases e : j = ks.length
      · rw [if_pos e, if_pos e]; right; exact (hin i (by omega)).1
      · rw [if_neg e, if_neg e]; exact hdis i j hij (by omega)
    · by_cases e : j = ks.length
      · subst e
        rw [List.getElem?_append_right (by omega), Nat.sub_self] at ha
        cases ha
        rw [if_pos rfl, if_pos rfl, if_pos rfl]
        exact OwnE.mk (ks := []) none 0 (fun _ => .nilFunc) (fun _ => 0) (fun _ => 0) (by simp) (by simp) (fun h => absurd rfl h) (fun j hj => by simp at hj) (fun i j _ hj => by simp at hj) (fun j a ha => by simp at ha)
      · have hj := lt_of_get ha
        rw [hlen] at hj
        have hj' : j < ks.length := by omega
        rw [List.getElem?_append_left hj'] at ha
        rw [if_neg e, if_neg e, if_neg e]
        obtain ⟨g, eA, h1, _, _, _, hd⟩ := hgo (by omega)
        refine (hk j a ha).same fun q q1 q2 => hW q (by have := hin j hj'; omega) fun ad ead => ?_
        rw [eA] at ead; cases ead
        have := hd j hj'
        show q ≠ g
        omega
theorem some_alloc {w : World} {a : Addr} {v : Value} (h : w.cell? a = some v) (o : Obj) : (w.alloc o).cell? a = some v := ((box_below w o).cell (block_lt_of_cell h)).trans h
theorem row_keep {W w' : World} {eb ty : Nat} {cs : List Value} {row : Option Nat} (h : Blk W eb ty cs) (hg : W.grownBy w' row) (hne : row ≠ some eb) : Blk w' eb ty cs := (hg.block eb h.lt fun e => hne e.symm).trans h
theorem own_ne {A : Option Addr} {l c eb : Nat} (h : ∀ ad, A = some ad → ad.block ≠ eb) : (Value.slice A l c).ownBlock ≠ some eb := by
  cases A with
  | none => intro e; cases e
  | some ad => intro e; exact h ad rfl (by injection e)
theorem own_below {w w' : World} {base e size n : Nat} {v : Value} {xs : List Value} (h : w.ownsRow base e size v n xs) (hb : Below w.heap.size w w') : w'.ownsRow base e size v n xs :=
  h.kept (row := none) ⟨hb.os, hb.tape, hb.output, hb.size, fun k hk _ => hb.block k hk⟩ (by cases v.ownBlock <;> simp)
end Go.Proofs.YtklcbagddijkgaaGreat.Dr

/- Chapter 4's draws: expressions that need not be valid: the walk. -/
set_option maxRecDepth 100000
namespace Go.Proofs.YtklcbagddijkgaaGreat.Dr
open Go.RowKit Go.Lib Go.Proofs.YtklcbagddijkgaaGreat.Com Go.Proofs.YtklcbagddijkgaaGreat.Mem Go.Proofs.YtklcbagddijkgaaGreat.Cur Go.Proofs.YtklcbagddijkgaaGreat.Os Go.Proofs.YtklcbagddijkgaaGreat.Tr
theorem len_cntK (ks : List T) : ks.length ≤ cntK ks := by
  induction ks with
  | nil => simp [cntK]
  | cons a r ih => have := cnt_pos a; simp [cntK] at *; omega
theorem row_full {w : World} {base e size n : Nat} {v : Value} {xs : List Value} (h : w.ownsRow base e size v n xs) (hn : 0 < n) : ∃ g c cs, v = .slice (some ⟨g, 0, none⟩) n c ∧ base ≤ g ∧ Blk w g e cs ∧ cs.take (n * size) = xs := by
  rcases h.2 with ⟨_, h0⟩ | ⟨g, c, cur, rfl, hb, hh, _, _, _, ht⟩
  · omega
  · exact ⟨g, c, cur.toList, rfl, hb, by unfold Blk; simpa using hh, ht⟩
theorem drew_row {w W w' : World} {g c : Nat} {A : Option Addr} {xs : List UInt8} {row : Option Nat} (h : Drew w g A c xs W) (hg : W.grownBy w' row) (hrow : ∀ b, row = some b → w.heap.size ≤ b) (hgw : g < w.heap.size) : Drew w g A c xs w' := by
  have hs := h.2.size
  refine ⟨cur_below h.1 ⟨hg.os, hg.tape, hg.output, hg.size, fun k hk => hg.block k (by omega) fun e => ?_⟩, ⟨hg.os.trans h.2.os, hg.tape.trans h.2.tape, hg.output.trans h.2.output, Nat.le_trans hs hg.size, fun k hk hr => (hg.block k (by omega) fun e => ?_).trans (h.2.block k hk hr)⟩⟩
  · have := hrow k e.symm; omega
  · have := hrow k e.symm; omega
/-- append of one node, as one step of a region that draws its order -/
theorem step_app4 {W : World} {o : Oper} {a : Act} {ops : Array Oper} {K : Act → World → Prop} {Q : Exit → Act → World → Prop} {E : Prop} (hg : o.guard = none) (s x : Operand)
    (ho : o.op = .call { callee := .builtin .append, args := #[s, x], argTypes := #[46, 46] }) (base : Nat) (i0 : TypeInfo) (hi : Tryz.prog.info? 48 = some i0) (hz0 : i0.zero = some (nv 0 0 [] none 0 0)) (hz1 : i0.size = 4) (hz2 : i0.bytes = 56)
    (v : Value) (n : Nat) (xs : List Value) (hs : a.eval s = v) (hown : W.ownsRow base 48 4 v n xs) (ad : Addr) (ys : List Value) (hx : a.eval x = .slice (some ad) 1 1) (hys : ys.length = 4) (hc : ∀ j u, ys[j]? = some u → W.cell? (ad.add j) = some u) (hone : ∀ u ∈ ys, u.oneCell' = true) (hl : n ≤ 10000000) (hbase : base ≤ W.heap.size)
    (hK : ∀ v' w', w'.ownsRow base 48 4 v' (n + 1) (xs ++ ys) → W.grownBy w' v.ownBlock → (v'.ownBlock = v.ownBlock ∨ v'.ownBlock = some W.heap.size) → K (a.put o.dst v') w') :
    if Region.wanted o (yielded ops a.tmps) = true then Oper.wp Tryz.prog o a W K Q else E := by
  have hw : Region.wanted o (yielded ops a.tmps) = true := by simp [Region.wanted, hg]
  rw [if_pos hw]
  obtain ⟨v', w', hr, h2, h3, _, h5⟩ := run_append_own_at (P := Tryz.prog) W base 46 o.type 48 i0 _ 4 56 Tryz.underlying46 hi hz0 hz1 hz2 rfl (by decide) v n xs hown ad 1 1 ys (by omega) hc hone (by unfold maxLen; omega) (by omega) hbase
  unfold Oper.wp execOp
  simp only [ho, resolve, invoke, builtin, Sem.run_bind, Sem.run_pure, Result.andThen_ok, List.map_toArray, List.map_cons, List.map_nil, hs, hx, hr]
  exact hK _ _ h2 h3 h5
theorem new_node (W : World) (cs : List Value) : ∀ j u, cs[j]? = some u → (W.alloc (.cells cs.toArray 48)).cell? ((⟨W.heap.size, 0, none⟩ : Addr).add j) = some u := by
  intro j u hj
  rw [add_zero, (Blk.new W _ cs).cell]; exact hj
theorem own_row_lt {ty : TypeId} {w : World} {lo hi : Nat} {k n : Int} {s : List UInt8} {A : Option Addr} {l c : Nat} {t : T} (h : OwnE ty w lo hi (nv k n s A l c) t) (hl : l ≠ 0) : ∃ g, A = some ⟨g, 0, none⟩ ∧ g < hi ∧ lo ≤ g := by
  cases h with
  | mk A c vs ls hs hsl hkl hA hin hdis hk =>
    obtain ⟨g, cs, e, h1, h2, _⟩ := hA hl
    exact ⟨g, e, h2, h1⟩
set_option maxHeartbeats 8000000 in
theorem bent_any (g : Nat) (A : Option Addr) (c : Nat) (xs : List UInt8) (w : World) (hc : CurAt w g A c xs) :
    Calls Tryz.prog 41 #[.pointer (some ⟨g, 0, none⟩)] w fun e w' => ∃ v t, e = .returned v ∧ OwnX w.heap.size w'.heap.size w' v t ∧ cntT t ≤ 40 ∧ Drew w g A c xs w' := by
  have hgw := cur_lt hc
  have s1 := size_alloc' w (.cells #[.int .i64 0, .int .i64 0, .string ⟨#[]⟩, .slice none 0 0] 48)
  have B1 := Blk.new w 48 [.int .i64 0, .int .i64 0, .string ⟨#[]⟩, .slice none 0 0]
  have hc1 := cur_alloc hc (.cells #[.int .i64 0, .int .i64 0, .string ⟨#[]⟩, .slice none 0 0] 48)
  have hD1 : Drew w g A c xs (w.alloc (.cells #[.int .i64 0, .int .i64 0, .string ⟨#[]⟩, .slice none 0 0] 48)) := ⟨hc1, World.grownBy_alloc w _ _⟩
  have D2 := drew_be hD1 (box_below (w.alloc (.cells #[.int .i64 0, .int .i64 0, .string ⟨#[]⟩, .slice none 0 0] 48)) (.cells #[sv [120], sv [121]] 9))
  have n2 := Blk.new (w.alloc (.cells #[.int .i64 0, .int .i64 0, .string ⟨#[]⟩, .slice none 0 0] 48)) 9 [sv [120], sv [121]]
  rw [s1] at n2
  have V2 : VarsAt ((w.alloc (.cells #[.int .i64 0, .int .i64 0, .string ⟨#[]⟩, .slice none 0 0] 48)).alloc (.cells #[sv [120], sv [121]] 9)) g (some ⟨w.heap.size + 1, 0, none⟩) [[120], [121]] := Or.inr ⟨w.heap.size + 1, [sv [120], sv [121]], rfl, n2, rfl, by omega⟩
  have B2 := B1.alloc (.cells #[sv [120], sv [121]] 9)
  have z2 := size_alloc' (w.alloc (.cells #[.int .i64 0, .int .i64 0, .string ⟨#[]⟩, .slice none 0 0] 48)) (.cells #[sv [120], sv [121]] 9)
  replace z2 := hid (show w.heap.size + 2 ≤ ((w.alloc (.cells #[.int .i64 0, .int .i64 0, .string ⟨#[]⟩, .slice none 0 0] 48)).alloc (.cells #[sv [120], sv [121]] 9)).heap.size by omega)
  replace D2 := hid D2
  replace V2 := hid V2
  replace B2 := hid B2
  clear hc hc1 hD1 B1 n2 s1
  go_enter Tryz.func41, Tryz.ntmps41
  go_wp2_with fail
  generalize ((w.alloc (.cells #[.int .i64 0, .int .i64 0, .string ⟨#[]⟩, .slice none 0 0] 48)).alloc (.cells #[sv [120], sv [121]] 9)) = w2 at *
  refine (below_any g A c xs 4 w2 D2.out.1 (by omega) (by omega)).mono ?_
  rintro e w3 ⟨⟨x, rfl, hx, hx2⟩, hd⟩
  have e1 : IntKind.i64.wrap (1 + (x : Int)) = 1 + (x : Int) := IntWalk.i64_in _ (by omega)
  have D3 := hid (drew_tr D2.out hd)
  have V3 := hid (V2.out.drew hd.2)
  have B3 := hid (B2.out.gb hd.2 (by omega))
  have z3 := hd.2.size
  clear hd
  go_wp2_with fail
  refine (draw_any g A c xs (some ⟨w.heap.size + 1, 0, none⟩) 2 [[120], [121]] (1 + (x : Int)) w3 (by omega) (by omega) D3.out.1 V3.out (by simp) (by simp)).mono ?_
  rintro e w4 ⟨v, t, rfl, hm, hcnt, hd⟩
  obtain ⟨k, n, s, KA, l, kc, rfl⟩ := form_made hm
  obtain ⟨ks, rfl, rfl, hsl⟩ := own_inv hm.1
  have D4 := hid (drew_tr D3.out hd)
  have B4 := hid (B3.out.gb hd.2 (by omega))
  have z4 := hd.2.size
  have hb := box_below w4 (.cells #[.int .i64 k, .int .i64 n, sv s, .slice KA ks.length kc] 48)
  have E5 := hid (box_blk w4 k n s KA ks.length kc 48)
  have D5 := hid (drew_be D4.out hb)
  have B5 := hid (B4.out.below hb B4.out.lt)
  have O5 := hid (hm.1.same (same_below hb (Nat.le_refl _)))
  have R5 := hid (hm.2.chg (chg_of_below hb 0 0) (Nat.zero_le _))
  have hlo : w.heap.size + 1 ≤ w3.heap.size := by have := z2.out; omega
  have hgl : g + 1 ≤ w3.heap.size := by omega
  clear hd hm hb
  go_wp2_with fail
  generalize (w4.alloc (.cells #[.int .i64 k, .int .i64 n, sv s, .slice KA ks.length kc] 48)) = w5 at *
  refine (below_any g A c xs 12 w5 D5.out.1 (by omega) (by omega)).mono ?_
  rintro e w6 ⟨⟨y, rfl, hy, hy2⟩, hd⟩
  have D6 := hid (drew_tr D5.out hd)
  have B6 := hid (B5.out.gb hd.2 (by omega))
  have E6 := hid (E5.out.gb hd.2 (by omega))
  have O6 := hid (O5.out.chg (chg_of_gbs hd.2) (Or.inr hgl))
  have R6 := hid (R5.out.chg (chg_of_gbs hd.2) hgl)
  clear hd D2 V2 B2 D3 V3 B3 D4 B4 D5 B5 E5 O5 R5 e1
  by_cases h0 : y = 0
  · subst h0
    go_wp2_with fail
    refine (below_any g A c xs 6 w6 D6.out.1 (by omega) (by omega)).mono ?_
    rintro e w7 ⟨⟨q, rfl, _, hq2⟩, hd⟩
    have D7 := drew_tr D6.out hd
    have B7 := B6.out.gb hd.2 (by omega)
    have E7 := E6.out.gb hd.2 (by omega)
    have O7 := O6.out.chg (chg_of_gbs hd.2) (Or.inr hgl)
    obtain ⟨u0, u1, u2, u3⟩ := four E7
    have f0 := E7.frozen 0
    have hcg := chg_set (w := w7) (g := w4.heap.size) (i := 0) (lo := w4.heap.size) (hi := w4.heap.size + 1) (Nat.le_refl _) (Nat.lt_succ_self _) (.int .i64 (q : Nat))
    have D8 := hid (show Drew w g A c xs (w7.setCell ⟨w4.heap.size, 0, none⟩ (.int .i64 (q : Nat))) from ⟨cur_set D7.1 (by omega) 0 _, gb_new D7.2 (by omega) 0 _⟩)
    have B8 := hid (blk_chg B7 hcg (by omega))
    have E8 := hid (show Blk (w7.setCell ⟨w4.heap.size, 0, none⟩ (.int .i64 (q : Nat))) w4.heap.size 48 [.int .i64 ((q : Nat)), .int .i64 (n), sv (s), .slice KA ks.length kc] from E7.set_ 0 _)
    have O8 := hid (own_root (O7.chg hcg (Or.inl (Nat.le_refl _))) ((q : Nat)) (n) (s) (hsl))
    clear hcg D7 B7 E7 O7 hd
    have f := bent_fin hgw D8.out B8.out O8.out hlo (Nat.le_of_lt E8.out.lt)
    have f1 := hid f.1
    have f2 := hid f.2.1
    have f3 := hid f.2.2
    have hcc := hid (show cntT (.mk ((q : Nat)) (n) (s) ks) ≤ 40 from by rw [cntT_mk] at hcnt ⊢; omega)
    obtain ⟨x0, x1, x2, x3⟩ := four B8.out
    obtain ⟨y0, y1, y2, y3⟩ := four E8.out
    have r0 := B8.out.frozen 0
    have r1 := B8.out.frozen 1
    have r2 := B8.out.frozen 2
    have r3 := B8.out.frozen 3
    clear f
    go_wp2_with fail
    exact bodyPost_ret (results_cell_row Tryz.results41 _ _ w.heap.size 48 _ (0, 0) _ rfl f1.out Tryz.underlying48 rfl (by kernel_rfl)) rfl ⟨_, _, rfl, f2.out, hcc.out, f3.out⟩
  by_cases h1 : y = 1
  · subst h1
    go_wp2_with fail
    refine (pickInt_lit g A c xs [-1, 4, 9, 1] w6 D6.out.1 (by simp) (by simp)).mono ?_
    rintro e w7 ⟨⟨q, hq, rfl⟩, hd⟩
    have D7 := drew_tr D6.out hd
    have B7 := B6.out.gb hd.2 (by omega)
    have E7 := E6.out.gb hd.2 (by omega)
    have O7 := O6.out.chg (chg_of_gbs hd.2) (Or.inr hgl)
    obtain ⟨u0, u1, u2, u3⟩ := four E7
    have f0 := E7.frozen 1
    have hcg := chg_set (w := w7) (g := w4.heap.size) (i := 1) (lo := w4.heap.size) (hi := w4.heap.size + 1) (Nat.le_refl _) (Nat.lt_succ_self _) (.int .i64 q)
    have D8 := hid (show Drew w g A c xs (w7.setCell ⟨w4.heap.size, 1, none⟩ (.int .i64 q)) from ⟨cur_set D7.1 (by omega) 1 _, gb_new D7.2 (by omega) 1 _⟩)
    have B8 := hid (blk_chg B7 hcg (by omega))
    have E8 := hid (show Blk (w7.setCell ⟨w4.heap.size, 1, none⟩ (.int .i64 q)) w4.heap.size 48 [.int .i64 (k), .int .i64 (q), sv (s), .slice KA ks.length kc] from E7.set_ 1 _)
    have O8 := hid (own_root (O7.chg hcg (Or.inl (Nat.le_refl _))) (k) (q) (s) (hsl))
    clear hcg D7 B7 E7 O7 hd
    have f := bent_fin hgw D8.out B8.out O8.out hlo (Nat.le_of_lt E8.out.lt)
    have f1 := hid f.1
    have f2 := hid f.2.1
    have f3 := hid f.2.2
    have hcc := hid (show cntT (.mk (k) (q) (s) ks) ≤ 40 from by rw [cntT_mk] at hcnt ⊢; omega)
    obtain ⟨x0, x1, x2, x3⟩ := four B8.out
    obtain ⟨y0, y1, y2, y3⟩ := four E8.out
    have r0 := B8.out.frozen 0
    have r1 := B8.out.frozen 1
    have r2 := B8.out.frozen 2
    have r3 := B8.out.frozen 3
    clear f
    go_wp2_with fail
    exact bodyPost_ret (results_cell_row Tryz.results41 _ _ w.heap.size 48 _ (0, 0) _ rfl f1.out Tryz.underlying48 rfl (by kernel_rfl)) rfl ⟨_, _, rfl, f2.out, hcc.out, f3.out⟩
  by_cases h2 : y = 2
  · subst h2
    go_wp2_with fail
    refine (pick_lit g A c xs [[105, 102], [], [120]] w6 D6.out.1 (by simp) (by simp)).mono ?_
    rintro e w7 ⟨⟨q, hq, rfl⟩, hd⟩
    have D7 := drew_tr D6.out hd
    have B7 := B6.out.gb hd.2 (by omega)
    have E7 := E6.out.gb hd.2 (by omega)
    have O7 := O6.out.chg (chg_of_gbs hd.2) (Or.inr hgl)
    obtain ⟨u0, u1, u2, u3⟩ := four E7
    have f0 := E7.frozen 2
    have hcg := chg_set (w := w7) (g := w4.heap.size) (i := 2) (lo := w4.heap.size) (hi := w4.heap.size + 1) (Nat.le_refl _) (Nat.lt_succ_self _) (sv q)
    have D8 := hid (show Drew w g A c xs (w7.setCell ⟨w4.heap.size, 2, none⟩ (sv q)) from ⟨cur_set D7.1 (by omega) 2 _, gb_new D7.2 (by omega) 2 _⟩)
    have B8 := hid (blk_chg B7 hcg (by omega))
    have E8 := hid (show Blk (w7.setCell ⟨w4.heap.size, 2, none⟩ (sv q)) w4.heap.size 48 [.int .i64 (k), .int .i64 (n), sv (q), .slice KA ks.length kc] from E7.set_ 2 _)
    have O8 := hid (own_root (O7.chg hcg (Or.inl (Nat.le_refl _))) (k) (n) (q) (by simp at hq; rcases hq with rfl | rfl | rfl <;> simp))
    clear hcg D7 B7 E7 O7 hd
    have f := bent_fin hgw D8.out B8.out O8.out hlo (Nat.le_of_lt E8.out.lt)
    have f1 := hid f.1
    have f2 := hid f.2.1
    have f3 := hid f.2.2
    have hcc := hid (show cntT (.mk (k) (n) (q) ks) ≤ 40 from by rw [cntT_mk] at hcnt ⊢; omega)
    obtain ⟨x0, x1, x2, x3⟩ := four B8.out
    obtain ⟨y0, y1, y2, y3⟩ := four E8.out
    have r0 := B8.out.frozen 0
    have r1 := B8.out.frozen 1
    have r2 := B8.out.frozen 2
    have r3 := B8.out.frozen 3
    clear f
    go_wp2_with fail
    exact bodyPost_ret (results_cell_row Tryz.results41 _ _ w.heap.size 48 _ (0, 0) _ rfl f1.out Tryz.underlying48 rfl (by kernel_rfl)) rfl ⟨_, _, rfl, f2.out, hcc.out, f3.out⟩
  by_cases h3 : y = 3
  · subst h3
    have hks : ks.length ≤ 1000 := by have := len_cntK ks; rw [cntT_mk] at hcnt; omega
    obtain ⟨csr, hown, hcl, hAr⟩ := root_row R6.out hks
    have hane : ∀ ad, KA = some ad → ad.block ≠ w4.heap.size := by
      intro ad e h
      have hB := (hAr ad e).2
      by_cases hl0 : ks.length = 0
      · rw [h] at hB
        have h2 := E6.out
        unfold Blk at hB h2
        rw [h2] at hB
        injection hB with h3; injection h3 with h4 _ _
        have h5 := congrArg Array.size h4
        simp at h5; omega
      · obtain ⟨g1, e1, hlt, _⟩ := own_row_lt O6.out hl0
        rw [e] at e1; cases e1; exact absurd h (by simp only; omega)
    obtain ⟨i0, hi0, hz0, hz1, hz2⟩ := info_parts zeroE
    have hsz6 := E6.out.lt
    obtain ⟨q0, q1, q2, q3⟩ := four E6.out
    replace hown := hid hown
    replace hAr := hid hAr
    replace hane := hid hane
    go_wp2_with fail
    go_region_law (first
      | (refine step_app4 rfl (.tmp 33) (.tmp 35) rfl w3.heap.size i0 hi0 hz0 hz1 hz2 (.slice KA ks.length kc) ks.length csr rfl (hown8.alloc _) ⟨w8.heap.size, 0, none⟩ [.int .i64 1, .int .i64 0, sv [], .slice none 0 0] rfl rfl (new_node w8 [.int .i64 1, .int .i64 0, sv [], .slice none 0 0]) (by intro u hu; simp at hu; rcases hu with rfl | rfl | rfl | rfl <;> rfl) (by omega) (by rw [size_alloc']; have := b8.size; omega) ?_; intro v9 w9 hown9 hg9 hloc; obtain ⟨g2, c2, cs2, rfl, hlo2, hB2, htk2⟩ := row_full hown9 (Nat.succ_pos _); have E9 := row_keep E8a hg9 (own_ne hane.out); have q5 := E9.cell 3; have f5 := E9.frozen 3)
      | (go_simp; go_at_call 42; refine (const4 0 _).mono ?_; rintro e w8 ⟨rfl, hb8⟩; have b8 : Below w6.heap.size w6 w8 := (Below.refl _ _).drew.trans hb8; have E8 := E6.out.below b8 E6.out.lt; have E8a := E8.alloc (.cells #[.int .i64 1, .int .i64 0, sv [], .slice none 0 0] 48); obtain ⟨p0, p1, p2, p3⟩ := four E8; have p3o := fun o => some_alloc p3 o; have hown8 := own_below hown.out b8))
    all_goals
      have bA : Below w6.heap.size w6 (w8.alloc (.cells #[.int .i64 1, .int .i64 0, sv [], .slice none 0 0] 48)) := b8.alloc b8.size (.cells #[.int .i64 1, .int .i64 0, sv [], .slice none 0 0] 48)
      have hszA := size_alloc' w8 (.cells #[.int .i64 1, .int .i64 0, sv [], .slice none 0 0] 48)
      have hszb := b8.size
      have hrow : ∀ b, (Value.slice KA ks.length kc).ownBlock = some b → w3.heap.size ≤ b := fun b e => (hown.out.lt b e).1
      have D9 := drew_row (drew_be D6.out bA) hg9 (fun b e => by have := hrow b e; omega) hgw
      have B9 := row_keep (B6.out.below bA B6.out.lt) hg9 (fun e => by have := hrow _ e; omega)
      have hgg : (∃ ad, KA = some ad ∧ ad.block = g2) ∨ w4.heap.size + 1 ≤ g2 := by
        rcases hloc with e | e
        · left
          cases KA with
          | none => cases e
          | some ad => exact ⟨ad, rfl, (by injection e with e; exact e.symm)⟩
        · right
          have e2 : g2 = (w8.alloc (.cells #[.int .i64 1, .int .i64 0, sv [], .slice none 0 0] 48)).heap.size := by injection e
          omega
      have hge : g2 ≠ w4.heap.size := by
        rcases hgg with ⟨ad, e, e2⟩ | e
        · exact fun h => hane.out ad e (e2.trans h)
        · omega
      have hcg := chg_set (w := w9) (g := w4.heap.size) (i := 3) (lo := w4.heap.size) (hi := w4.heap.size + 1) (Nat.le_refl _) (Nat.lt_succ_self _) (.slice (some ⟨g2, 0, none⟩) (ks.length + 1) c2)
      have hlt2 := hB2.lt
      have hB2' : Blk (w9.setCell ⟨w4.heap.size, 3, none⟩ (.slice (some ⟨g2, 0, none⟩) (ks.length + 1) c2)) g2 48 cs2 := (heap_setCell_other _ _ _ _ hge).trans hB2
      have ownT := hid (own_snoc (c2 := c2) O6.out hAr.out hcl (fun q hq hn => by
        have hq' : q < w4.heap.size := hq
        refine (heap_setCell_other _ _ _ _ (Nat.ne_of_lt hq')).trans ((hg9.block q (by omega) fun e => ?_).trans (bA.block q (by omega)))
        cases KA with
        | none => cases e
        | some ad => exact hn ad rfl (by injection e)) hB2' htk2 (by rcases hgg with h | h; exact Or.inl h; exact Or.inr (by omega)) hlo2 hks)
      have D10 := hid (show Drew w g A c xs (w9.setCell ⟨w4.heap.size, 3, none⟩ (.slice (some ⟨g2, 0, none⟩) (ks.length + 1) c2)) from ⟨cur_set D9.1 (by omega) 3 _, gb_new D9.2 (by omega) 3 _⟩)
      have B10 := hid (blk_chg B9 hcg (by omega))
      have E10 := hid (show Blk (w9.setCell ⟨w4.heap.size, 3, none⟩ (.slice (some ⟨g2, 0, none⟩) (ks.length + 1) c2)) w4.heap.size 48 [.int .i64 k, .int .i64 n, sv s, .slice (some ⟨g2, 0, none⟩) (ks.length + 1) c2] from E9.set_ 3 _)
      have hmx : max w4.heap.size (g2 + 1) ≤ (w9.setCell ⟨w4.heap.size, 3, none⟩ (.slice (some ⟨g2, 0, none⟩) (ks.length + 1) c2)).heap.size := by have h1 := E10.out.lt; have h2 := hB2'.lt; omega
      clear bA hrow D9 B9 hgg hge hcg hlt2 hB2' hB2 E9 q5 f5 b8 hb8 E8 E8a p0 p1 p2 p3 p3o hown8 hown9 hg9 hloc q0 q1 q2 q3
      have f := bent_fin hgw D10.out B10.out ownT.out hlo hmx
      have f1 := hid f.1
      have f2 := hid f.2.1
      have f3 := hid f.2.2
      have hcc := hid (show cntT (.mk k n s (ks ++ [.mk 1 0 [] []])) ≤ 40 from by rw [cntT_mk] at hcnt ⊢; simp [cntK, cntT_mk] at hcnt ⊢; omega)
      obtain ⟨x0, x1, x2, x3⟩ := four B10.out
      obtain ⟨y0, y1, y2, y3⟩ := four E10.out
      have r0 := B10.out.frozen 0
      have r1 := B10.out.frozen 1
      have r2 := B10.out.frozen 2
      have r3 := B10.out.frozen 3
      clear f
      go_wp2_with fail
      exact bodyPost_ret (results_cell_row Tryz.results41 _ _ w.heap.size 48 _ (0, 0) _ rfl f1.out Tryz.underlying48 rfl (by kernel_rfl)) rfl ⟨_, _, rfl, f2.out, hcc.out, f3.out⟩
  by_cases h4 : y = 4
  · subst h4
    have C6 := hid (Chain.zero (lo := w3.heap.size) O6.out)
    have hcc0 : cntT (.mk k n s ks) ≤ 15 + 2 * 0 := by omega
    go_wp2_with fail
    go_loopw [4] (fun i wr => ∃ (m hi : Nat) (k' n' : Int) (s' : List UInt8) (A' : Option Addr) (l' c' : Nat) (t' : T), m ≤ 5 ∧ i = .int .i64 (m : Nat) ∧ Drew w g A c xs wr ∧ Blk wr w.heap.size 48 [.int .i64 0, .int .i64 0, .string ⟨#[]⟩, .slice none 0 0] ∧ Blk wr w4.heap.size 48 [.int .i64 k', .int .i64 n', sv s', .slice A' l' c'] ∧ Chain wr w3.heap.size w4.heap.size m hi (nv k' n' s' A' l' c') t' ∧ hi ≤ wr.heap.size ∧ cntT t' ≤ 15 + 2 * m) (fun i _ => 5 - (Go.RowKit.intOf i).toNat)
    case atStart => exact ⟨0, w4.heap.size, k, n, s, KA, ks.length, kc, _, by omega, rfl, D6.out, B6.out, E6.out, C6.out, Nat.le_of_lt E6.out.lt, hcc0⟩
    case round =>
      obtain ⟨m, hi, k', n', s', A', l', c', t', hm5, rfl, D7, B7, E7, C7, hhi, hc7⟩ := hrel
      clear D6 B6 E6 O6 R6 C6
      have hz7 := E7.lt
      by_cases hlt : m < 5
      · have t0 : decide ((m : Int) < 5) = true := decide_eq_true (by omega)
        obtain ⟨u0, u1, u2, u3⟩ := four E7
        replace D7 := hid D7
        replace B7 := hid B7
        replace E7 := hid E7
        replace C7 := hid C7
        go_wp2_with fail
        go_region_with (first
            | (go_at_call 42; refine (const4 1 _).mono ?_; rintro e w8 ⟨rfl, hb8⟩; have b8 : Below wr.heap.size wr w8 := (Below.refl _ _).drew.trans hb8; have E8 := E7.out.below b8 E7.out.lt; obtain ⟨q0, q1, q2, q3⟩ := four E8)
            | (go_at_call 61; refine (op4 1 k' n' 1 1 s' [] A' none l' c' 0 0 w8).mono ?_; rintro e w9 ⟨rfl, hB9, hb9⟩; have E9 := E8.below hb9 E8.lt; obtain ⟨p0, p1, p2, p3⟩ := four E9; have f0 := E9.frozen 0; have f1 := E9.frozen 1; have f2 := E9.frozen 2; have f3 := E9.frozen 3))
        all_goals
          have hsz8 := b8.size
          have hsz9 := hb9.size
          have D9 := drew_be (drew_be D7.out b8) hb9
          have hcg := setR_chg w9 w4.heap.size 3 1 [] (.slice (some ⟨w8.heap.size + 1 + 1 + 1, 0, none⟩) 2 2)
          have D10 := hid (show Drew w g A c xs (setR w9 w4.heap.size 3 1 [] (.slice (some ⟨w8.heap.size + 1 + 1 + 1, 0, none⟩) 2 2)) from ⟨setR_cur D9.1 (by omega) 3 1 [] (.slice (some ⟨w8.heap.size + 1 + 1 + 1, 0, none⟩) 2 2), setR_gb D9.2 (by omega) 3 1 [] (.slice (some ⟨w8.heap.size + 1 + 1 + 1, 0, none⟩) 2 2)⟩)
          have B10 := hid (blk_chg ((B7.out.below b8 B7.out.lt).below hb9 (Nat.lt_of_lt_of_le B7.out.lt hsz8)) hcg (by omega))
          have E10 := hid (setR_blk E9 3 1 [] (.slice (some ⟨w8.heap.size + 1 + 1 + 1, 0, none⟩) 2 2))
          have C9 : Chain w9 w3.heap.size w4.heap.size m hi (nv k' n' s' A' l' c') t' := C7.out.chg hz7 (fun q hq _ => (hb9.block q (by omega)).trans (b8.block q hq))
          have C9' := C9.succ (b := w8.heap.size + 1 + 1 + 1) (by omega) (by omega) hB9
          have C10 := hid (C9'.chg (by omega) (fun q hq hne => hcg.block q hq (by omega)))
          have hsz10 := hcg.size
          have hlt9 := hB9.lt
          have hc10 : cntT (.mk 3 1 [] [t', .mk 1 1 [] []]) ≤ 15 + 2 * (m + 1) := by rw [cntT_mk]; simp [cntK, cntT_mk]; omega
          clear b8 hb8 hb9 E8 E9 hB9 D9 hcg C9 C9'
          go_wp2_with fail
          exact ⟨⟨m + 1, w8.heap.size + 1 + 1 + 1 + 1, 3, 1, [], some ⟨w8.heap.size + 1 + 1 + 1, 0, none⟩, 2, 2, _, hlt, by go_num, D10.out, B10.out, E10.out, C10.out, Nat.le_trans hlt9 hsz10, hc10⟩, by simp [Go.RowKit.intOf]; omega⟩
      · obtain rfl : m = 5 := by omega
        have t0 : decide (((5 : Nat) : Int) < 5) = false := by decide
        have O7 := hid (C7.own (by omega))
        replace D7 := hid D7
        replace B7 := hid B7
        replace E7 := hid E7
        have f := bent_fin hgw D7.out B7.out O7.out hlo hhi
        have f1 := hid f.1
        have f2 := hid f.2.1
        have f3 := hid f.2.2
        have hcc := hid (show cntT (t') ≤ 40 from by omega)
        obtain ⟨x0, x1, x2, x3⟩ := four B7.out
        obtain ⟨y0, y1, y2, y3⟩ := four E7.out
        have r0 := B7.out.frozen 0
        have r1 := B7.out.frozen 1
        have r2 := B7.out.frozen 2
        have r3 := B7.out.frozen 3
        clear f
        go_wp2_with fail
        exact bodyPost_ret (results_cell_row Tryz.results41 _ _ w.heap.size 48 _ (0, 0) _ rfl f1.out Tryz.underlying48 rfl (by kernel_rfl)) rfl ⟨_, _, rfl, f2.out, hcc.out, f3.out⟩
  have t0 : ((y : Int) == 0) = false := beq_false_of_ne (by omega)
  have t1 : ((y : Int) == 1) = false := beq_false_of_ne (by omega)
  have t2 : ((y : Int) == 2) = false := beq_false_of_ne (by omega)
  have t3 : ((y : Int) == 3) = false := beq_false_of_ne (by omega)
  have t4 : ((y : Int) == 4) = false := beq_false_of_ne (by omega)
  have f := bent_fin hgw D6.out B6.out O6.out hlo (Nat.le_of_lt E6.out.lt)
  have f1 := hid f.1
  have f2 := hid f.2.1
  have f3 := hid f.2.2
  have hcc := hid (show cntT (.mk k n s ks) ≤ 40 from by omega)
  obtain ⟨x0, x1, x2, x3⟩ := four B6.out
  obtain ⟨y0, y1, y2, y3⟩ := four E6.out
  have r0 := B6.out.frozen 0
  have r1 := B6.out.frozen 1
  have r2 := B6.out.frozen 2
  have r3 := B6.out.frozen 3
  clear f
  go_wp2_with fail
  exact bodyPost_ret (results_cell_row Tryz.results41 _ _ w.heap.size 48 _ (0, 0) _ rfl f1.out Tryz.underlying48 rfl (by kernel_rfl)) rfl ⟨_, _, rfl, f2.out, hcc.out, f3.out⟩
end Go.Proofs.YtklcbagddijkgaaGreat.Dr
