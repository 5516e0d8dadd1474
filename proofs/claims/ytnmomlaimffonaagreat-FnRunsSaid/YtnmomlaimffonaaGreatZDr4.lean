/- Chapter 4's draws: expressions. -/
import Derived.Test.YtnmomlaimffonaaGreatZCur
import Derived.Test.YtnmomlaimffonaaGreatZC3a
set_option maxHeartbeats 4000000
set_option maxRecDepth 100000
namespace Go.Proofs.YtnmomlaimffonaaGreat.Dr
open Go.RowKit Go.Lib Com Mem Cur YtnmomlaimffonaaGreat.Os Tr
theorem gb_new {a w : World} {row : Option Nat} (h : a.grownBy w row) {b : Nat} (hb : a.heap.size ≤ b) (i : Nat) (u : Value) : a.grownBy (w.setCell ⟨b, i, none⟩ u) row :=
  ⟨h.os, h.tape, h.output, by simpa [World.setCell] using h.size, fun k hk hr => (Below.heap_setCell w ⟨b, i, none⟩ u k (by show k ≠ b; omega)).trans (h.block k hk hr)⟩
theorem cur_set {w : World} {g c b : Nat} {A : Option Addr} {xs : List UInt8} (h : CurAt w g A c xs) (hb : g < b) (i : Nat) (u : Value) : CurAt (w.setCell ⟨b, i, none⟩ u) g A c xs :=
  cur_below h ((Below.refl (g + 1) w).setCell (p := ⟨b, i, none⟩) hb u)
theorem chg_of_gbs {w w' : World} {g : Nat} (h : w.grownBy w' (some g)) : Chg w w' g (g + 1) := chg_of_gb h (Nat.le_refl g) (Nat.lt_succ_self g)
def RootOk (w : World) (lo : Nat) (v : Value) : Prop :=
  ∃ k n s A l c, v = nv k n s A l c ∧ ((A = none ∧ l = 0 ∧ c = 0) ∨ ∃ b cs, A = some ⟨b, 0, none⟩ ∧ c = l ∧ Blk w b 92 cs ∧ cs.length = l * 4 ∧ lo ≤ b)
def Made (w : World) (lo : Nat) (v : Value) (t : T) : Prop := OwnE 92 w lo w.heap.size v t ∧ RootOk w lo v
theorem RootOk.chg {w w' : World} {lo lo' hi' : Nat} {v : Value} (h : RootOk w lo v) (hc : Chg w w' lo' hi') (hn : hi' ≤ lo) : RootOk w' lo v := by
  obtain ⟨k, n, s, A, l, c, e, h⟩ := h
  refine ⟨k, n, s, A, l, c, e, ?_⟩
  rcases h with h | ⟨b, cs, e1, e2, e3, e4, e5⟩
  · exact Or.inl h
  · exact Or.inr ⟨b, cs, e1, e2, blk_chg e3 hc (by omega), e4, e5⟩
theorem RootOk.mono {w : World} {lo lo' : Nat} {v : Value} (h : RootOk w lo v) (hl : lo' ≤ lo) : RootOk w lo' v := by
  obtain ⟨k, n, s, A, l, c, e, h⟩ := h
  refine ⟨k, n, s, A, l, c, e, ?_⟩
  rcases h with h | ⟨b, cs, e1, e2, e3, e4, e5⟩
  · exact Or.inl h
  · exact Or.inr ⟨b, cs, e1, e2, e3, e4, by omega⟩
theorem Made.chg {w w' : World} {lo lo' hi' : Nat} {v : Value} {t : T} (h : Made w lo v t) (hc : Chg w w' lo' hi') (hn : hi' ≤ lo) : Made w' lo v t :=
  ⟨(h.1.chg hc (Or.inr hn)).mono (Nat.le_refl _) hc.size, h.2.chg hc hn⟩
theorem Made.below {w w' : World} {lo : Nat} {v : Value} {t : T} (h : Made w lo v t) (hb : Below w.heap.size w w') : Made w' lo v t := h.chg (chg_of_below hb 0 0) (Nat.zero_le _)
theorem Made.mono {w : World} {lo lo' : Nat} {v : Value} {t : T} (h : Made w lo v t) (hl : lo' ≤ lo) : Made w lo' v t := ⟨h.1.mono hl (Nat.le_refl _), h.2.mono hl⟩
theorem made_leaf (w : World) (lo : Nat) (k n : Int) (s : List UInt8) (hs : s.length ≤ 9223372036854775807) : Made w lo (nv k n s none 0 0) (.mk k n s []) :=
  ⟨OwnE.mk (ks := []) none 0 (fun _ => .nilFunc) (fun _ => 0) (fun _ => 0) hs (by simp) (fun h => absurd rfl h) (fun j hj => by simp at hj) (fun i j _ hj => by simp at hj) (fun j a ha => by simp at ha), k, n, s, none, 0, 0, rfl, Or.inl ⟨rfl, rfl, rfl⟩⟩
theorem made_one {w : World} {lo b : Nat} {k n : Int} {s : List UInt8} {A : Option Addr} {l c : Nat} {t : T} (K N : Int) (hk : OwnE 92 w lo b (nv k n s A l c) t) (hb : Blk w b 92 [.int .i64 k, .int .i64 n, sv s, .slice A l c]) (hlo : lo ≤ b) :
    Made w lo (nv K N [] (some ⟨b, 0, none⟩) 1 1) (.mk K N [] [t]) := by
  refine ⟨OwnE.mk (ks := [t]) (some ⟨b, 0, none⟩) 1 (fun _ => nv k n s A l c) (fun _ => lo) (fun _ => b) (by simp) (by simp) (fun _ => ⟨b, _, rfl, hlo, hb.lt, hb, ?_, fun j _ => Or.inr (Nat.le_refl _)⟩) (fun j _ => ⟨Nat.le_refl _, Nat.le_of_lt hb.lt⟩) (fun i j hij hj => by simp at hj; omega) (fun j a ha => ?_), K, N, [], some ⟨b, 0, none⟩, 1, 1, rfl, Or.inr ⟨b, _, rfl, rfl, hb, rfl, hlo⟩⟩
  · intro j hj
    obtain rfl : j = 0 := by simp at hj; omega
    exact ⟨_, _, _, _, rfl, rfl, rfl, rfl, rfl⟩
  · obtain rfl : j = 0 := by have := lt_of_get ha; simp at this; omega
    cases ha; exact hk
theorem made_two {w : World} {lo mid mid' b : Nat} {k n k' n' : Int} {s s' : List UInt8} {A A' : Option Addr} {l c l' c' : Nat} {t t' : T} (K N : Int) (hk : OwnE 92 w lo mid (nv k n s A l c) t) (hk' : OwnE 92 w mid mid' (nv k' n' s' A' l' c') t')
    (hb : Blk w b 92 [.int .i64 k, .int .i64 n, sv s, .slice A l c, .int .i64 k', .int .i64 n', sv s', .slice A' l' c']) (h1 : lo ≤ mid) (h2 : mid ≤ mid') (h3 : mid' ≤ b) :
    Made w lo (nv K N [] (some ⟨b, 0, none⟩) 2 2) (.mk K N [] [t, t']) := by
  have hlt := hb.lt
  refine ⟨OwnE.mk (ks := [t, t']) (some ⟨b, 0, none⟩) 2 (fun j => if j = 0 then nv k n s A l c else nv k' n' s' A' l' c') (fun j => if j = 0 then lo else mid) (fun j => if j = 0 then mid else mid') (by simp) (by simp) (fun _ => ⟨b, _, rfl, by omega, hlt, hb, ?_, fun j _ => Or.inr ?_⟩) (fun j _ => ?_) (fun i j hij hj => ?_) (fun j a ha => ?_), K, N, [], some ⟨b, 0, none⟩, 2, 2, rfl, Or.inr ⟨b, _, rfl, rfl, hb, rfl, by omega⟩⟩
  · intro j hj
    have : j = 0 ∨ j = 1 := by simp at hj; omega
    rcases this with rfl | rfl
    · exact ⟨_, _, _, _, rfl, rfl, rfl, rfl, rfl⟩
    · exact ⟨_, _, _, _, rfl, rfl, rfl, rfl, rfl⟩
  · split <;> omega
  · split <;> omega
  · have hij' : i = 0 ∧ j = 1 := by simp at hj; omega
    obtain ⟨rfl, rfl⟩ := hij'
    left; simp
  · have : j = 0 ∨ j = 1 := by have := lt_of_get ha; simp at this; omega
    rcases this with rfl | rfl
    · cases ha; exact hk
    · cases ha; exact hk'
theorem const4 (n : Int) (w : World) : Calls Tryz.prog 77 #[.int .i64 n] w fun e w' => e = .returned (nv 1 n [] none 0 0) ∧ Below w.heap.size w w' := by
  go_enter Tryz.func77, Tryz.ntmps77
  go_wp2_with fail
  refine bodyPost_ret (results_cell_row Tryz.results77 _ _ w.heap.size 92 _ (0, 0) _ rfl (heap_alloc_new w _) Tryz.underlying92 rfl (by kernel_rfl)) rfl ⟨rfl, (Below.refl _ _).alloc (Nat.le_refl _) _⟩
theorem var4 (s : List UInt8) (w : World) : Calls Tryz.prog 117 #[sv s] w fun e w' => e = .returned (nv 2 0 s none 0 0) ∧ Below w.heap.size w w' := by
  go_enter Tryz.func117, Tryz.ntmps117
  go_wp2_with fail
  refine bodyPost_ret (results_cell_row Tryz.results117 _ _ w.heap.size 92 _ (0, 0) _ rfl (heap_alloc_new w _) Tryz.underlying92 rfl (by kernel_rfl)) rfl ⟨rfl, (Below.refl _ _).alloc (Nat.le_refl _) _⟩
theorem op4_res (w : World) (a b c d : Obj) (cs : List Value) (hc : c = .cells cs.toArray 92) : Blk ((((w.alloc a).alloc b).alloc c).alloc d) (w.heap.size + 1 + 1) 92 cs := by
  subst hc
  have h := Blk.new ((w.alloc a).alloc b) 92 cs
  rw [size_alloc', size_alloc'] at h
  exact h.alloc _
theorem op4_row (w : World) (a b c d : Obj) (cs : List Value) (hc : d = .cells cs.toArray 92) : Blk ((((w.alloc a).alloc b).alloc c).alloc d) (w.heap.size + 1 + 1 + 1) 92 cs := by
  subst hc
  have h := Blk.new (((w.alloc a).alloc b).alloc c) 92 cs
  rw [size_alloc', size_alloc', size_alloc'] at h
  exact h
theorem op4_below (w : World) (a b c d : Obj) : Below w.heap.size w ((((w.alloc a).alloc b).alloc c).alloc d) :=
  ((((Below.refl _ _).alloc (Nat.le_refl _) _).alloc (by rw [size_alloc']; omega) _).alloc (by rw [size_alloc', size_alloc']; omega) _).alloc (by rw [size_alloc', size_alloc', size_alloc']; omega) _
theorem op4 (op k n k' n' : Int) (s s' : List UInt8) (A A' : Option Addr) (l c l' c' : Nat) (w : World) :
    Calls Tryz.prog 98 #[.int .i64 op, nv k n s A l c, nv k' n' s' A' l' c'] w fun e w' => e = .returned (nv 3 op [] (some ⟨w.heap.size + 1 + 1 + 1, 0, none⟩) 2 2) ∧
      Blk w' (w.heap.size + 1 + 1 + 1) 92 [.int .i64 k, .int .i64 n, sv s, .slice A l c, .int .i64 k', .int .i64 n', sv s', .slice A' l' c'] ∧ Below w.heap.size w w' := by
  go_enter Tryz.func98, Tryz.ntmps98
  go_wp2_with fail
  refine bodyPost_ret (results_cell_row Tryz.results98 _ _ (w.heap.size + 1 + 1) 92 _ (0, 0) _ rfl (op4_res w _ _ _ _ [.int .i64 3, .int .i64 op, sv [], .slice (some ⟨w.heap.size + 1 + 1 + 1, 0, none⟩) 2 2] rfl) Tryz.underlying92 rfl (by kernel_rfl)) rfl ⟨rfl, op4_row w _ _ _ _ _ rfl, op4_below w _ _ _ _⟩
abbrev setR (w : World) (b : Nat) (k n : Int) (s : List UInt8) (S : Value) : World := (((w.setCell ⟨b, 0, none⟩ (.int .i64 k)).setCell ⟨b, 1, none⟩ (.int .i64 n)).setCell ⟨b, 2, none⟩ (sv s)).setCell ⟨b, 3, none⟩ S
theorem setR_blk {w : World} {b : Nat} {x0 x1 x2 x3 : Value} (h : Blk w b 92 [x0, x1, x2, x3]) (k n : Int) (s : List UInt8) (S : Value) : Blk (setR w b k n s S) b 92 [.int .i64 k, .int .i64 n, sv s, S] := ((((h.set_ 0 _).set_ 1 _).set_ 2 _).set_ 3 _)
theorem setR_chg (w : World) (b : Nat) (k n : Int) (s : List UInt8) (S : Value) : Chg w (setR w b k n s S) b (b + 1) :=
  chg_trans (chg_trans (chg_trans (chg_set (Nat.le_refl b) (Nat.lt_succ_self b) _) (chg_set (Nat.le_refl b) (Nat.lt_succ_self b) _)) (chg_set (Nat.le_refl b) (Nat.lt_succ_self b) _)) (chg_set (Nat.le_refl b) (Nat.lt_succ_self b) _)
theorem setR_gb {a w : World} {row : Option Nat} (h : a.grownBy w row) {b : Nat} (hb : a.heap.size ≤ b) (k n : Int) (s : List UInt8) (S : Value) : a.grownBy (setR w b k n s S) row := gb_new (gb_new (gb_new (gb_new h hb 0 _) hb 1 _) hb 2 _) hb 3 _
theorem setR_cur {w : World} {g c b : Nat} {A : Option Addr} {xs : List UInt8} (h : CurAt w g A c xs) (hb : g < b) (k n : Int) (s : List UInt8) (S : Value) : CurAt (setR w b k n s S) g A c xs := cur_set (cur_set (cur_set (cur_set h hb 0 _) hb 1 _) hb 2 _) hb 3 _
def VarsAt (w : World) (g : Nat) (VA : Option Addr) (V : List (List UInt8)) : Prop := V = [] ∨ ∃ vb cs, VA = some ⟨vb, 0, none⟩ ∧ Blk w vb 9 cs ∧ cs.take V.length = V.map sv ∧ vb ≠ g
theorem VarsAt.drew {w w' : World} {g : Nat} {VA : Option Addr} {V : List (List UInt8)} (h : VarsAt w g VA V) (hg : w.grownBy w' (some g)) : VarsAt w' g VA V := by
  rcases h with h | ⟨vb, cs, e1, e2, e3, e4⟩
  · exact Or.inl h
  · exact Or.inr ⟨vb, cs, e1, e2.gb hg e4, e3, e4⟩
theorem VarsAt.below {w w' : World} {g : Nat} {VA : Option Addr} {V : List (List UInt8)} (h : VarsAt w g VA V) (hb : Below w.heap.size w w') : VarsAt w' g VA V := by
  rcases h with h | ⟨vb, cs, e1, e2, e3, e4⟩
  · exact Or.inl h
  · exact Or.inr ⟨vb, cs, e1, e2.below hb e2.lt, e3, e4⟩
theorem VarsAt.rd {w : World} {g : Nat} {VA : Option Addr} {V : List (List UInt8)} (h : VarsAt w g VA V) : Rd w w.heap.size VA (V.map sv) ∧ (0 < V.length → ∀ ad, VA = some ad → ad.block ≠ g) := by
  rcases h with rfl | ⟨vb, cs, rfl, e2, e3, e4⟩
  · exact ⟨Rd.nil_, fun h => by simp at h⟩
  · refine ⟨fun _ => ⟨_, rfl, e2.lt, fun j u hj => ?_⟩, fun _ ad e => by cases e; exact e4⟩
    rw [Os.add_zero, e2.cell]
    rw [← e3, List.getElem?_take] at hj
    split at hj
    · exact hj
    · cases hj
def MakeP (g : Nat) (A : Option Addr) (c : Nat) (xs : List UInt8) (n : Nat) : Prop := ∀ (d : Int) (VA : Option Addr) (vc : Nat) (V : List (List UInt8)) (w : World), -1000 ≤ d → d ≤ n → CurAt w g A c xs → VarsAt w g VA V → V.length ≤ 1048576 → (∀ s ∈ V, s.length ≤ 9) →
  Calls Tryz.prog 115 #[.pointer (some ⟨g, 0, none⟩), .slice VA V.length vc, .int .i64 d] w fun e w' => ∃ v t, e = .returned v ∧ Made w' w.heap.size v t ∧ cntT t + 1 ≤ 2 ^ n ∧ Drew w g A c xs w'
theorem make_fin {g c : Nat} {A : Option Addr} {xs : List UInt8} {w W : World} {lo : Nat} {k n : Int} {s : List UInt8} {KA : Option Addr} {l kc : Nat} {t : T} {x0 x1 x2 x3 : Value} (hgw : g < w.heap.size) (hD : Drew w g A c xs W) (hB : Blk W w.heap.size 92 [x0, x1, x2, x3])
    (hm : Made W lo (nv k n s KA l kc) t) (hlo : w.heap.size + 1 ≤ lo) :
    Blk (setR W w.heap.size k n s (.slice KA l kc)) w.heap.size 92 [.int .i64 k, .int .i64 n, sv s, .slice KA l kc] ∧ Made (setR W w.heap.size k n s (.slice KA l kc)) w.heap.size (nv k n s KA l kc) t ∧ Drew w g A c xs (setR W w.heap.size k n s (.slice KA l kc)) :=
  ⟨setR_blk hB k n s _, (hm.chg (setR_chg W w.heap.size k n s (.slice KA l kc)) hlo).mono (by omega), setR_cur hD.1 hgw k n s _, setR_gb hD.2 (Nat.le_refl _) k n s _⟩
theorem drew_tr {w w1 w2 : World} {g c : Nat} {A : Option Addr} {xs : List UInt8} (h : Drew w g A c xs w1) (k : Drew w1 g A c xs w2) : Drew w g A c xs w2 := ⟨k.1, gb_trans h.2 k.2⟩
theorem drew_be {w w1 w2 : World} {g c : Nat} {A : Option Addr} {xs : List UInt8} (h : Drew w g A c xs w1) (hb : Below w1.heap.size w1 w2) : Drew w g A c xs w2 := ⟨cur_below h.1 (hb.mono (cur_lt h.1)), gb_below h.2 hb⟩
theorem le_pow {m n : Nat} (h : m ≤ 2) (hn : 1 ≤ n) : m ≤ 2 ^ n := Nat.le_trans h (Nat.le_trans (by omega) (Nat.pow_le_pow_right (by omega) hn))
theorem make_leaf0 (g : Nat) (A : Option Addr) (c : Nat) (xs : List UInt8) (VA : Option Addr) (vc : Nat) (V : List (List UInt8)) (d : Int) (n : Nat) (hn : 1 ≤ n) (w : World) (hd : d < 2) (hc : CurAt w g A c xs) (hV : VarsAt w g VA V) (h0 : V.length = 0) :
    Calls Tryz.prog 115 #[.pointer (some ⟨g, 0, none⟩), .slice VA V.length vc, .int .i64 d] w fun e w' => ∃ v t, e = .returned v ∧ Made w' w.heap.size v t ∧ cntT t + 1 ≤ 2 ^ n ∧ Drew w g A c xs w' := by
  obtain rfl := List.eq_nil_of_length_eq_zero h0
  clear h0
  have t1 : decide (d < 2) = true := decide_eq_true hd
  have hgw := cur_lt hc
  have hc1 := cur_alloc hc (.cells #[.int .i64 0, .int .i64 0, .string ⟨#[]⟩, .slice none 0 0] 92)
  have hD1 : Drew w g A c xs (w.alloc (.cells #[.int .i64 0, .int .i64 0, .string ⟨#[]⟩, .slice none 0 0] 92)) := ⟨hc1, World.grownBy_alloc w _ _⟩
  have B1 := hid (Blk.new w 92 [.int .i64 0, .int .i64 0, .string ⟨#[]⟩, .slice none 0 0])
  have V1 := hid (hV.below (box_below w (.cells #[.int .i64 0, .int .i64 0, .string ⟨#[]⟩, .slice none 0 0] 92)))
  have D1 := hid hD1
  clear hc hV hc1 hD1
  go_enter Tryz.func115, Tryz.ntmps115
  go_wp2_with fail
  generalize (w.alloc (.cells #[.int .i64 0, .int .i64 0, .string ⟨#[]⟩, .slice none 0 0] 92)) = w1 at *
  refine (below_any g A c xs 4 _ D1.out.1 (by omega) (by omega)).mono ?_
  rintro e w2 ⟨⟨q, rfl, hq, hq2⟩, hd⟩
  have D2 := hid (drew_tr D1.out hd)
  have B2 := hid (B1.out.gb hd.2 (by omega))
  clear hd hq
  go_wp2_with fail
  refine (const4 q _).mono ?_
  rintro e w3 ⟨rfl, hb⟩
  have D3 := hid (drew_be D2.out hb)
  have B3 := hid (B2.out.below hb B2.out.lt)
  have f := make_fin hgw D3.out B3.out (made_leaf w3 (w.heap.size + 1) 1 q [] (by simp)) (Nat.le_refl _)
  have f1 := hid f.1
  have f2 := hid f.2.1
  have f3 := hid f.2.2
  clear hb f
  obtain ⟨x0, x1, x2, x3⟩ := four B3.out
  have y0 := B3.out.frozen 0
  have y1 := B3.out.frozen 1
  have y2 := B3.out.frozen 2
  have y3 := B3.out.frozen 3
  go_wp2_with fail
  exact bodyPost_ret (results_cell_row Tryz.results115 _ _ w.heap.size 92 _ (0, 0) _ rfl f1.out Tryz.underlying92 rfl (by kernel_rfl)) rfl ⟨_, _, rfl, f2.out, le_pow (by simp [cntT_mk, cntK]) hn, f3.out⟩
theorem make_leaf1 (g : Nat) (A : Option Addr) (c : Nat) (xs : List UInt8) (VA : Option Addr) (vc : Nat) (V : List (List UInt8)) (d : Int) (n : Nat) (hn : 1 ≤ n) (w : World) (hd : d < 2) (hc : CurAt w g A c xs) (hV : VarsAt w g VA V) (hpos : 0 < V.length) (hl : V.length ≤ 1048576) (hs : ∀ s ∈ V, s.length ≤ 9) :
    Calls Tryz.prog 115 #[.pointer (some ⟨g, 0, none⟩), .slice VA V.length vc, .int .i64 d] w fun e w' => ∃ v t, e = .returned v ∧ Made w' w.heap.size v t ∧ cntT t + 1 ≤ 2 ^ n ∧ Drew w g A c xs w' := by
  have t1 : decide (d < 2) = true := decide_eq_true hd
  have t2 : decide (0 < (V.length : Int)) = true := decide_eq_true (by omega)
  have hgw := cur_lt hc
  have hc1 := cur_alloc hc (.cells #[.int .i64 0, .int .i64 0, .string ⟨#[]⟩, .slice none 0 0] 92)
  have hD1 : Drew w g A c xs (w.alloc (.cells #[.int .i64 0, .int .i64 0, .string ⟨#[]⟩, .slice none 0 0] 92)) := ⟨hc1, World.grownBy_alloc w _ _⟩
  have B1 := hid (Blk.new w 92 [.int .i64 0, .int .i64 0, .string ⟨#[]⟩, .slice none 0 0])
  have V1 := hid (hV.below (box_below w (.cells #[.int .i64 0, .int .i64 0, .string ⟨#[]⟩, .slice none 0 0] 92)))
  have D1 := hid hD1
  clear hc hV hc1 hD1
  go_enter Tryz.func115, Tryz.ntmps115
  go_wp2_with fail
  generalize (w.alloc (.cells #[.int .i64 0, .int .i64 0, .string ⟨#[]⟩, .slice none 0 0] 92)) = w1 at *
  refine (once_any g A c xs 3 _ D1.out.1 (by omega) (by omega)).mono ?_
  rintro e w2 ⟨⟨b1, rfl⟩, hd⟩
  have D2 := hid (drew_tr D1.out hd)
  have B2 := hid (B1.out.gb hd.2 (by omega))
  have V2 := hid (V1.out.drew hd.2)
  clear hd
  cases b1
  · go_wp2_with fail
    refine (pick_any g A c xs VA vc V _ D2.out.1 V2.out.rd.1 (V2.out.rd.2 hpos) hpos hl).mono ?_
    rintro e w3 ⟨⟨s, hsm, rfl⟩, hd⟩
    have D3 := hid (drew_tr D2.out hd)
    have B3 := hid (B2.out.gb hd.2 (by omega))
    have hs9 := hs s hsm
    clear hd hsm
    go_wp2_with fail
    refine (var4 s _).mono ?_
    rintro e w4 ⟨rfl, hb⟩
    have D4 := hid (drew_be D3.out hb)
    have B4 := hid (B3.out.below hb B3.out.lt)
    have f := make_fin hgw D4.out B4.out (made_leaf w4 (w.heap.size + 1) 2 0 s (by omega)) (Nat.le_refl _)
    have f1 := hid f.1
    have f2 := hid f.2.1
    have f3 := hid f.2.2
    clear hb f
    obtain ⟨x0, x1, x2, x3⟩ := four B4.out
    have y0 := B4.out.frozen 0
    have y1 := B4.out.frozen 1
    have y2 := B4.out.frozen 2
    have y3 := B4.out.frozen 3
    go_wp2_with fail
    exact bodyPost_ret (results_cell_row Tryz.results115 _ _ w.heap.size 92 _ (0, 0) _ rfl f1.out Tryz.underlying92 rfl (by kernel_rfl)) rfl ⟨_, _, rfl, f2.out, le_pow (by simp [cntT_mk, cntK]) hn, f3.out⟩
  · go_wp2_with fail
    refine (below_any g A c xs 4 _ D2.out.1 (by omega) (by omega)).mono ?_
    rintro e w3 ⟨⟨q, rfl, hq, hq2⟩, hd⟩
    have D3 := hid (drew_tr D2.out hd)
    have B3 := hid (B2.out.gb hd.2 (by omega))
    clear hd hq
    go_wp2_with fail
    refine (const4 q _).mono ?_
    rintro e w4 ⟨rfl, hb⟩
    have D4 := hid (drew_be D3.out hb)
    have B4 := hid (B3.out.below hb B3.out.lt)
    have f := make_fin hgw D4.out B4.out (made_leaf w4 (w.heap.size + 1) 1 q [] (by simp)) (Nat.le_refl _)
    have f1 := hid f.1
    have f2 := hid f.2.1
    have f3 := hid f.2.2
    clear hb f
    obtain ⟨x0, x1, x2, x3⟩ := four B4.out
    have y0 := B4.out.frozen 0
    have y1 := B4.out.frozen 1
    have y2 := B4.out.frozen 2
    have y3 := B4.out.frozen 3
    go_wp2_with fail
    exact bodyPost_ret (results_cell_row Tryz.results115 _ _ w.heap.size 92 _ (0, 0) _ rfl f1.out Tryz.underlying92 rfl (by kernel_rfl)) rfl ⟨_, _, rfl, f2.out, le_pow (by simp [cntT_mk, cntK]) hn, f3.out⟩
theorem form_made {w : World} {lo : Nat} {v : Value} {t : T} (h : Made w lo v t) : ∃ k n s A l c, v = nv k n s A l c := h.1.form
theorem pow_one {a n : Nat} (h : a + 1 ≤ 2 ^ n) : 1 + a + 1 ≤ 2 ^ (n + 1) := by
  have h1 : 1 ≤ 2 ^ n := Nat.one_le_two_pow
  rw [Nat.pow_succ]; omega
theorem pow_two {a b n : Nat} (h : a + 1 ≤ 2 ^ n) (h' : b + 1 ≤ 2 ^ n) : 1 + (a + b) + 1 ≤ 2 ^ (n + 1) := by
  rw [Nat.pow_succ]; omega
def ops10 : List Int := [1, 1, 2, 2, 3, 5, 6, 7, 8, 4]
theorem make_node0 (g : Nat) (A : Option Addr) (c : Nat) (xs : List UInt8) (n : Nat) (hn1 : n ≤ 1000) (ih : MakeP g A c xs n) (VA : Option Addr) (vc : Nat) (V : List (List UInt8)) (d : Int) (w : World) (hd2 : 2 ≤ d) (hdn : d ≤ ((n + 1 : Nat) : Int)) (hc : CurAt w g A c xs) (hV : VarsAt w g VA V) (hl : V.length ≤ 1048576) (hs : ∀ s ∈ V, s.length ≤ 9) (h0 : V.length = 0) :
    Calls Tryz.prog 115 #[.pointer (some ⟨g, 0, none⟩), .slice VA V.length vc, .int .i64 d] w fun e w' => ∃ v t, e = .returned v ∧ Made w' w.heap.size v t ∧ cntT t + 1 ≤ 2 ^ (n + 1) ∧ Drew w g A c xs w' := by
  obtain rfl := List.eq_nil_of_length_eq_zero h0
  clear h0
  have t1 : decide (d < 2) = false := decide_eq_false (by omega)
  have hn : 1 ≤ n + 1 := by omega
  have hgw := cur_lt hc
  have hc1 := cur_alloc hc (.cells #[.int .i64 0, .int .i64 0, .string ⟨#[]⟩, .slice none 0 0] 92)
  have hD1 : Drew w g A c xs (w.alloc (.cells #[.int .i64 0, .int .i64 0, .string ⟨#[]⟩, .slice none 0 0] 92)) := ⟨hc1, World.grownBy_alloc w _ _⟩
  have B1 := hid (Blk.new w 92 [.int .i64 0, .int .i64 0, .string ⟨#[]⟩, .slice none 0 0])
  have V1 := hid (hV.below (box_below w (.cells #[.int .i64 0, .int .i64 0, .string ⟨#[]⟩, .slice none 0 0] 92)))
  have D1 := hid hD1
  clear hc hV hc1 hD1
  have z1 := D1.out.2.size
  have zz := hid (size_alloc' w (.cells #[.int .i64 0, .int .i64 0, .string ⟨#[]⟩, .slice none 0 0] 92))
  go_enter Tryz.func115, Tryz.ntmps115
  go_wp2_with fail
  generalize (w.alloc (.cells #[.int .i64 0, .int .i64 0, .string ⟨#[]⟩, .slice none 0 0] 92)) = w1 at *
  refine (once_any g A c xs 4 _ D1.out.1 (by omega) (by omega)).mono ?_
  rintro e w2 ⟨⟨b1, rfl⟩, hd⟩
  have u2 := hd.2.size
  have D2 := hid (drew_tr D1.out hd)
  have B2 := hid (B1.out.gb hd.2 (by omega))
  have V2 := hid (V1.out.drew hd.2)
  clear hd
  cases b1
  · go_wp2_with fail
    refine (once_any g A c xs 8 _ D2.out.1 (by omega) (by omega)).mono ?_
    rintro e w3 ⟨⟨b2, rfl⟩, hd⟩
    have u3 := hd.2.size
    have D3 := hid (drew_tr D2.out hd)
    have B3 := hid (B2.out.gb hd.2 (by omega))
    have V3 := hid (V2.out.drew hd.2)
    clear hd
    have z2 := D3.out.2.size
    cases b2
    · go_wp2_with fail
      refine (pickInt_lit g A c xs ops10 w3 D3.out.1 (by decide) (by decide)).mono ?_
      rintro e w5 ⟨⟨op, _, rfl⟩, hd⟩
      have D5 := hid (drew_tr D3.out hd)
      have B5 := hid (B3.out.gb hd.2 (by omega))
      have V5 := hid (V3.out.drew hd.2)
      have z5 := hd.2.size
      clear hd
      go_wp2_with fail
      refine (ih (d - 1) VA vc [] w5 (by omega) (by omega) D5.out.1 V5.out hl hs).mono ?_
      rintro e w6 ⟨v5, t5, rfl, hm, hcnt5, hd⟩
      obtain ⟨k5, n5, s5, A5, l5, c5, rfl⟩ := form_made hm
      have D6 := hid (drew_tr D5.out hd)
      have B6 := hid (B5.out.gb hd.2 (by omega))
      have V6 := hid (V5.out.drew hd.2)
      have z6 := hd.2.size
      have m5 := hid hm.1
      have hg5 := hid hd.2
      clear hd hm
      go_wp2_with fail
      refine (ih (d - 1) VA vc [] w6 (by omega) (by omega) D6.out.1 V6.out hl hs).mono ?_
      rintro e w7 ⟨v6, t6, rfl, hm, hcnt6, hd⟩
      obtain ⟨k6, n6, s6, A6, l6, c6, rfl⟩ := form_made hm
      have D7 := hid (drew_tr D6.out hd)
      have B7 := hid (B6.out.gb hd.2 (by omega))
      have V7 := hid (V6.out.drew hd.2)
      have z7 := hd.2.size
      have m6 := hid hm.1
      have hg6 := hid hd.2
      clear hd hm
      go_wp2_with fail
      refine (op4 op k5 n5 k6 n6 s5 s6 A5 A6 l5 c5 l6 c6 w7).mono ?_
      rintro e w8 ⟨rfl, hrow, hb⟩
      have D8 := hid (drew_be D7.out hb)
      have B8 := hid (B7.out.below hb B7.out.lt)
      have hm8 := made_two (lo := w5.heap.size) (mid := w6.heap.size) (mid' := w7.heap.size) 3 op ((m5.out.chg (chg_of_gbs hg6.out) (Or.inr (by omega))).chg (chg_of_below hb 0 0) (Or.inr (Nat.zero_le _))) (m6.out.chg (chg_of_below hb 0 0) (Or.inr (Nat.zero_le _))) hrow (by have := zz.out; omega) (by omega) (by omega)
      have f := make_fin hgw D8.out B8.out hm8 (by have := zz.out; omega)
      have f1 := hid f.1
      have f2 := hid f.2.1
      have f3 := hid f.2.2
      have hcc := hid (show cntT (.mk 3 op [] [t5, t6]) + 1 ≤ 2 ^ (n + 1) by rw [cntT_mk]; simp only [cntK, List.map_cons, List.map_nil, List.sum_cons, List.sum_nil, Nat.add_zero]; exact pow_two hcnt5 hcnt6)
      clear f hb hrow hm8
      obtain ⟨x0, x1, x2, x3⟩ := four B8.out
      have y0 := B8.out.frozen 0
      have y1 := B8.out.frozen 1
      have y2 := B8.out.frozen 2
      have y3 := B8.out.frozen 3
      go_wp2_with fail
      exact bodyPost_ret (results_cell_row Tryz.results115 _ _ w.heap.size 92 _ (0, 0) _ rfl f1.out Tryz.underlying92 rfl (by kernel_rfl)) rfl ⟨_, _, rfl, f2.out, hcc.out, f3.out⟩
    · go_wp2_with fail
      refine (ih (d - 1) VA vc [] w3 (by omega) (by omega) D3.out.1 V3.out hl hs).mono ?_
      rintro e w5 ⟨v4, t4, rfl, hm, hcnt4, hd⟩
      obtain ⟨k4, n4, s4, A4, l4, c4, rfl⟩ := form_made hm
      have D5 := hid (drew_tr D3.out hd)
      have B5 := hid (B3.out.gb hd.2 (by omega))
      have V5 := hid (V3.out.drew hd.2)
      have z5 := hd.2.size
      have m4 := hid hm.1
      have hg4 := hid hd.2
      clear hd hm
      have hb := box_below w5 (.cells #[.int .i64 k4, .int .i64 n4, sv s4, .slice A4 l4 c4] 92)
      have hrow := box_blk w5 k4 n4 s4 A4 l4 c4 92
      have D6 := hid (drew_be D5.out hb)
      have B6 := hid (B5.out.below hb B5.out.lt)
      have hm6 := made_one (lo := w3.heap.size) 4 0 (m4.out.chg (chg_of_below hb 0 0) (Or.inr (Nat.zero_le _))) hrow (by have := zz.out; omega)
      have f := make_fin hgw D6.out B6.out hm6 (by have := zz.out; omega)
      have f1 := hid f.1
      have f2 := hid f.2.1
      have f3 := hid f.2.2
      have hcc := hid (show cntT (.mk 4 0 [] [t4]) + 1 ≤ 2 ^ (n + 1) by rw [cntT_mk]; simp only [cntK, List.map_cons, List.map_nil, List.sum_cons, List.sum_nil, Nat.add_zero]; exact pow_one hcnt4)
      clear f hb hrow hm6
      obtain ⟨x0, x1, x2, x3⟩ := four B6.out
      have y0 := B6.out.frozen 0
      have y1 := B6.out.frozen 1
      have y2 := B6.out.frozen 2
      have y3 := B6.out.frozen 3
      go_wp2_with fail
      exact bodyPost_ret (results_cell_row Tryz.results115 _ _ w.heap.size 92 _ (0, 0) _ rfl f1.out Tryz.underlying92 rfl (by kernel_rfl)) rfl ⟨_, _, rfl, f2.out, hcc.out, f3.out⟩
  · go_wp2_with fail
    refine (below_any g A c xs 4 _ D2.out.1 (by omega) (by omega)).mono ?_
    rintro e w3 ⟨⟨q, rfl, hq, hq2⟩, hd⟩
    have D3 := hid (drew_tr D2.out hd)
    have B3 := hid (B2.out.gb hd.2 (by omega))
    clear hd hq
    go_wp2_with fail
    refine (const4 q _).mono ?_
    rintro e w4 ⟨rfl, hb⟩
    have D4 := hid (drew_be D3.out hb)
    have B4 := hid (B3.out.below hb B3.out.lt)
    have f := make_fin hgw D4.out B4.out (made_leaf w4 (w.heap.size + 1) 1 q [] (by simp)) (Nat.le_refl _)
    have f1 := hid f.1
    have f2 := hid f.2.1
    have f3 := hid f.2.2
    clear hb f
    obtain ⟨x0, x1, x2, x3⟩ := four B4.out
    have y0 := B4.out.frozen 0
    have y1 := B4.out.frozen 1
    have y2 := B4.out.frozen 2
    have y3 := B4.out.frozen 3
    go_wp2_with fail
    exact bodyPost_ret (results_cell_row Tryz.results115 _ _ w.heap.size 92 _ (0, 0) _ rfl f1.out Tryz.underlying92 rfl (by kernel_rfl)) rfl ⟨_, _, rfl, f2.out, le_pow (by simp [cntT_mk, cntK]) hn, f3.out⟩
theorem make_node1 (g : Nat) (A : Option Addr) (c : Nat) (xs : List UInt8) (n : Nat) (hn1 : n ≤ 1000) (ih : MakeP g A c xs n) (VA : Option Addr) (vc : Nat) (V : List (List UInt8)) (d : Int) (w : World) (hd2 : 2 ≤ d) (hdn : d ≤ ((n + 1 : Nat) : Int)) (hc : CurAt w g A c xs) (hV : VarsAt w g VA V) (hl : V.length ≤ 1048576) (hs : ∀ s ∈ V, s.length ≤ 9) (hpos : 0 < V.length) :
    Calls Tryz.prog 115 #[.pointer (some ⟨g, 0, none⟩), .slice VA V.length vc, .int .i64 d] w fun e w' => ∃ v t, e = .returned v ∧ Made w' w.heap.size v t ∧ cntT t + 1 ≤ 2 ^ (n + 1) ∧ Drew w g A c xs w' := by
  have t1 : decide (d < 2) = false := decide_eq_false (by omega)
  have hn : 1 ≤ n + 1 := by omega
  have t2 : decide (0 < (V.length : Int)) = true := decide_eq_true (by omega)
  have hgw := cur_lt hc
  have hc1 := cur_alloc hc (.cells #[.int .i64 0, .int .i64 0, .string ⟨#[]⟩, .slice none 0 0] 92)
  have hD1 : Drew w g A c xs (w.alloc (.cells #[.int .i64 0, .int .i64 0, .string ⟨#[]⟩, .slice none 0 0] 92)) := ⟨hc1, World.grownBy_alloc w _ _⟩
  have B1 := hid (Blk.new w 92 [.int .i64 0, .int .i64 0, .string ⟨#[]⟩, .slice none 0 0])
  have V1 := hid (hV.below (box_below w (.cells #[.int .i64 0, .int .i64 0, .string ⟨#[]⟩, .slice none 0 0] 92)))
  have D1 := hid hD1
  clear hc hV hc1 hD1
  have z1 := D1.out.2.size
  have zz := hid (size_alloc' w (.cells #[.int .i64 0, .int .i64 0, .string ⟨#[]⟩, .slice none 0 0] 92))
  go_enter Tryz.func115, Tryz.ntmps115
  go_wp2_with fail
  generalize (w.alloc (.cells #[.int .i64 0, .int .i64 0, .string ⟨#[]⟩, .slice none 0 0] 92)) = w1 at *
  refine (once_any g A c xs 4 _ D1.out.1 (by omega) (by omega)).mono ?_
  rintro e w2 ⟨⟨b1, rfl⟩, hd⟩
  have u2 := hd.2.size
  have D2 := hid (drew_tr D1.out hd)
  have B2 := hid (B1.out.gb hd.2 (by omega))
  have V2 := hid (V1.out.drew hd.2)
  clear hd
  cases b1
  · go_wp2_with fail
    refine (once_any g A c xs 8 _ D2.out.1 (by omega) (by omega)).mono ?_
    rintro e w3 ⟨⟨b2, rfl⟩, hd⟩
    have u3 := hd.2.size
    have D3 := hid (drew_tr D2.out hd)
    have B3 := hid (B2.out.gb hd.2 (by omega))
    have V3 := hid (V2.out.drew hd.2)
    clear hd
    have z2 := D3.out.2.size
    cases b2
    · go_wp2_with fail
      refine (pickInt_lit g A c xs ops10 w3 D3.out.1 (by decide) (by decide)).mono ?_
      rintro e w5 ⟨⟨op, _, rfl⟩, hd⟩
      have D5 := hid (drew_tr D3.out hd)
      have B5 := hid (B3.out.gb hd.2 (by omega))
      have V5 := hid (V3.out.drew hd.2)
      have z5 := hd.2.size
      clear hd
      go_wp2_with fail
      refine (ih (d - 1) VA vc V w5 (by omega) (by omega) D5.out.1 V5.out hl hs).mono ?_
      rintro e w6 ⟨v5, t5, rfl, hm, hcnt5, hd⟩
      obtain ⟨k5, n5, s5, A5, l5, c5, rfl⟩ := form_made hm
      have D6 := hid (drew_tr D5.out hd)
      have B6 := hid (B5.out.gb hd.2 (by omega))
      have V6 := hid (V5.out.drew hd.2)
      have z6 := hd.2.size
      have m5 := hid hm.1
      have hg5 := hid hd.2
      clear hd hm
      go_wp2_with fail
      refine (ih (d - 1) VA vc V w6 (by omega) (by omega) D6.out.1 V6.out hl hs).mono ?_
      rintro e w7 ⟨v6, t6, rfl, hm, hcnt6, hd⟩
      obtain ⟨k6, n6, s6, A6, l6, c6, rfl⟩ := form_made hm
      have D7 := hid (drew_tr D6.out hd)
      have B7 := hid (B6.out.gb hd.2 (by omega))
      have V7 := hid (V6.out.drew hd.2)
      have z7 := hd.2.size
      have m6 := hid hm.1
      have hg6 := hid hd.2
      clear hd hm
      go_wp2_with fail
      refine (op4 op k5 n5 k6 n6 s5 s6 A5 A6 l5 c5 l6 c6 w7).mono ?_
      rintro e w8 ⟨rfl, hrow, hb⟩
      have D8 := hid (drew_be D7.out hb)
      have B8 := hid (B7.out.below hb B7.out.lt)
      have hm8 := made_two (lo := w5.heap.size) (mid := w6.heap.size) (mid' := w7.heap.size) 3 op ((m5.out.chg (chg_of_gbs hg6.out) (Or.inr (by omega))).chg (chg_of_below hb 0 0) (Or.inr (Nat.zero_le _))) (m6.out.chg (chg_of_below hb 0 0) (Or.inr (Nat.zero_le _))) hrow (by have := zz.out; omega) (by omega) (by omega)
      have f := make_fin hgw D8.out B8.out hm8 (by have := zz.out; omega)
      have f1 := hid f.1
      have f2 := hid f.2.1
      have f3 := hid f.2.2
      have hcc := hid (show cntT (.mk 3 op [] [t5, t6]) + 1 ≤ 2 ^ (n + 1) by rw [cntT_mk]; simp only [cntK, List.map_cons, List.map_nil, List.sum_cons, List.sum_nil, Nat.add_zero]; exact pow_two hcnt5 hcnt6)
      clear f hb hrow hm8
      obtain ⟨x0, x1, x2, x3⟩ := four B8.out
      have y0 := B8.out.frozen 0
      have y1 := B8.out.frozen 1
      have y2 := B8.out.frozen 2
      have y3 := B8.out.frozen 3
      go_wp2_with fail
      exact bodyPost_ret (results_cell_row Tryz.results115 _ _ w.heap.size 92 _ (0, 0) _ rfl f1.out Tryz.underlying92 rfl (by kernel_rfl)) rfl ⟨_, _, rfl, f2.out, hcc.out, f3.out⟩
    · go_wp2_with fail
      refine (ih (d - 1) VA vc V w3 (by omega) (by omega) D3.out.1 V3.out hl hs).mono ?_
      rintro e w5 ⟨v4, t4, rfl, hm, hcnt4, hd⟩
      obtain ⟨k4, n4, s4, A4, l4, c4, rfl⟩ := form_made hm
      have D5 := hid (drew_tr D3.out hd)
      have B5 := hid (B3.out.gb hd.2 (by omega))
      have V5 := hid (V3.out.drew hd.2)
      have z5 := hd.2.size
      have m4 := hid hm.1
      have hg4 := hid hd.2
      clear hd hm
      have hb := box_below w5 (.cells #[.int .i64 k4, .int .i64 n4, sv s4, .slice A4 l4 c4] 92)
      have hrow := box_blk w5 k4 n4 s4 A4 l4 c4 92
      have D6 := hid (drew_be D5.out hb)
      have B6 := hid (B5.out.below hb B5.out.lt)
      have hm6 := made_one (lo := w3.heap.size) 4 0 (m4.out.chg (chg_of_below hb 0 0) (Or.inr (Nat.zero_le _))) hrow (by have := zz.out; omega)
      have f := make_fin hgw D6.out B6.out hm6 (by have := zz.out; omega)
      have f1 := hid f.1
      have f2 := hid f.2.1
      have f3 := hid f.2.2
      have hcc := hid (show cntT (.mk 4 0 [] [t4]) + 1 ≤ 2 ^ (n + 1) by rw [cntT_mk]; simp only [cntK, List.map_cons, List.map_nil, List.sum_cons, List.sum_nil, Nat.add_zero]; exact pow_one hcnt4)
      clear f hb hrow hm6
      obtain ⟨x0, x1, x2, x3⟩ := four B6.out
      have y0 := B6.out.frozen 0
      have y1 := B6.out.frozen 1
      have y2 := B6.out.frozen 2
      have y3 := B6.out.frozen 3
      go_wp2_with fail
      exact bodyPost_ret (results_cell_row Tryz.results115 _ _ w.heap.size 92 _ (0, 0) _ rfl f1.out Tryz.underlying92 rfl (by kernel_rfl)) rfl ⟨_, _, rfl, f2.out, hcc.out, f3.out⟩
  · go_wp2_with fail
    refine (once_any g A c xs 3 _ D2.out.1 (by omega) (by omega)).mono ?_
    rintro e w3 ⟨⟨b2, rfl⟩, hd⟩
    have u3 := hd.2.size
    have D3 := hid (drew_tr D2.out hd)
    have B3 := hid (B2.out.gb hd.2 (by omega))
    have V3 := hid (V2.out.drew hd.2)
    clear hd
    cases b2
    · go_wp2_with fail
      refine (pick_any g A c xs VA vc V _ D3.out.1 V3.out.rd.1 (V3.out.rd.2 hpos) hpos hl).mono ?_
      rintro e w4 ⟨⟨s, hsm, rfl⟩, hd⟩
      have D4 := hid (drew_tr D3.out hd)
      have B4 := hid (B3.out.gb hd.2 (by omega))
      have hs9 := hs s hsm
      clear hd hsm
      go_wp2_with fail
      refine (var4 s _).mono ?_
      rintro e w5 ⟨rfl, hb⟩
      have D5 := hid (drew_be D4.out hb)
      have B5 := hid (B4.out.below hb B4.out.lt)
      have f := make_fin hgw D5.out B5.out (made_leaf w5 (w.heap.size + 1) 2 0 s (by omega)) (Nat.le_refl _)
      have f1 := hid f.1
      have f2 := hid f.2.1
      have f3 := hid f.2.2
      clear hb f
      obtain ⟨x0, x1, x2, x3⟩ := four B5.out
      have y0 := B5.out.frozen 0
      have y1 := B5.out.frozen 1
      have y2 := B5.out.frozen 2
      have y3 := B5.out.frozen 3
      go_wp2_with fail
      exact bodyPost_ret (results_cell_row Tryz.results115 _ _ w.heap.size 92 _ (0, 0) _ rfl f1.out Tryz.underlying92 rfl (by kernel_rfl)) rfl ⟨_, _, rfl, f2.out, le_pow (by simp [cntT_mk, cntK]) hn, f3.out⟩
    · go_wp2_with fail
      refine (below_any g A c xs 4 _ D3.out.1 (by omega) (by omega)).mono ?_
      rintro e w4 ⟨⟨q, rfl, hq, hq2⟩, hd⟩
      have D4 := hid (drew_tr D3.out hd)
      have B4 := hid (B3.out.gb hd.2 (by omega))
      clear hd hq
      go_wp2_with fail
      refine (const4 q _).mono ?_
      rintro e w5 ⟨rfl, hb⟩
      have D5 := hid (drew_be D4.out hb)
      have B5 := hid (B4.out.below hb B4.out.lt)
      have f := make_fin hgw D5.out B5.out (made_leaf w5 (w.heap.size + 1) 1 q [] (by simp)) (Nat.le_refl _)
      have f1 := hid f.1
      have f2 := hid f.2.1
      have f3 := hid f.2.2
      clear hb f
      obtain ⟨x0, x1, x2, x3⟩ := four B5.out
      have y0 := B5.out.frozen 0
      have y1 := B5.out.frozen 1
      have y2 := B5.out.frozen 2
      have y3 := B5.out.frozen 3
      go_wp2_with fail
      exact bodyPost_ret (results_cell_row Tryz.results115 _ _ w.heap.size 92 _ (0, 0) _ rfl f1.out Tryz.underlying92 rfl (by kernel_rfl)) rfl ⟨_, _, rfl, f2.out, le_pow (by simp [cntT_mk, cntK]) hn, f3.out⟩
theorem make_any (g : Nat) (A : Option Addr) (c : Nat) (xs : List UInt8) (n : Nat) (hn : n ≤ 1000) : MakeP g A c xs (n + 1) := by
  induction n with
  | zero =>
    intro d VA vc V w h1 h2 hc hV hl hs
    by_cases h0 : V.length = 0
    · exact make_leaf0 g A c xs VA vc V d (0 + 1) (by omega) w (by omega) hc hV h0
    · exact make_leaf1 g A c xs VA vc V d (0 + 1) (by omega) w (by omega) hc hV (by omega) hl hs
  | succ n ih =>
    intro d VA vc V w h1 h2 hc hV hl hs
    by_cases hd : d < 2
    · by_cases h0 : V.length = 0
      · exact make_leaf0 g A c xs VA vc V d (n + 1 + 1) (by omega) w hd hc hV h0
      · exact make_leaf1 g A c xs VA vc V d (n + 1 + 1) (by omega) w hd hc hV (by omega) hl hs
    · by_cases h0 : V.length = 0
      · exact make_node0 g A c xs (n + 1) (by omega) (ih (by omega)) VA vc V d w (by omega) h2 hc hV hl hs h0
      · exact make_node1 g A c xs (n + 1) (by omega) (ih (by omega)) VA vc V d w (by omega) h2 hc hV hl hs (by omega)
theorem draw_any (g : Nat) (A : Option Addr) (c : Nat) (xs : List UInt8) (VA : Option Addr) (vc : Nat) (V : List (List UInt8)) (d : Int) (w : World) (h1 : -1000 ≤ d) (h2 : d ≤ 4) (hc : CurAt w g A c xs) (hV : VarsAt w g VA V) (hl : V.length ≤ 1048576) (hs : ∀ s ∈ V, s.length ≤ 9) :
    Calls Tryz.prog 96 #[.pointer (some ⟨g, 0, none⟩), .slice VA V.length vc, .int .i64 d] w fun e w' => ∃ v t, e = .returned v ∧ Made w' w.heap.size v t ∧ cntT t ≤ 15 ∧ Drew w g A c xs w' := by
  have hgw := cur_lt hc
  have hb0 := box_below w (.cells #[.int .i64 0, .int .i64 0, .string ⟨#[]⟩, .slice none 0 0] 92)
  have zz := hid (size_alloc' w (.cells #[.int .i64 0, .int .i64 0, .string ⟨#[]⟩, .slice none 0 0] 92))
  have hc1 := cur_alloc hc (.cells #[.int .i64 0, .int .i64 0, .string ⟨#[]⟩, .slice none 0 0] 92)
  have hD1 : Drew w g A c xs (w.alloc (.cells #[.int .i64 0, .int .i64 0, .string ⟨#[]⟩, .slice none 0 0] 92)) := ⟨hc1, World.grownBy_alloc w _ _⟩
  have D1 := hid hD1
  have B1 := hid (Blk.new w 92 [.int .i64 0, .int .i64 0, .string ⟨#[]⟩, .slice none 0 0])
  have hmk := hid (make_any g A c xs 3 (by omega) d VA vc V _ h1 h2 hc1 (hV.below hb0) hl hs)
  clear hc hV hc1 hD1 hb0
  go_enter Tryz.func96, Tryz.ntmps96
  go_wp2_with fail
  generalize (w.alloc (.cells #[.int .i64 0, .int .i64 0, .string ⟨#[]⟩, .slice none 0 0] 92)) = w1 at *
  refine hmk.out.mono ?_
  rintro e w2 ⟨v, t, rfl, hm, hcnt, hd⟩
  obtain ⟨k, n, s, KA, l, kc, rfl⟩ := form_made hm
  have hcnt : cntT t ≤ 15 := by omega
  have D2 := hid (drew_tr D1.out hd)
  have B2 := hid (B1.out.gb hd.2 (by omega))
  have u2 := hd.2.size
  have hb := box_below w2 (.cells #[.int .i64 k, .int .i64 n, sv s, .slice KA l kc] 92)
  have X3 := hid (box_blk w2 k n s KA l kc 92)
  have D3 := hid (drew_be D2.out hb)
  have B3 := hid (B2.out.below hb B2.out.lt)
  have M3 := hid (hm.below hb)
  clear hd hm hb hmk
  go_wp2_with fail
  generalize (w2.alloc (.cells #[.int .i64 k, .int .i64 n, sv s, .slice KA l kc] 92)) = w3 at *
  refine (svalidE t _ _ M3.out.1.ex (by omega)).mono ?_
  rintro e w4 ⟨rfl, hb⟩
  have D4 := hid (drew_be D3.out hb)
  have B4 := hid (B3.out.below hb B3.out.lt)
  have X4 := hid (X3.out.below hb X3.out.lt)
  have M4 := hid (M3.out.below hb)
  clear hb
  cases hok : okT t with
  | true =>
    have f := make_fin hgw D4.out B4.out M4.out (by have := zz.out; omega)
    have f1 := hid f.1
    have f2 := hid f.2.1
    have f3 := hid f.2.2
    clear f hok
    obtain ⟨x0, x1, x2, x3⟩ := four B4.out
    obtain ⟨y0, y1, y2, y3⟩ := four X4.out
    have r0 := B4.out.frozen 0
    have r1 := B4.out.frozen 1
    have r2 := B4.out.frozen 2
    have r3 := B4.out.frozen 3
    go_wp2_with fail
    exact bodyPost_ret (results_cell_row Tryz.results96 _ _ w.heap.size 92 _ (0, 0) _ rfl f1.out Tryz.underlying92 rfl (by kernel_rfl)) rfl ⟨_, _, rfl, f2.out, hcnt, f3.out⟩
  | false =>
    clear hok
    go_wp2_with fail
    refine (const4 1 _).mono ?_
    rintro e w5 ⟨rfl, hb⟩
    have D5 := hid (drew_be D4.out hb)
    have B5 := hid (B4.out.below hb B4.out.lt)
    have f := make_fin hgw D5.out B5.out (made_leaf w5 (w.heap.size + 1) 1 1 [] (by simp)) (Nat.le_refl _)
    have f1 := hid f.1
    have f2 := hid f.2.1
    have f3 := hid f.2.2
    have hcc := hid (show cntT (.mk 1 1 [] []) ≤ 15 by simp [cntT_mk, cntK])
    clear f hb
    obtain ⟨x0, x1, x2, x3⟩ := four B5.out
    have r0 := B5.out.frozen 0
    have r1 := B5.out.frozen 1
    have r2 := B5.out.frozen 2
    have r3 := B5.out.frozen 3
    go_wp2_with fail
    exact bodyPost_ret (results_cell_row Tryz.results96 _ _ w.heap.size 92 _ (0, 0) _ rfl f1.out Tryz.underlying92 rfl (by kernel_rfl)) rfl ⟨_, _, rfl, f2.out, hcc.out, f3.out⟩
end Go.Proofs.YtnmomlaimffonaaGreat.Dr
