/- The cursor of the draws: l1New, l1Byte, l1Below and what picks by them. -/
import Derived.Test.YtnmomlaimffonaaGreatZCom
set_option maxHeartbeats 1000000
set_option maxRecDepth 100000
namespace Go.Proofs.YtnmomlaimffonaaGreat.Cur
open Go.RowKit Go.Lib Com Mem
def CurAt (w : World) (g : Nat) (A : Option Addr) (c : Nat) (xs : List UInt8) : Prop :=
  ∃ (i : Nat) (h : Int), Blk w g 75 [.slice A xs.length c, .int .i64 i, .int .i64 h] ∧ i ≤ xs.length ∧ Rd w g A (xs.map bv) ∧ xs.length ≤ 1048576 ∧ -9223372036854775808 ≤ h ∧ h ≤ 9223372036854775807
def Drew (w : World) (g : Nat) (A : Option Addr) (c : Nat) (xs : List UInt8) (w' : World) : Prop := CurAt w' g A c xs ∧ w.grownBy w' (some g)
theorem and255 (n : Int) : bits .and .i64 n 255 = n % 256 := by
  have hm : (BitVec.ofInt 64 255).toNat = 2 ^ 8 - 1 := by decide
  have key : (BitVec.ofInt 64 n &&& BitVec.ofInt 64 255).toNat = (n % ((2 ^ 64 : Nat) : Int)).toNat % 2 ^ 8 := by
    rw [BitVec.toNat_and, BitVec.toNat_ofInt, hm, Nat.and_two_pow_sub_one_eq_mod]
  show IntKind.i64.wrap ((BitVec.ofInt 64 n &&& BitVec.ofInt 64 255).toNat : Nat) = n % 256
  rw [key, IntKind.wrap_i64]
  omega
theorem and30 (n : Int) : bits .and .i64 n 1073741823 = n % 1073741824 := by
  have hm : (BitVec.ofInt 64 1073741823).toNat = 2 ^ 30 - 1 := by decide
  have key : (BitVec.ofInt 64 n &&& BitVec.ofInt 64 1073741823).toNat = (n % ((2 ^ 64 : Nat) : Int)).toNat % 2 ^ 30 := by
    rw [BitVec.toNat_and, BitVec.toNat_ofInt, hm, Nat.and_two_pow_sub_one_eq_mod]
  show IntKind.i64.wrap ((BitVec.ofInt 64 n &&& BitVec.ofInt 64 1073741823).toNat : Nat) = n % 1073741824
  rw [key, IntKind.wrap_i64]
  omega
theorem byte_any (g : Nat) (A : Option Addr) (c : Nat) (xs : List UInt8) (w : World) (hc : CurAt w g A c xs) :
    Calls Tryz.prog 78 #[.pointer (some ⟨g, 0, none⟩)] w fun e w' => (∃ x : Nat, x ≤ 255 ∧ e = .returned (.int .i64 x)) ∧ Drew w g A c xs w' := by
  obtain ⟨i, h, hblk, hi, hrd, hn, h1, h2⟩ := hc
  have c0 : w.cell? ⟨g, 0, none⟩ = some (.slice A xs.length c) := hblk.cell 0
  have c1 : w.cell? ⟨g, 1, none⟩ = some (.int .i64 i) := hblk.cell 1
  have c2 : w.cell? ⟨g, 2, none⟩ = some (.int .i64 h) := hblk.cell 2
  have f2 := hblk.frozen 2
  have hblk := hid hblk
  go_enter Tryz.func78, Tryz.ntmps78
  go_wp2_with fail
  obtain ⟨H, hH, hH1, hH2⟩ : ∃ H : Int, wrap64 (wrap64 (h * 6364136223846793005) + 1442695040888963407) = H ∧ -9223372036854775808 ≤ H ∧ H ≤ 9223372036854775807 := ⟨_, rfl, by unfold wrap64; omega, by unfold wrap64; omega⟩
  rw [hH]
  clear hH
  have hB1 := hblk.out.set_ 2 (.int .i64 H)
  have hG1 := gb_set (gb_refl w (some g)) 2 (.int .i64 H)
  clear c0 c1 c2 f2
  have hr1 : Rd (w.setCell ⟨g, 2, none⟩ (.int .i64 H)) g A (xs.map bv) := hrd.below ((Below.refl g w).setCell (Nat.le_refl _) _)
  generalize w.setCell ⟨g, 2, none⟩ (.int .i64 H) = w1 at *
  have c0 : w1.cell? ⟨g, 0, none⟩ = some (.slice A xs.length c) := hB1.cell 0
  have c1 : w1.cell? ⟨g, 1, none⟩ = some (.int .i64 i) := hB1.cell 1
  have c2 : w1.cell? ⟨g, 2, none⟩ = some (.int .i64 H) := hB1.cell 2
  have f1 := hB1.frozen 1
  have hB1 := hid hB1
  clear hblk hrd
  go_quiet (fail)
  rw [and255]
  obtain ⟨x, hx, hx2⟩ : ∃ x : Nat, bits BinOp.xor IntKind.i64 (H / 8589934592) (H / 35184372088832) % 256 = (x : Int) ∧ x ≤ 255 := ⟨(bits BinOp.xor IntKind.i64 (H / 8589934592) (H / 35184372088832) % 256).toNat, by omega, by omega⟩
  rw [hx]
  clear hx
  have hG1 := hid hG1
  by_cases hlt : i < xs.length
  · have t1 : decide ((i : Int) < (xs.length : Int)) = true := decide_eq_true (by omega)
    go_wp2_with fail
    go_quiet (fail)
    go_wp2_with fail
    obtain ⟨ad, rfl, _, hcb⟩ := hr1.at_ (k := i) (by simpa using hlt)
    rw [List.getElem_map] at hcb
    unfold bv at hcb
    have hb8 : (xs[i]).toNat ≤ 255 := by have := (xs[i]).toNat_lt; omega
    generalize (xs[i]).toNat = y at hcb hb8
    go_quiet (fail)
    rw [and255]
    obtain ⟨z, hz, hz2⟩ : ∃ z : Nat, ((x : Int) + (y : Int)) % 256 = (z : Int) ∧ z ≤ 255 := ⟨(((x : Int) + (y : Int)) % 256).toNat, by omega, by omega⟩
    rw [hz]
    clear hz
    go_wp2_with fail
    go_ret
    refine ⟨⟨z, hz2, rfl⟩, ⟨i + 1, H, ?_, hlt, ?_, hn, hH1, hH2⟩, ?_⟩
    · have := hB1.out.set_ 1 (.int .i64 ((i : Int) + 1))
      exact this
    · exact hr1.below ((bdr (Below.refl g w1) _).setCell (p := ⟨g, 1, none⟩) (Nat.le_refl g) _)
    · exact gb_set (gb_below hG1.out (bdr (Below.refl _ _) _)) 1 _
  · have t1 : decide ((i : Int) < (xs.length : Int)) = false := decide_eq_false (by omega)
    go_wp2_with fail
    go_quiet (fail)
    go_wp2_with fail
    go_ret
    exact ⟨⟨x, hx2, rfl⟩, ⟨i, H, hB1.out, hi, hr1, hn, hH1, hH2⟩, gb_below hG1.out (bdr (bdr (Below.refl _ _) _) _)⟩
set_option maxRecDepth 100000 in
theorem new_any (A : Option Addr) (c : Nat) (xs : List UInt8) (w : World) (hr : Rd w w.heap.size A (xs.map bv)) (hn : xs.length ≤ 1048576) :
    Calls Tryz.prog 27 #[.slice A xs.length c] w fun e w' => ∃ g, w.heap.size ≤ g ∧ e = .returned (.pointer (some ⟨g, 0, none⟩)) ∧ CurAt w' g A c xs ∧ Below w.heap.size w w' := by
  go_enter Tryz.func27, Tryz.ntmps27
  go_wp2_with fail
  go_loop [3, 4] (fun h i => ∃ (k : Nat) (H : Int), k ≤ xs.length ∧ i = .int .i64 k ∧ h = .int .i64 H ∧ 0 ≤ H ∧ H ≤ 1073741823) (fun _ i => xs.length - (Go.RowKit.intOf i).toNat)
  case atStart => exact ⟨0, _, Nat.zero_le _, rfl, rfl, by omega, by omega⟩
  case round =>
    obtain ⟨k, H, hk, rfl, rfl, hH1, hH2⟩ := hrel
    by_cases hlt : k < xs.length ∧ k < 4000
    · obtain ⟨hlt, h4⟩ := hlt
      have t1 : decide ((k : Int) < (xs.length : Int)) = true := decide_eq_true (by omega)
      have t2 : decide ((k : Int) < 4000) = true := decide_eq_true (by omega)
      obtain ⟨ad, rfl, _, hcb⟩ := hr.at_ (k := k) (by simpa using hlt)
      rw [List.getElem_map] at hcb
      unfold bv at hcb
      have hb8 : (xs[k]).toNat ≤ 255 := by have := (xs[k]).toNat_lt; omega
      generalize (xs[k]).toNat = y at hcb hb8
      go_wp2_with fail
      exact ⟨⟨k + 1, _, hlt, by go_num, rfl, by rw [and30]; omega, by rw [and30]; omega⟩, by simp [Go.RowKit.intOf]; omega⟩
    · have hcase : decide (k < xs.length) = false ∨ (decide (k < xs.length) = true ∧ decide ((k : Int) < 4000) = false) := by
        by_cases h : k < xs.length
        · exact Or.inr ⟨decide_eq_true (by omega), decide_eq_false (by omega)⟩
        · exact Or.inl (decide_eq_false (by omega))
      rcases hcase with t1 | ⟨t1, t2⟩
      all_goals
        clear hlt
        go_wp2_with fail
        go_ret
        have hB := Blk.new w 75 [.slice A xs.length c, .int .i64 ((0 : Nat) : Int), .int .i64 H]
        exact ⟨w.heap.size, Nat.le_refl _, rfl, ⟨0, H, hB, Nat.zero_le _, hr.below ((Below.refl _ _).alloc (Nat.le_refl _) _), hn, by omega, by omega⟩, (Below.refl _ _).alloc (Nat.le_refl _) _⟩
def Under (n : Int) (e : Ending) : Prop := ∃ x : Nat, e = .returned (.int .i64 x) ∧ ((x : Int) < n ∨ x = 0) ∧ x ≤ 9223372036854775807
theorem below_any (g : Nat) (A : Option Addr) (c : Nat) (xs : List UInt8) (n : Int) (w : World) (hc : CurAt w g A c xs) (hn1 : -9223372036854775808 ≤ n) (hn2 : n ≤ 9223372036854775807) :
    Calls Tryz.prog 55 #[.pointer (some ⟨g, 0, none⟩), .int .i64 n] w fun e w' => Under n e ∧ Drew w g A c xs w' := by
  by_cases h0 : n ≤ 0
  · have t1 : decide (n ≤ 0) = true := decide_eq_true h0
    go_enter Tryz.func55, Tryz.ntmps55
    go_wp2_with fail
    go_ret
    exact ⟨⟨0, rfl, Or.inr rfl, by omega⟩, hc, gb_refl _ _⟩
  have t1 : decide (n ≤ 0) = false := decide_eq_false h0
  by_cases h1 : n ≤ 256
  · have t2 : decide (n ≤ 256) = true := decide_eq_true h1
    have hb := hid (byte_any g A c xs w hc)
    clear hc
    go_enter Tryz.func55, Tryz.ntmps55
    go_wp2_with fail
    refine hb.out.mono ?_
    rintro e w1 ⟨⟨x, hx, rfl⟩, hd⟩
    have hd := hid hd
    have hm : 0 ≤ (x : Int) % n ∧ (x : Int) % n < n := ⟨Int.emod_nonneg _ (by omega), Int.emod_lt_of_pos _ (by omega)⟩
    go_wp2_with fail
    obtain ⟨q, hq⟩ : ∃ q : Nat, (x : Int) % n = (q : Int) := ⟨((x : Int) % n).toNat, by omega⟩
    rw [hq] at hm ⊢
    go_ret
    exact ⟨⟨q, rfl, Or.inl hm.2, by omega⟩, hd.out⟩
  · have t2 : decide (n ≤ 256) = false := decide_eq_false h1
    have hb := hid (fun w1 h => byte_any g A c xs w1 h)
    go_enter Tryz.func55, Tryz.ntmps55
    go_wp2_with fail
    refine (hb.out _ hc).mono ?_
    rintro e w1 ⟨⟨x, hx, rfl⟩, hc1, hg1⟩
    go_wp2_with fail
    refine (hb.out _ hc1).mono ?_
    rintro e w2 ⟨⟨y, hy, rfl⟩, hc2, hg2⟩
    go_wp2_with fail
    refine (hb.out _ hc2).mono ?_
    rintro e w3 ⟨⟨z, hz, rfl⟩, hc3, hg3⟩
    go_wp2_with fail
    refine (hb.out _ hc3).mono ?_
    rintro e w4 ⟨⟨u, hu, rfl⟩, hc4, hg4⟩
    have hm : 0 ≤ ((x : Int) * 16777216 + (y : Int) * 65536 + (z : Int) * 256 + (u : Int)) % n ∧ ((x : Int) * 16777216 + (y : Int) * 65536 + (z : Int) * 256 + (u : Int)) % n < n := ⟨Int.emod_nonneg _ (by omega), Int.emod_lt_of_pos _ (by omega)⟩
    go_wp2_with fail
    obtain ⟨q, hq⟩ : ∃ q : Nat, ((x : Int) * 16777216 + (y : Int) * 65536 + (z : Int) * 256 + (u : Int)) % n = (q : Int) := ⟨(((x : Int) * 16777216 + (y : Int) * 65536 + (z : Int) * 256 + (u : Int)) % n).toNat, by omega⟩
    rw [hq] at hm ⊢
    go_ret
    exact ⟨⟨q, rfl, Or.inl hm.2, by omega⟩, hc4, gb_trans hg1 (gb_trans hg2 (gb_trans hg3 hg4))⟩
theorem once_any (g : Nat) (A : Option Addr) (c : Nat) (xs : List UInt8) (n : Int) (w : World) (hc : CurAt w g A c xs) (hn1 : -9223372036854775808 ≤ n) (hn2 : n ≤ 9223372036854775807) :
    Calls Tryz.prog 51 #[.pointer (some ⟨g, 0, none⟩), .int .i64 n] w fun e w' => (∃ b, e = .returned (.bool b)) ∧ Drew w g A c xs w' := by
  have hb := hid (below_any g A c xs n w hc hn1 hn2)
  clear hc
  go_enter Tryz.func51, Tryz.ntmps51
  go_wp2_with fail
  refine hb.out.mono ?_
  rintro e w1 ⟨⟨q, rfl, hq, hq2⟩, hd⟩
  have hd := hid hd
  clear hq
  go_wp2_with fail
  go_ret
  exact ⟨⟨_, rfl⟩, hd.out⟩
theorem pick_any (g : Nat) (A : Option Addr) (c : Nat) (xs : List UInt8) (L : Option Addr) (cap : Nat) (l : List (List UInt8)) (w : World) (hc : CurAt w g A c xs) (hL : Rd w w.heap.size L (l.map sv)) (hB : ∀ ad, L = some ad → ad.block ≠ g) (h0 : 0 < l.length) (hl : l.length ≤ 1048576) :
    Calls Tryz.prog 75 #[.pointer (some ⟨g, 0, none⟩), .slice L l.length cap] w fun e w' => (∃ s ∈ l, e = .returned (sv s)) ∧ Drew w g A c xs w' := by
  have hb := hid (below_any g A c xs (l.length : Int) w hc (by omega) (by omega))
  clear hc
  go_enter Tryz.func75, Tryz.ntmps75
  go_wp2_with fail
  refine hb.out.mono ?_
  rintro e w1 ⟨⟨q, rfl, hq, hq2⟩, hc1, hg1⟩
  have hlt : q < l.length := by omega
  obtain ⟨ad, hL2, hab, hcl⟩ := hL.at_ (k := q) (by simpa using hlt)
  subst hL2
  have hcell : w1.cell? (ad.add q) = some (sv l[q]) := by
    rw [List.getElem_map] at hcl
    rw [← hcl]
    exact World.cell?_of_block (hg1.block (ad.add q).block (by rw [add_block]; exact hab) (fun e => hB ad rfl (by rw [add_block] at e; exact Option.some.inj e)))
  clear hcl hq
  go_wp2_with fail
  go_ret
  exact ⟨⟨l[q], List.getElem_mem hlt, rfl⟩, hc1, hg1⟩
theorem pickInt_any (g : Nat) (A : Option Addr) (c : Nat) (xs : List UInt8) (L : Option Addr) (cap : Nat) (l : List Int) (w : World) (hc : CurAt w g A c xs) (hL : Rd w w.heap.size L (l.map (Value.int .i64))) (hB : ∀ ad, L = some ad → ad.block ≠ g) (h0 : 0 < l.length) (hl : l.length ≤ 1048576) :
    Calls Tryz.prog 29 #[.pointer (some ⟨g, 0, none⟩), .slice L l.length cap] w fun e w' => (∃ s ∈ l, e = .returned (.int .i64 s)) ∧ Drew w g A c xs w' := by
  have hb := hid (below_any g A c xs (l.length : Int) w hc (by omega) (by omega))
  clear hc
  go_enter Tryz.func29, Tryz.ntmps29
  go_wp2_with fail
  refine hb.out.mono ?_
  rintro e w1 ⟨⟨q, rfl, hq, hq2⟩, hc1, hg1⟩
  have hlt : q < l.length := by omega
  obtain ⟨ad, hL2, hab, hcl⟩ := hL.at_ (k := q) (by simpa using hlt)
  subst hL2
  have hcell : w1.cell? (ad.add q) = some (.int .i64 l[q]) := by
    rw [List.getElem_map] at hcl
    rw [← hcl]
    exact World.cell?_of_block (hg1.block (ad.add q).block (by rw [add_block]; exact hab) (fun e => hB ad rfl (by rw [add_block] at e; exact Option.some.inj e)))
  clear hcl hq
  go_wp2_with fail
  go_ret
  exact ⟨⟨l[q], List.getElem_mem hlt, rfl⟩, hc1, hg1⟩
end Go.Proofs.YtnmomlaimffonaaGreat.Cur
set_option maxRecDepth 100000
namespace Go.Proofs.YtnmomlaimffonaaGreat.Dr
open Go.RowKit Go.Lib Com Mem Cur
theorem cur_below {w w' : World} {g c : Nat} {A : Option Addr} {xs : List UInt8} (h : CurAt w g A c xs) (hb : Below (g + 1) w w') : CurAt w' g A c xs := by
  obtain ⟨i, H, hblk, hi, hr, hn, h1, h2⟩ := h
  exact ⟨i, H, hblk.below hb (by omega), hi, hr.below (hb.mono (by omega)), hn, h1, h2⟩
theorem cur_lt {w : World} {g c : Nat} {A : Option Addr} {xs : List UInt8} (h : CurAt w g A c xs) : g < w.heap.size := by
  obtain ⟨i, H, hblk, _⟩ := h; exact hblk.lt
theorem cur_alloc {w : World} {g c : Nat} {A : Option Addr} {xs : List UInt8} (h : CurAt w g A c xs) (o : Obj) : CurAt (w.alloc o) g A c xs :=
  cur_below h ((Below.refl _ _).alloc (cur_lt h) o)
theorem drew_alloc {w w' : World} {g c : Nat} {A : Option Addr} {xs : List UInt8} {o : Obj} (h : Drew (w.alloc o) g A c xs w') : Drew w g A c xs w' :=
  ⟨h.1, gb_trans (World.grownBy_alloc w o _) h.2⟩
theorem pickInt_lit (g : Nat) (A : Option Addr) (c : Nat) (xs : List UInt8) (l : List Int) (w : World) (hc : CurAt w g A c xs) (h0 : 0 < l.length) (hl : l.length ≤ 1048576) :
    Calls Tryz.prog 29 #[.pointer (some ⟨g, 0, none⟩), .slice (some ⟨w.heap.size, 0, none⟩) l.length l.length] (w.alloc (.cells (l.map (Value.int .i64)).toArray 3)) fun e w' => (∃ s ∈ l, e = .returned (.int .i64 s)) ∧ Drew w g A c xs w' :=
  (pickInt_any g A c xs (some ⟨w.heap.size, 0, none⟩) l.length l _ (cur_alloc hc _) ((Blk.new w 3 (l.map (Value.int .i64))).rd.more (by simp)) (fun ad e => by cases e; exact fun h => by have := cur_lt hc; simp at h; omega) h0 hl).mono fun _ _ h => ⟨h.1, drew_alloc h.2⟩
theorem pick_lit (g : Nat) (A : Option Addr) (c : Nat) (xs : List UInt8) (l : List (List UInt8)) (w : World) (hc : CurAt w g A c xs) (h0 : 0 < l.length) (hl : l.length ≤ 1048576) :
    Calls Tryz.prog 75 #[.pointer (some ⟨g, 0, none⟩), .slice (some ⟨w.heap.size, 0, none⟩) l.length l.length] (w.alloc (.cells (l.map sv).toArray 9)) fun e w' => (∃ s ∈ l, e = .returned (sv s)) ∧ Drew w g A c xs w' :=
  (pick_any g A c xs (some ⟨w.heap.size, 0, none⟩) l.length l _ (cur_alloc hc _) ((Blk.new w 9 (l.map sv)).rd.more (by simp)) (fun ad e => by cases e; exact fun h => by have := cur_lt hc; simp at h; omega) h0 hl).mono fun _ _ h => ⟨h.1, drew_alloc h.2⟩
theorem drew_below {w w1 w2 : World} {g c : Nat} {A : Option Addr} {xs : List UInt8} (hg : w.heap.size ≤ g) (hb : Below w.heap.size w w1) (h : Drew w1 g A c xs w2) : Below w.heap.size w w2 := bgb hb h.2 hb.size hg
theorem dr_then {w w1 w2 : World} {g c : Nat} {A : Option Addr} {xs : List UInt8} (h : Drew w g A c xs w1) (k : Drew w1 g A c xs w2) : Drew w g A c xs w2 := ⟨k.1, gb_trans h.2 k.2⟩
end Go.Proofs.YtnmomlaimffonaaGreat.Dr
