/- The cursor of the draws: l1New, l1Byte, l1Below and what picks by them. -/
import Derived.Test.YtklcbagddijkgaaGreatDoorZCom
set_option maxRecDepth 100000
namespace Go.Proofs.YtklcbagddijkgaaGreatDoor.Cur
open Go.RowKit Go.Lib Go.Proofs.YtklcbagddijkgaaGreatDoor.Com Go.Proofs.YtklcbagddijkgaaGreatDoor.Mem

/-- block g is a cursor over the bytes xs at A -/
def CurAt (w : World) (g : Nat) (A : Option Addr) (c : Nat) (xs : List UInt8) : Prop :=
  ∃ (i : Nat) (h : Int), Blk w g 94 [.slice A xs.length c, .int .i64 i, .int .i64 h] ∧ i ≤ xs.length ∧ Rd w g A (xs.map bv) ∧ xs.length ≤ 1048576 ∧ -9223372036854775808 ≤ h ∧ h ≤ 9223372036854775807

/-- what a draw leaves -/
def Drew (w : World) (g : Nat) (A : Option Addr) (c : Nat) (xs : List UInt8) (w' : World) : Prop := CurAt w' g A c xs ∧ w.grownBy w' (some g)

theorem and255 (n : Int) : bits .and .i64 n 255 = n % 256 := by
  have hm : (BitVec.ofInt 64 255).toNat = 2 ^ 8 - 1 := by decide
  have key : (BitVec.ofInt 64 n &&& BitVec.ofInt 64 255).toNat = (n % ((2 ^ 64 : Nat) : Int)).toNat % 2 ^ 8 := by
    rw [BitVec.toNat_and, BitVec.toNat_ofInt, hm, Nat.and_two_pow_sub_one_eq_mod]
  show IntKind.i64.wrap ((BitVec.ofInt 64 n &&& BitVec.ofInt 64 255).toNat : Nat) = n % 256
  rw [key, IntKind.wrap_i64]
  omega
set_option maxHeartbeats 1000000 in
theorem byte_any (g : Nat) (A : Option Addr) (c : Nat) (xs : List UInt8) (w : World) (hc : CurAt w g A c xs) :
    Calls Tryz.prog 83 #[.pointer (some ⟨g, 0, none⟩)] w fun e w' => (∃ x : Nat, x ≤ 255 ∧ e = .returned (.int .i64 x)) ∧ Drew w g A c xs w' := by
  obtain ⟨i, h, hblk, hi, hrd, hn, h1, h2⟩ := hc
  have c0 : w.cell? ⟨g, 0, none⟩ = some (.slice A xs.length c) := hblk.cell 0
  have c1 : w.cell? ⟨g, 1, none⟩ = some (.int .i64 i) := hblk.cell 1
  have c2 : w.cell? ⟨g, 2, none⟩ = some (.int .i64 h) := hblk.cell 2
  have f2 := hblk.frozen 2
  have hblk := hid hblk
  go_enter Tryz.func83, Tryz.ntmps83
  go_wp2_with fail
  obtain ⟨H, hH, hH1, hH2⟩ : ∃ H : Int, wrap64 (wrap64 (h * 6364136223846793005) + 1442695040888963407) = H ∧ -9223372036854775808 ≤ H ∧ H ≤ 9223372036854775807 := ⟨_, rfl, by unfold wrap64; omega, by unfold wrap64; omega⟩
  rw [hH]
  clear hH
  have hB1 := hblk.out.set_ 2 (.int .i64 H)
  have hG1 := gb_set (gb_refl w (some g)) 2 (.int .i64 H)
  clear c0 c1 c2 f2
  have hr1 : Rd (w.setCell ⟨g, 2, none⟩ (.int .i64 H)) g A (xs.map bv) := hrd.below ((Below.refl g w).setCell (Nat.le_refl _) _)
  generalize w.setCell ⟨g, 2, none⟩ (.int .i64 H) = w1 at *
  have c0 : w1.cell? ⟨g, 0, none⟩ = some (.slice A xs.length c) := hB1.cell 0
  have c1 : w1.cell? ⟨g, 1, none⟩ = some (.int .i64 i) := hB1.cell 1
  have c2 : w1.cell? ⟨g, 2, none⟩ = some (.int .i64 H) := hB1.cell 2
  have f1 := hB1.frozen 1
  have hB1 := hid hB1
  clear hblk hrd
  go_quiet (fail)
  rw [and255]
  obtain ⟨x, hx, hx2⟩ : ∃ x : Nat, bits BinOp.xor IntKind.i64 (H / 8589934592) (H / 35184372088832) % 256 = (x : Int) ∧ x ≤ 255 := ⟨(bits BinOp.xor IntKind.i64 (H / 8589934592) (H / 35184372088832) % 256).toNat, by omega, by omega⟩
  rw [hx]
  clear hx
  have hG1 := hid hG1
  by_cases hlt : i < xs.length
  · have t1 : decide ((i : Int) < (xs.length : Int)) = true := decide_eq_true (by omega)
    go_wp2_with fail
    go_quiet (fail)
    go_wp2_with fail
    obtain ⟨ad, rfl, _, hcb⟩ := hr1.at_ (k := i) (by simpa using hlt)
    rw [List.getElem_map] at hcb
    unfold bv at hcb
    have hb8 : (xs[i]).toNat ≤ 255 := by have := (xs[i]).toNat_lt; omega
    generalize (xs[i]).toNat = y at hcb hb8
    go_quiet (fail)
    rw [and255]
    obtain ⟨z, hz, hz2⟩ : ∃ z : Nat, ((x : Int) + (y : Int)) % 256 = (z : Int) ∧ z ≤ 255 := ⟨(((x : Int) + (y : Int)) % 256).toNat, by omega, by omega⟩
    rw [hz]
    clear hz
    go_wp2_with fail
    go_ret
    refine ⟨⟨z, hz2, rfl⟩, ⟨i + 1, H, ?_, hlt, ?_, hn, hH1, hH2⟩, ?_⟩
    · have := hB1.out.set_ 1 (.int .i64 ((i : Int) + 1))
      exact this
    · exact hr1.below ((bdr (Below.refl g w1) _).setCell (p := ⟨g, 1, none⟩) (Nat.le_refl g) _)
    · exact gb_set (gb_below hG1.out (bdr (Below.refl _ _) _)) 1 _
  · have t1 : decide ((i : Int) < (xs.length : Int)) = false := decide_eq_false (by omega)
    go_wp2_with fail
    go_quiet (fail)
    go_wp2_with fail
    go_ret
    exact ⟨⟨x, hx2, rfl⟩, ⟨i, H, hB1.out, hi, hr1, hn, hH1, hH2⟩, gb_below hG1.out (bdr (bdr (Below.refl _ _) _) _)⟩

/-- what l1Below answers -/
def Under (n : Int) (e : Ending) : Prop := ∃ x : Nat, e = .returned (.int .i64 x) ∧ ((x : Int) < n ∨ x = 0) ∧ x ≤ 9223372036854775807

set_option maxHeartbeats 1000000 in
theorem below_any (g : Nat) (A : Option Addr) (c : Nat) (xs : List UInt8) (n : Int) (w : World) (hc : CurAt w g A c xs) (hn1 : -9223372036854775808 ≤ n) (hn2 : n ≤ 9223372036854775807) :
    Calls Tryz.prog 36 #[.pointer (some ⟨g, 0, none⟩), .int .i64 n] w fun e w' => Under n e ∧ Drew w g A c xs w' := by
  by_cases h0 : n ≤ 0
  · have t1 : decide (n ≤ 0) = true := decide_eq_true h0
    go_enter Tryz.func36, Tryz.ntmps36
    go_wp2_with fail
    go_ret
    exact ⟨⟨0, rfl, Or.inr rfl, by omega⟩, hc, gb_refl _ _⟩
  have t1 : decide (n ≤ 0) = false := decide_eq_false h0
  by_cases h1 : n ≤ 256
  · have t2 : decide (n ≤ 256) = true := decide_eq_true h1
    have hb := hid (byte_any g A c xs w hc)
    clear hc
    go_enter Tryz.func36, Tryz.ntmps36
    go_wp2_with fail
    refine hb.out.mono ?_
    rintro e w1 ⟨⟨x, hx, rfl⟩, hd⟩
    have hd := hid hd
    have hm : 0 ≤ (x : Int) % n ∧ (x : Int) % n < n := ⟨Int.emod_nonneg _ (by omega), Int.emod_lt_of_pos _ (by omega)⟩
    go_wp2_with fail
    obtain ⟨q, hq⟩ : ∃ q : Nat, (x : Int) % n = (q : Int) := ⟨((x : Int) % n).toNat, by omega⟩
    rw [hq] at hm ⊢
    go_ret
    exact ⟨⟨q, rfl, Or.inl hm.2, by omega⟩, hd.out⟩
  · have t2 : decide (n ≤ 256) = false := decide_eq_false h1
    have hb := hid (fun w1 h => byte_any g A c xs w1 h)
    go_enter Tryz.func36, Tryz.ntmps36
    go_wp2_with fail
    refine (hb.out _ hc).mono ?_
    rintro e w1 ⟨⟨x, hx, rfl⟩, hc1, hg1⟩
    go_wp2_with fail
    refine (hb.out _ hc1).mono ?_
    rintro e w2 ⟨⟨y, hy, rfl⟩, hc2, hg2⟩
    go_wp2_with fail
    refine (hb.out _ hc2).mono ?_
    rintro e w3 ⟨⟨z, hz, rfl⟩, hc3, hg3⟩
    go_wp2_with fail
    refine (hb.out _ hc3).mono ?_
    rintro e w4 ⟨⟨u, hu, rfl⟩, hc4, hg4⟩
    have hm : 0 ≤ ((x : Int) * 16777216 + (y : Int) * 65536 + (z : Int) * 256 + (u : Int)) % n ∧ ((x : Int) * 16777216 + (y : Int) * 65536 + (z : Int) * 256 + (u : Int)) % n < n := ⟨Int.emod_nonneg _ (by omega), Int.emod_lt_of_pos _ (by omega)⟩
    go_wp2_with fail
    obtain ⟨q, hq⟩ : ∃ q : Nat, ((x : Int) * 16777216 + (y : Int) * 65536 + (z : Int) * 256 + (u : Int)) % n = (q : Int) := ⟨(((x : Int) * 16777216 + (y : Int) * 65536 + (z : Int) * 256 + (u : Int)) % n).toNat, by omega⟩
    rw [hq] at hm ⊢
    go_ret
    exact ⟨⟨q, rfl, Or.inl hm.2, by omega⟩, hc4, gb_trans hg1 (gb_trans hg2 (gb_trans hg3 hg4))⟩

end Go.Proofs.YtklcbagddijkgaaGreatDoor.Cur

/- What all draws share. -/
set_option maxRecDepth 100000
namespace Go.Proofs.YtklcbagddijkgaaGreatDoor.Dr
open Go.RowKit Go.Lib Go.Proofs.YtklcbagddijkgaaGreatDoor.Com Go.Proofs.YtklcbagddijkgaaGreatDoor.Mem Go.Proofs.YtklcbagddijkgaaGreatDoor.Cur

end Go.Proofs.YtklcbagddijkgaaGreatDoor.Dr
