/- The laws' own helpers on lists of strings. -/
import Derived.Test.YtnmomlaimffonaaGreatZCom
import Derived.Lib.ItoaNum
import Derived.Lib.ItoaLen
import Derived.Lib.QuietBelow
set_option maxHeartbeats 400000
set_option maxRecDepth 100000
namespace Go.Proofs.YtnmomlaimffonaaGreat.Lh
open Go.RowKit Go.Lib Com Mem
theorem rd_str {w : World} {B : Nat} {A : Option Addr} {l : List (List UInt8)} (h : Rd w B A (l.map sv)) {k : Nat} (hk : k < l.length) : ∃ ad, A = some ad ∧ ad.block < B ∧ w.cell? (ad.add k) = some (.string ⟨(l[k]).toArray⟩) := by
  obtain ⟨ad, e, hb, hc⟩ := h.at_ (k := k) (by simpa using hk)
  exact ⟨ad, e, hb, by rw [hc]; simp⟩
end Go.Proofs.YtnmomlaimffonaaGreat.Lh
set_option maxRecDepth 100000
namespace Go.Proofs.YtnmomlaimffonaaGreat.Num
open Go.Lib
def isDig (c : UInt8) : Bool := decide (48 ≤ c.toNat) && decide (c.toNat ≤ 57)
end Go.Proofs.YtnmomlaimffonaaGreat.Num
set_option maxRecDepth 100000
namespace Go.Proofs.YtnmomlaimffonaaGreat.Lh
open Go.RowKit Go.Lib Go.Sort Com Mem Num
end Go.Proofs.YtnmomlaimffonaaGreat.Lh
set_option maxRecDepth 100000
namespace Go.Proofs.YtnmomlaimffonaaGreat.Os
open Go.RowKit Go.Lib Com Mem Lh Ow
abbrev OwnS (lo hi : Nat) (w : World) (v : Value) (l : List (List UInt8)) : Prop := Own 9 lo hi w v (l.map sv)
theorem OwnS.read_ {lo hi : Nat} {w : World} {v : Value} {l : List (List UInt8)} (h : OwnS lo hi w v l) : ∃ A c, v = .slice A l.length c ∧ Rd w w.heap.size A (l.map sv) ∧ l.length ≤ c ∧ c ≤ maxLen ∧ (A = none → c = 0) ∧ ∀ ad, A = some ad → ad = ⟨ad.block, 0, none⟩ := by
  have := h.read
  rwa [List.length_map] at this
end Go.Proofs.YtnmomlaimffonaaGreat.Os
set_option maxRecDepth 100000
namespace Go.Proofs.YtnmomlaimffonaaGreat.Ch
open Go.RowKit Go.Lib Num Com
def isLow (c : UInt8) : Bool := decide (97 ≤ c.toNat) && decide (c.toNat ≤ 122)
theorem digit_any (c : UInt8) (w : World) : Calls Tryz.prog 119 #[.int .u8 c.toNat] w fun e w' => e = .returned (.bool (isDig c)) ∧ w = w' := by
  by_cases h1 : 48 ≤ c.toNat
  · by_cases h2 : c.toNat ≤ 57
    · have t1 : decide ((48 : Int) ≤ (c.toNat : Int)) = true := decide_eq_true (by omega)
      have t2 : decide ((c.toNat : Int) ≤ 57) = true := decide_eq_true (by omega)
      have hf := hid (show isDig c = true by simp [isDig]; omega)
      go_enter Tryz.func119, Tryz.ntmps119
      go_wp2_with fail
      go_ret
      exact ⟨by rw [hf.out]; rfl, rfl⟩
    · have t1 : decide ((48 : Int) ≤ (c.toNat : Int)) = true := decide_eq_true (by omega)
      have t2 : decide ((c.toNat : Int) ≤ 57) = false := decide_eq_false (by omega)
      have hf := hid (show isDig c = false by simp [isDig]; omega)
      go_enter Tryz.func119, Tryz.ntmps119
      go_wp2_with fail
      go_ret
      exact ⟨by rw [hf.out]; rfl, rfl⟩
  · have t1 : decide ((48 : Int) ≤ (c.toNat : Int)) = false := decide_eq_false (by omega)
    have hf := hid (show isDig c = false by simp [isDig]; omega)
    go_enter Tryz.func119, Tryz.ntmps119
    go_wp2_with fail
    go_ret
    exact ⟨by rw [hf.out]; rfl, rfl⟩
theorem lower_any (c : UInt8) (w : World) : Calls Tryz.prog 118 #[.int .u8 c.toNat] w fun e w' => e = .returned (.bool (isLow c)) ∧ w = w' := by
  by_cases h1 : 97 ≤ c.toNat
  · by_cases h2 : c.toNat ≤ 122
    · have t1 : decide ((97 : Int) ≤ (c.toNat : Int)) = true := decide_eq_true (by omega)
      have t2 : decide ((c.toNat : Int) ≤ 122) = true := decide_eq_true (by omega)
      have hf := hid (show isLow c = true by simp [isLow]; omega)
      go_enter Tryz.func118, Tryz.ntmps118
      go_wp2_with fail
      go_ret
      exact ⟨by rw [hf.out]; rfl, rfl⟩
    · have t1 : decide ((97 : Int) ≤ (c.toNat : Int)) = true := decide_eq_true (by omega)
      have t2 : decide ((c.toNat : Int) ≤ 122) = false := decide_eq_false (by omega)
      have hf := hid (show isLow c = false by simp [isLow]; omega)
      go_enter Tryz.func118, Tryz.ntmps118
      go_wp2_with fail
      go_ret
      exact ⟨by rw [hf.out]; rfl, rfl⟩
  · have t1 : decide ((97 : Int) ≤ (c.toNat : Int)) = false := decide_eq_false (by omega)
    have hf := hid (show isLow c = false by simp [isLow]; omega)
    go_enter Tryz.func118, Tryz.ntmps118
    go_wp2_with fail
    go_ret
    exact ⟨by rw [hf.out]; rfl, rfl⟩
end Go.Proofs.YtnmomlaimffonaaGreat.Ch
