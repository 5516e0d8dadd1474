/- The model's tokens. -/
import Derived.Test.YtgjdccibdgedbaaDoorLw
set_option maxRecDepth 100000
namespace Go.Proofs.YtgjdccibdgedbaaDoor.Tk
open Go.RowKit Go.Lib Go.Proofs.YtgjdccibdgedbaaDoor.Num Go.Proofs.YtgjdccibdgedbaaDoor.Com Go.Proofs.YtgjdccibdgedbaaDoor.Mem Go.Proofs.YtgjdccibdgedbaaDoor.Ch Go.Proofs.YtgjdccibdgedbaaDoor.Os

set_option maxHeartbeats 400000 in
theorem sletter_any (c : UInt8) (w : World) : Calls Tryd.prog 38 #[.int .u8 c.toNat] w fun e w' => e = .returned (.bool (isLow c)) ∧ w = w' := by
  by_cases h1 : 97 ≤ c.toNat
  · by_cases h2 : c.toNat ≤ 122
    · have t1 : decide ((97 : Int) ≤ (c.toNat : Int)) = true := decide_eq_true (by omega)
      have t2 : decide ((c.toNat : Int) ≤ 122) = true := decide_eq_true (by omega)
      have hf := hid (show isLow c = true by simp [isLow]; omega)
      go_enter Tryd.func38, Tryd.ntmps38
      go_wp2_with fail
      go_ret
      exact ⟨by rw [hf.out]; rfl, rfl⟩
    · have t1 : decide ((97 : Int) ≤ (c.toNat : Int)) = true := decide_eq_true (by omega)
      have t2 : decide ((c.toNat : Int) ≤ 122) = false := decide_eq_false (by omega)
      have hf := hid (show isLow c = false by simp [isLow]; omega)
      go_enter Tryd.func38, Tryd.ntmps38
      go_wp2_with fail
      go_ret
      exact ⟨by rw [hf.out]; rfl, rfl⟩
  · have t1 : decide ((97 : Int) ≤ (c.toNat : Int)) = false := decide_eq_false (by omega)
    have hf := hid (show isLow c = false by simp [isLow]; omega)
    go_enter Tryd.func38, Tryd.ntmps38
    go_wp2_with fail
    go_ret
    exact ⟨by rw [hf.out]; rfl, rfl⟩
set_option maxHeartbeats 400000 in
theorem sdigit_any (c : UInt8) (w : World) : Calls Tryd.prog 39 #[.int .u8 c.toNat] w fun e w' => e = .returned (.bool (isDig c)) ∧ w = w' := by
  by_cases h1 : 48 ≤ c.toNat
  · by_cases h2 : c.toNat ≤ 57
    · have t1 : decide ((48 : Int) ≤ (c.toNat : Int)) = true := decide_eq_true (by omega)
      have t2 : decide ((c.toNat : Int) ≤ 57) = true := decide_eq_true (by omega)
      have hf := hid (show isDig c = true by simp [isDig]; omega)
      go_enter Tryd.func39, Tryd.ntmps39
      go_wp2_with fail
      go_ret
      exact ⟨by rw [hf.out]; rfl, rfl⟩
    · have t1 : decide ((48 : Int) ≤ (c.toNat : Int)) = true := decide_eq_true (by omega)
      have t2 : decide ((c.toNat : Int) ≤ 57) = false := decide_eq_false (by omega)
      have hf := hid (show isDig c = false by simp [isDig]; omega)
      go_enter Tryd.func39, Tryd.ntmps39
      go_wp2_with fail
      go_ret
      exact ⟨by rw [hf.out]; rfl, rfl⟩
  · have t1 : decide ((48 : Int) ≤ (c.toNat : Int)) = false := decide_eq_false (by omega)
    have hf := hid (show isDig c = false by simp [isDig]; omega)
    go_enter Tryd.func39, Tryd.ntmps39
    go_wp2_with fail
    go_ret
    exact ⟨by rw [hf.out]; rfl, rfl⟩

/-- the symbol's length, at a place of a text -/
theorem ones_cases {z : Nat} (h : z ∈ ones) : z = 40 ∨ z = 41 ∨ z = 123 ∨ z = 125 ∨ z = 59 ∨ z = 43 ∨ z = 45 ∨ z = 42 ∨ z = 47 ∨ z = 60 ∨ z = 38 ∨ z = 124 ∨ z = 33 := by
  simpa [ones] using h
theorem eqf {z k : Int} (h : z ≠ k) : (z == k) = false := beq_eq_false_iff_ne.2 h
set_option maxHeartbeats 4000000 in
theorem ssym_any (S : List UInt8) (a : Nat) (h : a < S.length) (hl : S.length ≤ 400) (w : World) : Calls Tryd.prog 41 #[.string ⟨S.toArray⟩, .int .i64 a] w fun e w' => e = .returned (.int .i64 (symL (bt S a h) (S.drop (a + 1)))) ∧ w = w' := by
  by_cases hm : (bt S a h).toNat ∈ ones
  · have hf := hid (show symL (bt S a h) (S.drop (a + 1)) = 1 by unfold symL; rw [if_pos hm])
    rcases ones_cases hm with hz | hz | hz | hz | hz | hz | hz | hz | hz | hz | hz | hz | hz
    all_goals
      have hz' : (((bt S a h).toNat : Nat) : Int) = _ := congrArg Int.ofNat hz
      clear hm hz
      go_enter Tryd.func41, Tryd.ntmps41
      go_wp2_with fail
      go_ret
      exact ⟨by rw [hf.out]; rfl, rfl⟩
  · have hn : ∀ k : Int, k ∈ [(40 : Int), 41, 123, 125, 59, 43, 45, 42, 47, 60, 38, 124, 33] → ((((bt S a h).toNat : Nat) : Int) == k) = false := fun k hk => by
      refine eqf fun e => hm ?_
      have : ((((bt S a h).toNat : Nat) : Int)) ∈ [(40 : Int), 41, 123, 125, 59, 43, 45, 42, 47, 60, 38, 124, 33] := e ▸ hk
      simp only [List.mem_cons, List.not_mem_nil, or_false] at this
      simp only [ones, List.mem_cons, List.not_mem_nil, or_false]
      omega
    have n0 := hn 40 (by simp)
    have n1 := hn 41 (by simp)
    have n2 := hn 123 (by simp)
    have n3 := hn 125 (by simp)
    have n4 := hn 59 (by simp)
    have n5 := hn 43 (by simp)
    have n6 := hn 45 (by simp)
    have n7 := hn 42 (by simp)
    have n8 := hn 47 (by simp)
    have n9 := hn 60 (by simp)
    have n10 := hn 38 (by simp)
    have n11 := hn 124 (by simp)
    have n12 := hn 33 (by simp)
    clear hn
    by_cases h2 : (bt S a h).toNat = 61 ∨ (bt S a h).toNat = 58
    · by_cases hlt : a + 1 < S.length
      · have q1 : ((a + 1 : Nat) : Int) = (a : Int) + 1 := by omega
        have t1 : decide ((a : Int) + 1 < (S.length : Int)) = true := decide_eq_true (by omega)
        have hh : ((S.drop (a + 1)).head?.map UInt8.toNat) = some (bt S (a + 1) hlt).toNat := by rw [head_drop, List.getElem?_eq_getElem hlt]; rfl
        by_cases h3 : (bt S (a + 1) hlt).toNat = 61
        · have t2 : ((((bt S (a + 1) hlt).toNat : Nat) : Int) == 61) = true := by rw [h3]; rfl
          have hf := hid (show symL (bt S a h) (S.drop (a + 1)) = 2 by unfold symL; rw [if_neg hm, if_pos ⟨h2, by rw [hh, h3]⟩])
          rcases h2 with hz | hz
          all_goals
            have hz' : (((bt S a h).toNat : Nat) : Int) = _ := congrArg Int.ofNat hz
            clear hm hz hh h3
            go_enter Tryd.func41, Tryd.ntmps41
            go_wp2_with fail
            go_ret
            exact ⟨by rw [hf.out]; rfl, rfl⟩
        · have t2 : ((((bt S (a + 1) hlt).toNat : Nat) : Int) == 61) = false := eqf (by omega)
          have hf := hid (show symL (bt S a h) (S.drop (a + 1)) = 0 by unfold symL; rw [if_neg hm, if_neg (fun e => h3 (by have := e.2; rw [hh] at this; exact Option.some.inj this))])
          rcases h2 with hz | hz
          all_goals
            have hz' : (((bt S a h).toNat : Nat) : Int) = _ := congrArg Int.ofNat hz
            clear hm hz hh h3
            go_enter Tryd.func41, Tryd.ntmps41
            go_wp2_with fail
            go_ret
            exact ⟨by rw [hf.out]; rfl, rfl⟩
      · have t1 : decide ((a : Int) + 1 < (S.length : Int)) = false := decide_eq_false (by omega)
        have hf := hid (show symL (bt S a h) (S.drop (a + 1)) = 0 by
          unfold symL; rw [if_neg hm, if_neg (fun e => by have := e.2; rw [List.drop_eq_nil_of_le (by omega)] at this; cases this)])
        rcases h2 with hz | hz
        all_goals
          have hz' : (((bt S a h).toNat : Nat) : Int) = _ := congrArg Int.ofNat hz
          clear hm hz
          go_enter Tryd.func41, Tryd.ntmps41
          go_wp2_with fail
          go_ret
          exact ⟨by rw [hf.out]; rfl, rfl⟩
    · have hz1 : (((((bt S a h).toNat : Nat) : Int)) == 61) = false := eqf (by omega)
      have hz2 : (((((bt S a h).toNat : Nat) : Int)) == 58) = false := eqf (by omega)
      have hf := hid (show symL (bt S a h) (S.drop (a + 1)) = 0 by unfold symL; rw [if_neg hm, if_neg (fun e => h2 e.1)])
      clear hm h2
      go_enter Tryd.func41, Tryd.ntmps41
      go_wp2_with fail
      go_ret
      exact ⟨by rw [hf.out]; rfl, rfl⟩
end Go.Proofs.YtgjdccibdgedbaaDoor.Tk
