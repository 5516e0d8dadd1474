/- The model's ParseNumber and ParseInt, whole. -/
import Derived.Test.YtkoppcpkkpgaiaaDoorC1c
import Derived.Test.YtkoppcpkkpgaiaaDoorC1d
namespace Go.Proofs.YtkoppcpkkpgaiaaDoor.Sn
open Go.RowKit Go.Lib Go.Proofs.YtkoppcpkkpgaiaaDoor.Num Go.Proofs.YtkoppcpkkpgaiaaDoor.Com Go.Proofs.YtkoppcpkkpgaiaaDoor.C1
theorem numOf_int {l : List UInt8} {n : Nat} (h : numOf l 6 = some n) : Num.intOf l 6 = some (n : Int) := by
  have hp : plain l = true := by unfold numOf at h; split at h; rename_i h1; exact h1.1; cases h
  rw [C1s.intOf_plain, h]; rfl
  intro e
  cases l with
  | nil => simp at e
  | cons x t => simp at e; subst e; simp [plain, isDig] at hp
theorem intOf_num {l : List UInt8} {n : Int} (h : Num.intOf l 6 = some n) (h0 : 0 ≤ n) : ∃ k : Nat, n = k ∧ numOf l 6 = some k := by
  by_cases hs : l.head? = some 45
  · obtain ⟨t, rfl⟩ : ∃ t, l = 45 :: t := by cases l with | nil => simp at hs | cons x t => exact ⟨t, by simp at hs; rw [hs]⟩
    exfalso
    rw [C1s.intOf_minus] at h
    split at h
    · rename_i hc
      have e := Option.some.inj h
      have : rd t = 0 := by omega
      have hd := decDigits_rd t hc.1
      rw [this, decDigits_one (by omega)] at hd
      exact hc.2.2 hd.symm
    · cases h
  · rw [C1s.intOf_plain hs] at h
    cases hn : numOf l 6 with
    | none => rw [hn] at h; cases h
    | some k => rw [hn] at h; exact ⟨k, (Option.some.inj h).symm, rfl⟩
theorem intOf_bd {l : List UInt8} {m : Nat} {n : Int} (h : Num.intOf l m = some n) (hm : m ≤ 15) : -1000000000000000 < n ∧ n < 1000000000000000 := by
  have key : ∀ t : List UInt8, plain t = true → t.length ≤ m → rd t < 1000000000000000 := fun t hp hl => by
    simp only [plain, Bool.and_eq_true] at hp
    have := rd_lt t hp.1.1
    have := Nat.pow_le_pow_right (n := 10) (by decide) (show t.length ≤ 15 by omega)
    omega
  by_cases hs : l.head? = some 45
  · obtain ⟨t, rfl⟩ : ∃ t, l = 45 :: t := by cases l with | nil => simp at hs | cons x t => exact ⟨t, by simp at hs; rw [hs]⟩
    rw [C1s.intOf_minus] at h
    split at h
    · rename_i hc
      have e := Option.some.inj h
      have := key t hc.1 hc.2.1
      omega
    · cases h
  · rw [C1s.intOf_plain hs] at h
    unfold numOf at h
    split at h
    · rename_i hc
      have e : ((rd l : Nat) : Int) = n := Option.some.inj h
      have := key l hc.1 hc.2
      omega
    · cases h

theorem l1_some {l : List UInt8} {m : Nat} {n : Int} (hn : Num.intOf l m = some n) (w : World) (hl : l.length ≤ 9223372036854775807) (hm : m ≤ 15) : Calls Tryd.prog 21 #[.string ⟨l.toArray⟩, .int .i64 m] w fun e w' => e = .returned (.tuple #[.int .i64 n, .bool true]) ∧ Below w.heap.size w w' :=
  (C1s.l1Read_any l m w hl hm).mono fun _ _ h => by unfold C1s.SpPost at h; rw [hn] at h; exact h
theorem l1_none {l : List UInt8} {m : Nat} (hn : Num.intOf l m = none) (w : World) (hl : l.length ≤ 9223372036854775807) (hm : m ≤ 15) : Calls Tryd.prog 21 #[.string ⟨l.toArray⟩, .int .i64 m] w fun e w' => e = .returned (.tuple #[.int .i64 0, .bool false]) ∧ Below w.heap.size w w' :=
  (C1s.l1Read_any l m w hl hm).mono fun _ _ h => by unfold C1s.SpPost at h; rw [hn] at h; exact h

set_option maxHeartbeats 400000 in
theorem specNumber_some {l : List UInt8} {n : Nat} (hn : numOf l 6 = some n) (w : World) (hl : l.length ≤ 9223372036854775807) : Calls Tryd.prog 11 #[.string ⟨l.toArray⟩] w fun e w' => e = .returned (.tuple #[.int .i64 n, .bool true]) ∧ Below w.heap.size w w' := by
  have hr := hid (l1_some (numOf_int hn) w hl (by decide))
  have hb := num_lt hn (by decide)
  have ht : decide ((n : Int) < 0) = false := decide_eq_false (by omega)
  clear hn
  go_enter Tryd.func11, Tryd.ntmps11
  go_wp2_with fail
  refine hr.out.mono ?_
  rintro e w' ⟨rfl, hb⟩
  go_wp2_with fail
  go_ret2
  exact ⟨rfl, hb⟩
set_option maxHeartbeats 400000 in
theorem specNumber_none {l : List UInt8} (hn : numOf l 6 = none) (w : World) (hl : l.length ≤ 9223372036854775807) : Calls Tryd.prog 11 #[.string ⟨l.toArray⟩] w fun e w' => e = .returned (.tuple #[.int .i64 0, .bool false]) ∧ Below w.heap.size w w' := by
  cases hi : Num.intOf l 6 with
  | none =>
    have hr := hid (l1_none hi w hl (by decide))
    clear hn hi
    go_enter Tryd.func11, Tryd.ntmps11
    go_wp2_with fail
    refine hr.out.mono ?_
    rintro e w' ⟨rfl, hb⟩
    go_wp2_with fail
    go_ret2
    exact ⟨rfl, hb⟩
  | some n =>
    have hneg : n < 0 := by
      rcases Int.lt_or_le n 0 with h | h
      · exact h
      · obtain ⟨k, _, hk⟩ := intOf_num hi h; rw [hn] at hk; cases hk
    have hbd := intOf_bd hi (by decide)
    have hr := hid (l1_some hi w hl (by decide))
    have ht : decide (n < 0) = true := decide_eq_true hneg
    clear hn hi hneg
    go_enter Tryd.func11, Tryd.ntmps11
    go_wp2_with fail
    refine hr.out.mono ?_
    rintro e w' ⟨rfl, hb⟩
    go_wp2_with fail
    go_ret2
    exact ⟨rfl, hb⟩

end Go.Proofs.YtkoppcpkkpgaiaaDoor.Sn
