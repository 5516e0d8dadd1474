/- Chapter 1, the program's ParseNumber and ParseInt. -/
import Derived.Test.YtkoppcpkkpgaiaaDoorC1b
import Derived.Test.YtkoppcpkkpgaiaaDoorShelf
namespace Go.Proofs.YtkoppcpkkpgaiaaDoor.C1
open Go.RowKit Go.Lib Go.Proofs.YtkoppcpkkpgaiaaDoor.Num Go.Proofs.YtkoppcpkkpgaiaaDoor.Com

/-- what readSigned comes to -/
def RsPost (l : List UInt8) (m : Nat) (w : World) (e : Ending) (w' : World) : Prop := w = w' ∧ match Num.intOf l m with | some n => e = .returned (.int .i64 n) | none => Panics e

theorem intOf_plain {l : List UInt8} {m : Nat} (h : hasPrefix l [45] = false) : Num.intOf l m = (numOf l m).map Int.ofNat := by
  unfold Num.intOf
  split
  · rename_i t; simp [hasPrefix] at h
  · rfl
theorem intOf_minus (t : List UInt8) (m : Nat) : Num.intOf (45 :: t) m = if plain t = true ∧ t.length ≤ m ∧ t ≠ [48] then some (-(rd t : Int)) else none := rfl

theorem rd_some {l : List UInt8} {m n : Nat} {w : World} (hn : numOf l m = some n) (hm : m ≤ 15) {e : Ending} {w' : World} (h : RdPost l m w e w') : n < 1000000000000000 ∧ e = .returned (.int .i64 n) ∧ w = w' := by
  unfold RdPost at h; rw [hn] at h
  refine ⟨?_, h.2, h.1⟩
  unfold numOf at hn
  split at hn
  · rename_i hp
    have e := Option.some.inj hn
    have h1 := hp.1
    simp only [plain, Bool.and_eq_true] at h1
    have := rd_lt l h1.1.1
    have := Nat.pow_le_pow_right (n := 10) (by decide) (show l.length ≤ 15 by omega)
    omega
  · cases hn
theorem rd_none {l : List UInt8} {m : Nat} {w : World} (hn : numOf l m = none) {e : Ending} {w' : World} (h : RdPost l m w e w') : Panics e ∧ w = w' := by
  unfold RdPost at h; rw [hn] at h; exact ⟨h.2, h.1⟩
theorem rs_some {l : List UInt8} {m : Nat} {n : Int} {w : World} {e : Ending} (hn : Num.intOf l m = some n) (he : e = .returned (.int .i64 n)) : RsPost l m w e w := by
  unfold RsPost; rw [hn]; exact ⟨rfl, he⟩
theorem rs_none {l : List UInt8} {m : Nat} {w : World} {e : Ending} (hn : Num.intOf l m = none) (he : Panics e) : RsPost l m w e w := by
  unfold RsPost; rw [hn]; exact ⟨rfl, he⟩

theorem readDigits_some {l : List UInt8} {m n : Nat} (hn : numOf l m = some n) (w : World) (hl : l.length ≤ 9223372036854775807) (hm : m ≤ 15) : Calls Tryd.prog 20 #[.string ⟨l.toArray⟩, .int .i64 m] w fun e w' => e = .returned (.int .i64 n) ∧ w = w' :=
  (readDigits_any l m w hl hm).mono fun _ _ h => (rd_some hn hm h).2
theorem readDigits_none {l : List UInt8} {m : Nat} (hn : numOf l m = none) (w : World) (hl : l.length ≤ 9223372036854775807) (hm : m ≤ 15) : Calls Tryd.prog 20 #[.string ⟨l.toArray⟩, .int .i64 m] w fun e w' => Panics e ∧ w = w' :=
  (readDigits_any l m w hl hm).mono fun _ _ h => rd_none hn h
theorem num_lt {l : List UInt8} {m n : Nat} (hn : numOf l m = some n) (hm : m ≤ 15) : n < 1000000000000000 := by
  unfold numOf at hn
  split at hn
  · rename_i hp
    have e := Option.some.inj hn
    have h1 := hp.1
    simp only [plain, Bool.and_eq_true] at h1
    have := rd_lt l h1.1.1
    have := Nat.pow_le_pow_right (n := 10) (by decide) (show l.length ≤ 15 by omega)
    omega
  · cases hn

set_option maxHeartbeats 400000 in
theorem readSigned_any (l : List UInt8) (m : Nat) (w : World) (hl : l.length ≤ 9223372036854775807) (hm : m ≤ 15) : Calls Tryd.prog 16 #[.string ⟨l.toArray⟩, .int .i64 m] w (RsPost l m w) := by
  have hcut := Tryd.strings_CutPrefix ⟨l.toArray⟩ ⟨[45].toArray⟩ w
  cases hp : hasPrefix l [45] with
  | false =>
    have ht : trimPrefix l [45] = l := by simp [trimPrefix, hp]
    have hcut := hcut.mono (R' := fun e w' => e = .returned (.tuple #[.string ⟨l.toArray⟩, .bool false]) ∧ w = w') (fun e w' h => by simp only [hp, ht] at h; exact ⟨h.1, h.2.symm⟩)
    have hi := intOf_plain (m := m) hp
    clear ht
    cases hn : numOf l m with
    | some n =>
      rw [hn] at hi
      have hrd := readDigits_some hn w hl hm
      have hb := num_lt hn hm
      have hfin := hid (fun e => rs_some (w := w) (e := e) hi)
      clear hi hn hp
      have hcut := hid hcut
      have hrd := hid hrd
      go_enter Tryd.func16, Tryd.ntmps16
      go_wp2_with fail
      refine hcut.out.mono ?_
      rintro e w' ⟨rfl, rfl⟩
      go_wp2_with fail
      refine hrd.out.mono ?_
      rintro e w' ⟨rfl, rfl⟩
      go_wp2_with fail
      go_ret
      exact hfin.out _ rfl
    | none =>
      rw [hn] at hi
      have hrd := hid (readDigits_none hn w hl hm)
      have hfin := hid (fun e => rs_none (w := w) (e := e) hi)
      clear hi hn hp
      have hcut := hid hcut
      go_enter Tryd.func16, Tryd.ntmps16
      go_wp2_with fail
      refine hcut.out.mono ?_
      rintro e w' ⟨rfl, rfl⟩
      go_wp2_with fail
      refine hrd.out.mono ?_
      rintro e w' ⟨⟨v, rfl⟩, rfl⟩
      exact ⟨rfl, hfin.out _ ⟨v, rfl⟩⟩
  | true =>
    obtain ⟨t, rfl⟩ : ∃ t, l = 45 :: t := by
      cases l with
      | nil => simp [hasPrefix] at hp
      | cons x t => simp [hasPrefix] at hp; exact ⟨t, by rw [hp]⟩
    have ht : trimPrefix (45 :: t) [45] = t := by simp [trimPrefix, hasPrefix]
    have hcut := hid (hcut.mono (R' := fun e w' => e = .returned (.tuple #[.string ⟨t.toArray⟩, .bool true]) ∧ w = w') (fun e w' h => by simp only [hp, ht] at h; exact ⟨h.1, h.2.symm⟩))
    have hi := intOf_minus t m
    clear ht hp
    simp only [List.length_cons] at hl
    by_cases hc : plain t = true ∧ t.length ≤ m
    · have hn : numOf t m = some (rd t) := by unfold numOf; rw [if_pos hc]
      have hrd := hid (readDigits_some hn w (by omega) hm)
      have hb := num_lt hn hm
      by_cases h0 : t = [48]
      · have hfin := hid (fun e => rs_none (w := w) (e := e) (hi.trans (if_neg (by simp [h0]))))
        have hz : ((rd t : Int) == 0) = true := by rw [h0]; rfl
        clear hn hi hc h0
        go_enter Tryd.func16, Tryd.ntmps16
        go_wp2_with fail
        refine hcut.out.mono ?_
        rintro e w' ⟨rfl, rfl⟩
        go_wp2_with fail
        refine hrd.out.mono ?_
        rintro e w' ⟨rfl, rfl⟩
        go_wp2_with (go_at_call 26; refine (panics _).mono ?_; rintro e w' ⟨⟨v, rfl⟩, rfl⟩)
        exact ⟨rfl, hfin.out _ ⟨v, rfl⟩⟩
      · have hfin := hid (fun e => rs_some (w := w) (e := e) (hi.trans (if_pos ⟨hc.1, hc.2, h0⟩)))
        have hz : ((rd t : Int) == 0) = false := by
          rw [beq_eq_false_iff_ne]; intro e
          have e2 : rd t = 0 := by omega
          have := decDigits_rd t hc.1
          rw [e2, decDigits_one (by omega)] at this
          exact h0 this.symm
        clear hn hi hc h0
        go_enter Tryd.func16, Tryd.ntmps16
        go_wp2_with fail
        refine hcut.out.mono ?_
        rintro e w' ⟨rfl, rfl⟩
        go_wp2_with fail
        refine hrd.out.mono ?_
        rintro e w' ⟨rfl, rfl⟩
        go_wp2_with fail
        go_ret
        exact hfin.out _ rfl
    · have hn : numOf t m = none := by unfold numOf; rw [if_neg hc]
      have hrd := hid (readDigits_none hn w (by omega) hm)
      have hfin := hid (fun e => rs_none (w := w) (e := e) (hi.trans (if_neg (fun h => hc ⟨h.1, h.2.1⟩))))
      clear hn hi hc
      go_enter Tryd.func16, Tryd.ntmps16
      go_wp2_with fail
      refine hcut.out.mono ?_
      rintro e w' ⟨rfl, rfl⟩
      go_wp2_with fail
      refine hrd.out.mono ?_
      rintro e w' ⟨⟨v, rfl⟩, rfl⟩
      exact ⟨rfl, hfin.out _ ⟨v, rfl⟩⟩


theorem catchNumber_panicking (v : Value) (w : World) :
    CallsD Tryd.prog 19 #[] (.panicking [{ v := v, recovered := false }]) w fun e u' w' =>
      e = .returned (.tuple #[]) ∧ u' = .panicking [{ v := v, recovered := true }] ∧ w' = w := by
  refine callsD_of_wpS Tryd.func19 rfl fun c₀ cs hu => ?_
  apply wpS_region
  simp [wpOpsS, go_sem, recoverD, hu, Tryd.ntmps19, bodyPostS, results, Tryd.results19]
theorem catchNumber_idle (w : World) :
    CallsD Tryd.prog 19 #[] .returning w fun e u' w' => e = .returned (.tuple #[]) ∧ u' = .returning ∧ w' = w := by
  refine callsD_of_wpS Tryd.func19 rfl fun c₀ cs hu => ?_
  apply wpS_region
  cases c₀
  simp_all [wpOpsS, go_sem, recoverD, Tryd.ntmps19, bodyPostS, results, Tryd.results19]

theorem catchInt_panicking (v : Value) (w : World) :
    CallsD Tryd.prog 15 #[] (.panicking [{ v := v, recovered := false }]) w fun e u' w' =>
      e = .returned (.tuple #[]) ∧ u' = .panicking [{ v := v, recovered := true }] ∧ w' = w := by
  refine callsD_of_wpS Tryd.func15 rfl fun c₀ cs hu => ?_
  apply wpS_region
  simp [wpOpsS, go_sem, recoverD, hu, Tryd.ntmps15, bodyPostS, results, Tryd.results15]
theorem catchInt_idle (w : World) :
    CallsD Tryd.prog 15 #[] .returning w fun e u' w' => e = .returned (.tuple #[]) ∧ u' = .returning ∧ w' = w := by
  refine callsD_of_wpS Tryd.func15 rfl fun c₀ cs hu => ?_
  apply wpS_region
  cases c₀
  simp_all [wpOpsS, go_sem, recoverD, Tryd.ntmps15, bodyPostS, results, Tryd.results15]


set_option maxHeartbeats 400000 in
theorem parseNumber_some {l : List UInt8} {n : Nat} (w : World) (hn : numOf l 6 = some n) (hl : l.length ≤ 9223372036854775807) :
    Calls Tryd.prog 10 #[.string ⟨l.toArray⟩] w fun e w' => e = .returned (.tuple #[.int .i64 n, .bool true]) ∧ w = w' := by
  have hmf : ∀ (fn : Fn) (first cap : Array Value) (w : World), (Instr.makeFunc fn first cap).run Tryd.prog w = .ok (.func fn first cap) w := fun _ _ _ _ => rfl
  have hrd := hid (readDigits_some hn w hl (by decide))
  clear hn
  go_enter_defers Tryd.func10, Tryd.ntmps10
  go_wp2_with fail
  refine hrd.out.mono ?_
  rintro e w' ⟨rfl, rfl⟩
  go_wp2_with fail
  refine leaves_cons (f := 19) (args := #[]) (by simp) (by simp [go_sem]) ?_
  refine (catchNumber_idle _).mono ?_
  rintro e u' w'' ⟨rfl, rfl, rfl⟩
  simp [Leaves, settle, results, Tryd.results10, go_sem]
set_option maxHeartbeats 400000 in
theorem parseNumber_none {l : List UInt8} (w : World) (hn : numOf l 6 = none) (hl : l.length ≤ 9223372036854775807) :
    Calls Tryd.prog 10 #[.string ⟨l.toArray⟩] w fun e w' => e = .returned (.tuple #[.int .i64 0, .bool false]) ∧ w = w' := by
  have hmf : ∀ (fn : Fn) (first cap : Array Value) (w : World), (Instr.makeFunc fn first cap).run Tryd.prog w = .ok (.func fn first cap) w := fun _ _ _ _ => rfl
  have hrd := hid (readDigits_none hn w hl (by decide))
  clear hn
  go_enter_defers Tryd.func10, Tryd.ntmps10
  go_wp2_with fail
  refine hrd.out.mono ?_
  rintro e w' ⟨⟨v, rfl⟩, rfl⟩
  refine leaves_cons (f := 19) (args := #[]) (by simp) (by simp [go_sem]) ?_
  refine (catchNumber_panicking _ _).mono ?_
  rintro e u' w'' ⟨rfl, rfl, rfl⟩
  simp [Leaves, settle, results, Tryd.results10, go_sem]

theorem readSigned_some {l : List UInt8} {m : Nat} {n : Int} (hn : Num.intOf l m = some n) (w : World) (hl : l.length ≤ 9223372036854775807) (hm : m ≤ 15) : Calls Tryd.prog 16 #[.string ⟨l.toArray⟩, .int .i64 m] w fun e w' => e = .returned (.int .i64 n) ∧ w = w' :=
  (readSigned_any l m w hl hm).mono fun _ _ h => by unfold RsPost at h; rw [hn] at h; exact ⟨h.2, h.1⟩
theorem readSigned_none {l : List UInt8} {m : Nat} (hn : Num.intOf l m = none) (w : World) (hl : l.length ≤ 9223372036854775807) (hm : m ≤ 15) : Calls Tryd.prog 16 #[.string ⟨l.toArray⟩, .int .i64 m] w fun e w' => Panics e ∧ w = w' :=
  (readSigned_any l m w hl hm).mono fun _ _ h => by unfold RsPost at h; rw [hn] at h; exact ⟨h.2, h.1⟩

set_option maxHeartbeats 400000 in
theorem parseInt_some {l : List UInt8} {n : Int} (w : World) (hn : Num.intOf l 12 = some n) (hl : l.length ≤ 9223372036854775807) :
    Calls Tryd.prog 7 #[.string ⟨l.toArray⟩] w fun e w' => e = .returned (.tuple #[.int .i64 n, .bool true]) ∧ w = w' := by
  have hmf : ∀ (fn : Fn) (first cap : Array Value) (w : World), (Instr.makeFunc fn first cap).run Tryd.prog w = .ok (.func fn first cap) w := fun _ _ _ _ => rfl
  have hrd := hid (readSigned_some hn w hl (by decide))
  clear hn
  go_enter_defers Tryd.func7, Tryd.ntmps7
  go_wp2_with fail
  refine hrd.out.mono ?_
  rintro e w' ⟨rfl, rfl⟩
  go_wp2_with fail
  refine leaves_cons (f := 15) (args := #[]) (by simp) (by simp [go_sem]) ?_
  refine (catchInt_idle _).mono ?_
  rintro e u' w'' ⟨rfl, rfl, rfl⟩
  simp [Leaves, settle, results, Tryd.results7, go_sem]
set_option maxHeartbeats 400000 in
theorem parseInt_none {l : List UInt8} (w : World) (hn : Num.intOf l 12 = none) (hl : l.length ≤ 9223372036854775807) :
    Calls Tryd.prog 7 #[.string ⟨l.toArray⟩] w fun e w' => e = .returned (.tuple #[.int .i64 0, .bool false]) ∧ w = w' := by
  have hmf : ∀ (fn : Fn) (first cap : Array Value) (w : World), (Instr.makeFunc fn first cap).run Tryd.prog w = .ok (.func fn first cap) w := fun _ _ _ _ => rfl
  have hrd := hid (readSigned_none hn w hl (by decide))
  clear hn
  go_enter_defers Tryd.func7, Tryd.ntmps7
  go_wp2_with fail
  refine hrd.out.mono ?_
  rintro e w' ⟨⟨v, rfl⟩, rfl⟩
  refine leaves_cons (f := 15) (args := #[]) (by simp) (by simp [go_sem]) ?_
  refine (catchInt_panicking _ _).mono ?_
  rintro e u' w'' ⟨rfl, rfl, rfl⟩
  simp [Leaves, settle, results, Tryd.results7, go_sem]
end Go.Proofs.YtkoppcpkkpgaiaaDoor.C1
