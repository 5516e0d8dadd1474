/- Tokens as the laws handle them: measured, copied; and IsWordToken, the program's and the model's. -/
import Derived.Test.YtgjdccibdgedbaaTa
import Derived.Laws.Rows
import Derived.Laws.EntriesVeiled
set_option maxRecDepth 100000
namespace Go.Proofs.Ytgjdccibdgedbaa.Tk
open Go.RowKit Go.Lib Go.Sort Go.Proofs.Ytgjdccibdgedbaa.Com Go.Proofs.Ytgjdccibdgedbaa.Mem Go.Proofs.Ytgjdccibdgedbaa.Os Go.Proofs.Ytgjdccibdgedbaa.Ow

abbrev LTK : TypeId := 29
set_option maxHeartbeats 400000 in
theorem szTok (t : Tok) (hs : t.s.length ≤ 9223372036854775807) (left : Int) (h0 : 0 ≤ left) (h1 : left ≤ 1048576) (w : World) :
    Calls Try.prog 10 #[tv t, .int .i64 left] w fun e w' => e = .returned (.int .i64 (Lh.szAns t.s.length left)) ∧ Below w.heap.size w w' := by
  obtain ⟨k, n, p, s⟩ := t
  have hs : s.length ≤ 9223372036854775807 := hs
  by_cases hbig : left < s.length
  · have t0 : decide (left - (s.length : Int) < 0) = true := decide_eq_true (by omega)
    have hf := hid (show Lh.szAns s.length left = -1 by unfold Lh.szAns; rw [if_neg (by omega)])
    go_enter Try.func10, Try.ntmps10
    go_wp2_with fail
    go_ret
    exact ⟨by rw [hf.out]; rfl, (Below.refl _ _).alloc (Nat.le_refl _) _⟩
  · have t0 : decide (left - (s.length : Int) < 0) = false := decide_eq_false (by omega)
    have hf := hid (show Lh.szAns s.length left = left - (s.length : Int) by unfold Lh.szAns; rw [if_pos (by omega)])
    go_enter Try.func10, Try.ntmps10
    go_wp2_with fail
    go_ret
    exact ⟨by rw [hf.out]; rfl, (Below.refl _ _).alloc (Nat.le_refl _) _⟩
set_option maxHeartbeats 400000 in
theorem toTok (t : Tok) (w : World) : Calls Try.prog 12 #[tv t] w fun e w' => e = .returned (tv t) ∧ Below w.heap.size w w' := by
  obtain ⟨k, n, p, s⟩ := t
  go_enter Try.func12, Try.ntmps12
  go_wp2_with fail
  refine bodyPost_ret (results_cell_row Try.results12 _ _ (w.heap.size + 1) 32 _ (0, 0) _ rfl ((Below.heap_alloc _ _ _ (by simp)).trans (heap_alloc2_new _ _ _)) Try.underlying32 rfl (by kernel_rfl)) rfl ?_
  exact ⟨rfl, (((Below.refl _ _).alloc (Nat.le_refl _) _).alloc (by simp) _).alloc (by simp; omega) _⟩
def isWordB (t : Tok) (s : List UInt8) : Bool := (decide (t.k = 1) || decide (t.k = 3)) && decide (t.s = s)
set_option maxHeartbeats 1000000 in
theorem iword_any (t : Tok) (s : List UInt8) (w : World) : Calls Try.prog 13 #[tv t, .string ⟨s.toArray⟩] w fun e w' => e = .returned (.bool (isWordB t s)) ∧ Below w.heap.size w w' := by
  obtain ⟨k, n, p, x⟩ := t
  have hq : ∀ b, decide (x = s) = b → (x == s) = b := fun b h => by rw [← h]; by_cases e : x = s <;> simp [e]
  cases hd : decide (x = s) with
  | true =>
    have he := hq _ hd
    by_cases h1 : k = 1
    · have hf := hid (show isWordB ⟨k, n, p, x⟩ s = true by unfold isWordB; rw [hd]; simp [h1])
      subst h1
      clear hd hq
      go_enter Try.func13, Try.ntmps13
      go_wp2_with fail
      go_ret
      exact ⟨by rw [hf.out]; rfl, (Below.refl _ _).alloc (Nat.le_refl _) _⟩
    · have e1 : (k == 1) = false := beq_false_of_ne h1
      by_cases h3 : k = 3
      · have hf := hid (show isWordB ⟨k, n, p, x⟩ s = true by unfold isWordB; rw [hd]; simp [h3])
        subst h3
        clear hd hq h1 e1
        go_enter Try.func13, Try.ntmps13
        go_wp2_with fail
        go_ret
        exact ⟨by rw [hf.out]; rfl, (Below.refl _ _).alloc (Nat.le_refl _) _⟩
      · have e3 : (k == 3) = false := beq_false_of_ne h3
        have hf := hid (show isWordB ⟨k, n, p, x⟩ s = false by unfold isWordB; rw [hd]; simp [h1, h3])
        clear hd hq h1 h3
        go_enter Try.func13, Try.ntmps13
        go_wp2_with fail
        go_ret
        exact ⟨by rw [hf.out]; rfl, (Below.refl _ _).alloc (Nat.le_refl _) _⟩
  | false =>
    have he := hq _ hd
    have hf := hid (show isWordB ⟨k, n, p, x⟩ s = false by unfold isWordB; rw [hd]; simp)
    by_cases h1 : k = 1
    · subst h1
      clear hd hq
      go_enter Try.func13, Try.ntmps13
      go_wp2_with fail
      go_ret
      exact ⟨by rw [hf.out]; rfl, (Below.refl _ _).alloc (Nat.le_refl _) _⟩
    · have e1 : (k == 1) = false := beq_false_of_ne h1
      by_cases h3 : k = 3
      · subst h3
        clear hd hq h1 e1
        go_enter Try.func13, Try.ntmps13
        go_wp2_with fail
        go_ret
        exact ⟨by rw [hf.out]; rfl, (Below.refl _ _).alloc (Nat.le_refl _) _⟩
      · have e3 : (k == 3) = false := beq_false_of_ne h3
        clear hd hq h1 h3
        go_enter Try.func13, Try.ntmps13
        go_wp2_with fail
        go_ret
        exact ⟨by rw [hf.out]; rfl, (Below.refl _ _).alloc (Nat.le_refl _) _⟩
set_option maxHeartbeats 1000000 in
theorem sword_any (t : Tok) (s : List UInt8) (w : World) : Calls Try.prog 11 #[tv t, .string ⟨s.toArray⟩] w fun e w' => e = .returned (.bool (isWordB t s)) ∧ Below w.heap.size w w' := by
  obtain ⟨k, n, p, x⟩ := t
  have hq : ∀ b, decide (x = s) = b → (x == s) = b := fun b h => by rw [← h]; by_cases e : x = s <;> simp [e]
  cases hd : decide (x = s) with
  | true =>
    have he := hq _ hd
    by_cases h1 : k = 1
    · have hf := hid (show isWordB ⟨k, n, p, x⟩ s = true by unfold isWordB; rw [hd]; simp [h1])
      subst h1
      clear hd hq
      go_enter Try.func11, Try.ntmps11
      go_wp2_with fail
      go_ret
      exact ⟨by rw [hf.out]; rfl, (Below.refl _ _).alloc (Nat.le_refl _) _⟩
    · have e1 : (k == 1) = false := beq_false_of_ne h1
      by_cases h3 : k = 3
      · have hf := hid (show isWordB ⟨k, n, p, x⟩ s = true by unfold isWordB; rw [hd]; simp [h3])
        subst h3
        clear hd hq h1 e1
        go_enter Try.func11, Try.ntmps11
        go_wp2_with fail
        go_ret
        exact ⟨by rw [hf.out]; rfl, (Below.refl _ _).alloc (Nat.le_refl _) _⟩
      · have e3 : (k == 3) = false := beq_false_of_ne h3
        have hf := hid (show isWordB ⟨k, n, p, x⟩ s = false by unfold isWordB; rw [hd]; simp [h1, h3])
        clear hd hq h1 h3
        go_enter Try.func11, Try.ntmps11
        go_wp2_with fail
        go_ret
        exact ⟨by rw [hf.out]; rfl, (Below.refl _ _).alloc (Nat.le_refl _) _⟩
  | false =>
    have he := hq _ hd
    have hf := hid (show isWordB ⟨k, n, p, x⟩ s = false by unfold isWordB; rw [hd]; simp)
    by_cases h1 : k = 1
    · subst h1
      clear hd hq
      go_enter Try.func11, Try.ntmps11
      go_wp2_with fail
      go_ret
      exact ⟨by rw [hf.out]; rfl, (Below.refl _ _).alloc (Nat.le_refl _) _⟩
    · have e1 : (k == 1) = false := beq_false_of_ne h1
      by_cases h3 : k = 3
      · subst h3
        clear hd hq h1 e1
        go_enter Try.func11, Try.ntmps11
        go_wp2_with fail
        go_ret
        exact ⟨by rw [hf.out]; rfl, (Below.refl _ _).alloc (Nat.le_refl _) _⟩
      · have e3 : (k == 3) = false := beq_false_of_ne h3
        clear hd hq h1 h3
        go_enter Try.func11, Try.ntmps11
        go_wp2_with fail
        go_ret
        exact ⟨by rw [hf.out]; rfl, (Below.refl _ _).alloc (Nat.le_refl _) _⟩
/-- how many texts' letters and tokens -/
def szK (l : List Tok) : Nat := Lh.szL (l.map Tok.s)
end Go.Proofs.Ytgjdccibdgedbaa.Tk
