/- Tokens as the laws handle them: measured, copied; and IsWordToken, the program's and the model's. -/
import Derived.Test.YtgjdccibdgedbaaDoorTa
import Derived.Laws.Rows
import Derived.Laws.EntriesVeiled
set_option maxRecDepth 100000
namespace Go.Proofs.YtgjdccibdgedbaaDoor.Tk
open Go.RowKit Go.Lib Go.Sort Go.Proofs.YtgjdccibdgedbaaDoor.Com Go.Proofs.YtgjdccibdgedbaaDoor.Mem Go.Proofs.YtgjdccibdgedbaaDoor.Os Go.Proofs.YtgjdccibdgedbaaDoor.Ow

abbrev LTK : TypeId := 51
set_option maxHeartbeats 400000 in
theorem szTok (t : Tok) (hs : t.s.length ≤ 9223372036854775807) (left : Int) (h0 : 0 ≤ left) (h1 : left ≤ 1048576) (w : World) :
    Calls Tryd.prog 25 #[tv t, .int .i64 left] w fun e w' => e = .returned (.int .i64 (Lh.szAns t.s.length left)) ∧ Below w.heap.size w w' := by
  obtain ⟨k, n, p, s⟩ := t
  have hs : s.length ≤ 9223372036854775807 := hs
  by_cases hbig : left < s.length
  · have t0 : decide (left - (s.length : Int) < 0) = true := decide_eq_true (by omega)
    have hf := hid (show Lh.szAns s.length left = -1 by unfold Lh.szAns; rw [if_neg (by omega)])
    go_enter Tryd.func25, Tryd.ntmps25
    go_wp2_with fail
    go_ret
    exact ⟨by rw [hf.out]; rfl, (Below.refl _ _).alloc (Nat.le_refl _) _⟩
  · have t0 : decide (left - (s.length : Int) < 0) = false := decide_eq_false (by omega)
    have hf := hid (show Lh.szAns s.length left = left - (s.length : Int) by unfold Lh.szAns; rw [if_pos (by omega)])
    go_enter Tryd.func25, Tryd.ntmps25
    go_wp2_with fail
    go_ret
    exact ⟨by rw [hf.out]; rfl, (Below.refl _ _).alloc (Nat.le_refl _) _⟩
set_option maxHeartbeats 400000 in
theorem toTok (t : Tok) (w : World) : Calls Tryd.prog 28 #[tv t] w fun e w' => e = .returned (tv t) ∧ Below w.heap.size w w' := by
  obtain ⟨k, n, p, s⟩ := t
  go_enter Tryd.func28, Tryd.ntmps28
  go_wp2_with fail
  refine bodyPost_ret (results_cell_row Tryd.results28 _ _ (w.heap.size + 1) 30 _ (0, 0) _ rfl ((Below.heap_alloc _ _ _ (by simp)).trans (heap_alloc2_new _ _ _)) Tryd.underlying30 rfl (by kernel_rfl)) rfl ?_
  exact ⟨rfl, (((Below.refl _ _).alloc (Nat.le_refl _) _).alloc (by simp) _).alloc (by simp; omega) _⟩
def isWordB (t : Tok) (s : List UInt8) : Bool := (decide (t.k = 1) || decide (t.k = 3)) && decide (t.s = s)
set_option maxHeartbeats 1000000 in
theorem iword_any (t : Tok) (s : List UInt8) (w : World) : Calls Tryd.prog 10 #[tv t, .string ⟨s.toArray⟩] w fun e w' => e = .returned (.bool (isWordB t s)) ∧ Below w.heap.size w w' := by
  obtain ⟨k, n, p, x⟩ := t
  have hq : ∀ b, decide (x = s) = b → (x == s) = b := fun b h => by rw [← h]; by_cases e : x = s <;> simp [e]
  cases hd : decide (x = s) with
  | true =>
    have he := hq _ hd
    by_cases h1 : k = 1
    · have hf := hid (show isWordB ⟨k, n, p, x⟩ s = true by unfold isWordB; rw [hd]; simp [h1])
      subst h1
      clear hd hq
      go_enter Tryd.func10, Tryd.ntmps10
      go_wp2_with fail
      go_ret
      exact ⟨by rw [hf.out]; rfl, (Below.refl _ _).alloc (Nat.le_refl _) _⟩
    · have e1 : (k == 1) = false := beq_false_of_ne h1
      by_cases h3 : k = 3
      · have hf := hid (show isWordB ⟨k, n, p, x⟩ s = true by unfold isWordB; rw [hd]; simp [h3])
        subst h3
        clear hd hq h1 e1
        go_enter Tryd.func10, Tryd.ntmps10
        go_wp2_with fail
        go_ret
        exact ⟨by rw [hf.out]; rfl, (Below.refl _ _).alloc (Nat.le_refl _) _⟩
      · have e3 : (k == 3) = false := beq_false_of_ne h3
        have hf := hid (show isWordB ⟨k, n, p, x⟩ s = false by unfold isWordB; rw [hd]; simp [h1, h3])
        clear hd hq h1 h3
        go_enter Tryd.func10, Tryd.ntmps10
        go_wp2_with fail
        go_ret
        exact ⟨by rw [hf.out]; rfl, (Below.refl _ _).alloc (Nat.le_refl _) _⟩
  | false =>
    have he := hq _ hd
    have hf := hid (show isWordB ⟨k, n, p, x⟩ s = false by unfold isWordB; rw [hd]; simp)
    by_cases h1 : k = 1
    · subst h1
      clear hd hq
      go_enter Tryd.func10, Tryd.ntmps10
      go_wp2_with fail
      go_ret
      exact ⟨by rw [hf.out]; rfl, (Below.refl _ _).alloc (Nat.le_refl _) _⟩
    · have e1 : (k == 1) = false := beq_false_of_ne h1
      by_cases h3 : k = 3
      · subst h3
        clear hd hq h1 e1
        go_enter Tryd.func10, Tryd.ntmps10
        go_wp2_with fail
        go_ret
        exact ⟨by rw [hf.out]; rfl, (Below.refl _ _).alloc (Nat.le_refl _) _⟩
      · have e3 : (k == 3) = false := beq_false_of_ne h3
        clear hd hq h1 h3
        go_enter Tryd.func10, Tryd.ntmps10
        go_wp2_with fail
        go_ret
        exact ⟨by rw [hf.out]; rfl, (Below.refl _ _).alloc (Nat.le_refl _) _⟩
/-- how many texts' letters and tokens -/
def szK (l : List Tok) : Nat := Lh.szL (l.map Tok.s)
set_option maxHeartbeats 1000000 in
theorem szToks (A : Option Addr) (c : Nat) (l : List Tok) (left : Int) (w : World) (h : Rd w w.heap.size A (cellsT l)) (hm : ∀ t ∈ l, t.s.length ≤ 9223372036854775807) (hl : l.length ≤ 9223372036854775807) (h0 : 0 ≤ left) (h1 : left ≤ 1048576) :
    Calls Tryd.prog 11 #[.slice A l.length c, .int .i64 left] w fun e w' => e = .returned (.int .i64 (Lh.szAns (szK l) left)) ∧ Below w.heap.size w w' := by
  have hk : szK l = l.length + ((l.map Tok.s).map List.length).sum := by unfold szK Lh.szL; rw [List.length_map]
  have hst : ∀ m (hm : m < l.length), (((l.map Tok.s).take (m + 1)).map List.length).sum = (((l.map Tok.s).take m).map List.length).sum + l[m].s.length := fun m hm => by
    have := Lh.sum_take (l := l.map Tok.s) (k := m) (by simpa using hm)
    rw [this, List.getElem_map]
  have hle := fun m => Lh.sum_le (l.map Tok.s) m
  have hend : (((l.map Tok.s).take l.length).map List.length).sum = ((l.map Tok.s).map List.length).sum := by rw [List.take_of_length_le (by simp)]
  generalize hT : ((l.map Tok.s).map List.length).sum = T at *
  have hz : (((l.map Tok.s).take 0).map List.length).sum = 0 := by simp
  generalize hS : (fun m : Nat => (((l.map Tok.s).take m).map List.length).sum) = S at *
  have hS' : ∀ m, (((l.map Tok.s).take m).map List.length).sum = S m := fun m => by rw [← hS]
  simp only [hS'] at hst hle hend hz
  clear hS hS' hT
  by_cases hbig : left < l.length
  · have t0 : decide (left - (l.length : Int) < 0) = true := decide_eq_true (by omega)
    have hf := hid (show Lh.szAns (szK l) left = -1 by unfold Lh.szAns; rw [if_neg (by omega)])
    clear hst hle hend hz hk
    go_enter Tryd.func11, Tryd.ntmps11
    go_wp2_with fail
    go_ret
    exact ⟨by rw [hf.out]; rfl, Below.refl _ _⟩
  have t0 : decide (left - (l.length : Int) < 0) = false := decide_eq_false (by omega)
  have hst := hid hst
  have hle := hid hle
  have hend := hid hend
  have hz := hid hz
  have hk := hid hk
  go_enter Tryd.func11, Tryd.ntmps11
  go_wp2_with fail
  go_loopw [1, 5] (fun a i wr => ∃ m : Nat, m ≤ l.length ∧ i = .int .i64 m ∧ a = .int .i64 (left - (l.length : Int) - (S m : Int)) ∧ (S m : Int) ≤ left - l.length ∧ Below w.heap.size w wr) (fun _ i _ => l.length - (Go.RowKit.intOf i).toNat)
  case atStart => exact ⟨0, Nat.zero_le _, rfl, by rw [hz.out]; simp, by rw [hz.out]; omega, Below.refl _ _⟩
  case round =>
    obtain ⟨m, hml, rfl, rfl, hsm, hb⟩ := hrel
    by_cases hlt : m < l.length
    · obtain ⟨ad, rfl, _, k0, k1, k2, k3⟩ := rd_tok (h.below hb) hlt
      have hcl := szTok l[m] (hm _ (List.getElem_mem _)) (left - (l.length : Int) - (S m : Int)) (by omega) (by omega) wr
      have hs2 := hst.out m hlt
      have hb := hid hb
      by_cases hfit : (l[m].s.length : Int) ≤ left - (l.length : Int) - (S m : Int)
      · have hq : Lh.szAns l[m].s.length (left - (l.length : Int) - (S m : Int)) = left - (l.length : Int) - (S m : Int) - (l[m].s.length : Int) := by unfold Lh.szAns; rw [if_pos hfit]
        rw [hq] at hcl
        have tq : decide (left - (l.length : Int) - (S m : Int) - (l[m].s.length : Int) < 0) = false := decide_eq_false (by omega)
        have hcl := hid hcl
        clear hq
        go_wp2_with fail
        refine hcl.out.mono ?_
        rintro e w2 ⟨rfl, hb2⟩
        have hb2 := hid (hb.out.trans (hb2.mono hb.out.size))
        go_wp2_with fail
        exact ⟨⟨m + 1, hlt, by go_num, by rw [hs2]; congr 1; omega, by rw [hs2]; omega, hb2.out⟩, by simp [Go.RowKit.intOf]; omega⟩
      · have hq : Lh.szAns l[m].s.length (left - (l.length : Int) - (S m : Int)) = -1 := by unfold Lh.szAns; rw [if_neg hfit]
        rw [hq] at hcl
        have hcl := hid hcl
        have hf := hid (show Lh.szAns (szK l) left = -1 by
          have h1 := hle.out (m + 1)
          have := hk.out
          unfold Lh.szAns; rw [if_neg (by omega)])
        clear hq
        go_wp2_with fail
        refine hcl.out.mono ?_
        rintro e w2 ⟨rfl, hb2⟩
        have hb2 := hid (hb.out.trans (hb2.mono hb.out.size))
        go_wp2_with fail
        go_ret
        exact ⟨by rw [hf.out]; rfl, hb2.out⟩
    · obtain rfl : m = l.length := by omega
      have hf := hid (show Lh.szAns (szK l) left = left - (l.length : Int) - (S l.length : Int) by
        have h1 := hend.out
        have := hk.out
        unfold Lh.szAns; rw [if_pos (by omega)]; omega)
      have hb := hid hb
      go_wp2_with fail
      go_ret
      exact ⟨by rw [hf.out]; rfl, hb.out⟩
theorem szT_over (A : Option Addr) (c : Nat) (l : List Tok) (left : Int) (w : World) (h : Rd w w.heap.size A (cellsT l)) (hm : ∀ t ∈ l, t.s.length ≤ 9223372036854775807) (hl : l.length ≤ 9223372036854775807) (h0 : 0 ≤ left) (h1 : left ≤ 1048576) (h2 : left < szK l) :
    Calls Tryd.prog 11 #[.slice A l.length c, .int .i64 left] w fun e w' => e = .returned (.int .i64 (-1)) ∧ Below w.heap.size w w' :=
  (szToks A c l left w h hm hl h0 h1).mono fun e w' h => ⟨h.1.trans (by unfold Lh.szAns; rw [if_neg (by omega)]), h.2⟩
theorem szT_fit (A : Option Addr) (c : Nat) (l : List Tok) (left : Int) (w : World) (h : Rd w w.heap.size A (cellsT l)) (hm : ∀ t ∈ l, t.s.length ≤ 9223372036854775807) (hl : l.length ≤ 9223372036854775807) (h0 : 0 ≤ left) (h1 : left ≤ 1048576) (h2 : szK l ≤ left) :
    Calls Tryd.prog 11 #[.slice A l.length c, .int .i64 left] w fun e w' => e = .returned (.int .i64 (left - (szK l : Int))) ∧ Below w.heap.size w w' :=
  (szToks A c l left w h hm hl h0 h1).mono fun e w' h => ⟨h.1.trans (by unfold Lh.szAns; rw [if_pos (by omega)]), h.2⟩
end Go.Proofs.YtgjdccibdgedbaaDoor.Tk
