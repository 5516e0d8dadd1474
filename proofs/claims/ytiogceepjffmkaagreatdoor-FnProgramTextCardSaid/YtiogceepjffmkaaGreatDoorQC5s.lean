/- The model's tokens. -/
import Derived.Test.YtiogceepjffmkaaGreatDoorQTk
import Derived.Test.YtiogceepjffmkaaGreatDoorQC3a
set_option maxHeartbeats 4000000
set_option maxRecDepth 100000
namespace Go.Proofs.YtiogceepjffmkaaGreatDoor.Tk
open Go.RowKit Go.Lib Num Com Mem Ch YtiogceepjffmkaaGreatDoor.Os
theorem sletter_any (c : UInt8) (w : World) : Calls Tryz.prog 73 #[.int .u8 c.toNat] w fun e w' => e = .returned (.bool (isLow c)) ∧ w = w' := by
 by_cases h1 : 97 ≤ c.toNat
 ·by_cases h2 : c.toNat ≤ 122
  ·have t1 : decide ((97 : Int) ≤ (c.toNat : Int)) = true := decide_eq_true (by omega)
   have t2 : decide ((c.toNat : Int) ≤ 122) = true := decide_eq_true (by omega)
   have hf := hid (show isLow c = true by simp [isLow]; omega)
   go_enter Tryz.func73, Tryz.ntmps73
   go_wp2_with fail
   go_ret
   exact ⟨by rw [hf.out]; rfl, rfl⟩
  ·have t1 : decide ((97 : Int) ≤ (c.toNat : Int)) = true := decide_eq_true (by omega)
   have t2 : decide ((c.toNat : Int) ≤ 122) = false := decide_eq_false (by omega)
   have hf := hid (show isLow c = false by simp [isLow]; omega)
   go_enter Tryz.func73, Tryz.ntmps73
   go_wp2_with fail
   go_ret
   exact ⟨by rw [hf.out]; rfl, rfl⟩
 ·have t1 : decide ((97 : Int) ≤ (c.toNat : Int)) = false := decide_eq_false (by omega)
  have hf := hid (show isLow c = false by simp [isLow]; omega)
  go_enter Tryz.func73, Tryz.ntmps73
  go_wp2_with fail
  go_ret
  exact ⟨by rw [hf.out]; rfl, rfl⟩
theorem sdigit_any (c : UInt8) (w : World) : Calls Tryz.prog 74 #[.int .u8 c.toNat] w fun e w' => e = .returned (.bool (isDig c)) ∧ w = w' := by
 by_cases h1 : 48 ≤ c.toNat
 ·by_cases h2 : c.toNat ≤ 57
  ·have t1 : decide ((48 : Int) ≤ (c.toNat : Int)) = true := decide_eq_true (by omega)
   have t2 : decide ((c.toNat : Int) ≤ 57) = true := decide_eq_true (by omega)
   have hf := hid (show isDig c = true by simp [isDig]; omega)
   go_enter Tryz.func74, Tryz.ntmps74
   go_wp2_with fail
   go_ret
   exact ⟨by rw [hf.out]; rfl, rfl⟩
  ·have t1 : decide ((48 : Int) ≤ (c.toNat : Int)) = true := decide_eq_true (by omega)
   have t2 : decide ((c.toNat : Int) ≤ 57) = false := decide_eq_false (by omega)
   have hf := hid (show isDig c = false by simp [isDig]; omega)
   go_enter Tryz.func74, Tryz.ntmps74
   go_wp2_with fail
   go_ret
   exact ⟨by rw [hf.out]; rfl, rfl⟩
 ·have t1 : decide ((48 : Int) ≤ (c.toNat : Int)) = false := decide_eq_false (by omega)
  have hf := hid (show isDig c = false by simp [isDig]; omega)
  go_enter Tryz.func74, Tryz.ntmps74
  go_wp2_with fail
  go_ret
  exact ⟨by rw [hf.out]; rfl, rfl⟩
theorem ones_cases {z : Nat} (h : z ∈ ones) : z = 40 ∨ z = 41 ∨ z = 123 ∨ z = 125 ∨ z = 59 ∨ z = 43 ∨ z = 45 ∨ z = 42 ∨ z = 47 ∨ z = 60 ∨ z = 38 ∨ z = 124 ∨ z = 33 := by
 simpa [ones] using h
theorem eqf {z k : Int} (h : z ≠ k) : (z == k) = false := beq_eq_false_iff_ne.2 h
theorem ssym_any (S : List UInt8) (a : Nat) (h : a < S.length) (hl : S.length ≤ 400) (w : World) : Calls Tryz.prog 76 #[.string ⟨S.toArray⟩, .int .i64 a] w fun e w' => e = .returned (.int .i64 (symL (bt S a h) (S.drop (a + 1)))) ∧ w = w' := by
 by_cases hm : (bt S a h).toNat ∈ ones
 ·have hf := hid (show symL (bt S a h) (S.drop (a + 1)) = 1 by unfold symL; rw [if_pos hm])
  rcases ones_cases hm with hz | hz | hz | hz | hz | hz | hz | hz | hz | hz | hz | hz | hz
  all_goals
   have hz' : (((bt S a h).toNat : Nat) : Int) = _ := congrArg Int.ofNat hz
   clear hm hz
   go_enter Tryz.func76, Tryz.ntmps76
   go_wp2_with fail
   go_ret
   exact ⟨by rw [hf.out]; rfl, rfl⟩
 ·have hn : ∀ k : Int, k ∈ [(40 : Int), 41, 123, 125, 59, 43, 45, 42, 47, 60, 38, 124, 33] → ((((bt S a h).toNat : Nat) : Int) == k) = false := fun k hk => by
   refine eqf fun e => hm ?_
   have : ((((bt S a h).toNat : Nat) : Int)) ∈ [(40 : Int), 41, 123, 125, 59, 43, 45, 42, 47, 60, 38, 124, 33] := e ▸ hk
   simp only [List.mem_cons, List.not_mem_nil, or_false] at this
   simp only [ones, List.mem_cons, List.not_mem_nil, or_false]
   omega
  have n0 := hn 40 (by simp)
  have n1 := hn 41 (by simp)
  have n2 := hn 123 (by simp)
  have n3 := hn 125 (by simp)
  have n4 := hn 59 (by simp)
  have n5 := hn 43 (by simp)
  have n6 := hn 45 (by simp)
  have n7 := hn 42 (by simp)
  have n8 := hn 47 (by simp)
  have n9 := hn 60 (by simp)
  have n10 := hn 38 (by simp)
  have n11 := hn 124 (by simp)
  have n12 := hn 33 (by simp)
  clear hn
  by_cases h2 : (bt S a h).toNat = 61 ∨ (bt S a h).toNat = 58
  ·by_cases hlt : a + 1 < S.length
   ·have q1 : ((a + 1 : Nat) : Int) = (a : Int) + 1 := by omega
    have t1 : decide ((a : Int) + 1 < (S.length : Int)) = true := decide_eq_true (by omega)
    have hh : ((S.drop (a + 1)).head?.map UInt8.toNat) = some (bt S (a + 1) hlt).toNat := by rw [head_drop, List.getElem?_eq_getElem hlt]; rfl
    by_cases h3 : (bt S (a + 1) hlt).toNat = 61
    ·have t2 : ((((bt S (a + 1) hlt).toNat : Nat) : Int) == 61) = true := by rw [h3]; rfl
     have hf := hid (show symL (bt S a h) (S.drop (a + 1)) = 2 by unfold symL; rw [if_neg hm, if_pos ⟨h2, by rw [hh, h3]⟩])
     rcases h2 with hz | hz
     all_goals
      have hz' : (((bt S a h).toNat : Nat) : Int) = _ := congrArg Int.ofNat hz
      clear hm hz hh h3
      go_enter Tryz.func76, Tryz.ntmps76
      go_wp2_with fail
      go_ret
      exact ⟨by rw [hf.out]; rfl, rfl⟩
    ·have t2 : ((((bt S (a + 1) hlt).toNat : Nat) : Int) == 61) = false := eqf (by omega)
     have hf := hid (show symL (bt S a h) (S.drop (a + 1)) = 0 by unfold symL; rw [if_neg hm, if_neg (fun e => h3 (by have := e.2; rw [hh] at this; exact Option.some.inj this))])
     rcases h2 with hz | hz
     all_goals
      have hz' : (((bt S a h).toNat : Nat) : Int) = _ := congrArg Int.ofNat hz
      clear hm hz hh h3
      go_enter Tryz.func76, Tryz.ntmps76
      go_wp2_with fail
      go_ret
      exact ⟨by rw [hf.out]; rfl, rfl⟩
   ·have t1 : decide ((a : Int) + 1 < (S.length : Int)) = false := decide_eq_false (by omega)
    have hf := hid (show symL (bt S a h) (S.drop (a + 1)) = 0 by
     unfold symL; rw [if_neg hm, if_neg (fun e => by have := e.2; rw [List.drop_eq_nil_of_le (by omega)] at this; cases this)])
    rcases h2 with hz | hz
    all_goals
     have hz' : (((bt S a h).toNat : Nat) : Int) = _ := congrArg Int.ofNat hz
     clear hm hz
     go_enter Tryz.func76, Tryz.ntmps76
     go_wp2_with fail
     go_ret
     exact ⟨by rw [hf.out]; rfl, rfl⟩
  ·have hz1 : (((((bt S a h).toNat : Nat) : Int)) == 61) = false := eqf (by omega)
   have hz2 : (((((bt S a h).toNat : Nat) : Int)) == 58) = false := eqf (by omega)
   have hf := hid (show symL (bt S a h) (S.drop (a + 1)) = 0 by unfold symL; rw [if_neg hm, if_neg (fun e => h2 e.1)])
   clear hm h2
   go_enter Tryz.func76, Tryz.ntmps76
   go_wp2_with fail
   go_ret
   exact ⟨by rw [hf.out]; rfl, rfl⟩
open C3
def Wds (S : List UInt8) (a k : Nat) : Prop := ∀ j, a ≤ j → j < k → ∀ hs : j < S.length, isWd S[j] = true
theorem Wds.snoc {S : List UInt8} {a k : Nat} (h : Wds S a k) (hk : k < S.length) (hw : isWd S[k] = true) : Wds S a (k + 1) := fun j h1 h2 hs => by
 rcases Nat.lt_or_ge j k with hl | hl
 ·exact h j h1 hl hs
 ·obtain rfl : j = k := by omega
  exact hw
theorem wordLen_at {S : List UInt8} {a : Nat} (h : a < S.length) : wordLen (bt S a h :: S.drop (a + 1)) = wordLen (S.drop a) := by rw [drop_at h]; rfl
theorem tokL_word {S : List UInt8} {a k : Nat} (h : a < S.length) (hb : isLow (bt S a h) = true) (hw : wordLen (S.drop a) = k - a) : tokL (bt S a h) (S.drop (a + 1)) = if k - a ≤ 8 then k - a else 0 := by
 unfold tokL; rw [if_pos hb, wordLen_at, hw]
theorem tokV_word {S : List UInt8} {a k : Nat} (h : a < S.length) (hb : isLow (bt S a h) = true) (hw : wordLen (S.drop a) = k - a) : tokV (bt S a h) (S.drop (a + 1)) a = ⟨1, 0, a, (S.drop a).take (k - a)⟩ := by
 unfold tokV; rw [if_pos hb, wordLen_at, hw, drop_at h]; rfl
abbrev NextOk (S : List UInt8) (a : Nat) (h : a < S.length) (w : World) (e : Ending) (w' : World) : Prop :=
 ∃ t : Tok, e = .returned (.tuple #[tv t, .int .i64 ((tokL (bt S a h) (S.drop (a + 1)) : Nat) : Int)]) ∧ (tokL (bt S a h) (S.drop (a + 1)) ≠ 0 → t = tokV (bt S a h) (S.drop (a + 1)) a) ∧ Below w.heap.size w w'
theorem snext_word (S : List UInt8) (a : Nat) (h : a < S.length) (hl : S.length ≤ 400) (hb : isLow (bt S a h) = true) (w : World) :
  Calls Tryz.prog 33 #[.string ⟨S.toArray⟩, .int .i64 a] w (NextOk S a h w) := by
 have hlet := hid (fun w => sletter_any (bt S a h) w)
 rw [hb] at hlet
 have hb := hid hb
 go_enter Tryz.func33, Tryz.ntmps33
 go_wp2_with fail
 refine (hlet.out _).mono ?_
 rintro e w1 ⟨rfl, rfl⟩
 go_wp2_with fail
 go_loop [7] (fun i => ∃ k : Nat, a ≤ k ∧ k ≤ S.length ∧ i = .int .i64 k ∧ Wds S a k) (fun i => S.length - (Go.RowKit.intOf i).toNat)
 case atStart => exact ⟨a, Nat.le_refl _, by omega, rfl, fun j h1 h2 _ => by omega⟩
 case round =>
  obtain ⟨k, hak, hkl, rfl, hwd⟩ := hrel
  have hwd := hid hwd
  by_cases hlt : k < S.length
  ·have h1 := hid (fun w => sletter_any (bt S k hlt) w)
   have h2 := hid (fun w => sdigit_any (bt S k hlt) w)
   cases a1 : isLow (bt S k hlt) with
   | true =>
    rw [a1] at h1
    have hnx := hid (hwd.out.snoc hlt (show isWd (bt S k hlt) = true by unfold isWd; rw [a1]; rfl))
    go_wp2_with fail
    refine (h1.out _).mono ?_
    rintro e w1 ⟨rfl, rfl⟩
    go_wp2_with fail
    go_round
    case rel => exact ⟨k + 1, by omega, hlt, by go_num, hnx.out⟩
    case measure => simp [Go.RowKit.intOf]; omega
   | false =>
    rw [a1] at h1
    cases a2 : isDig (bt S k hlt) with
    | true =>
     rw [a2] at h2
     have hnx := hid (hwd.out.snoc hlt (show isWd (bt S k hlt) = true by unfold isWd; rw [a1, a2]; rfl))
     go_wp2_with fail
     refine (h1.out _).mono ?_
     rintro e w1 ⟨rfl, rfl⟩
     go_wp2_with fail
     refine (h2.out _).mono ?_
     rintro e w1 ⟨rfl, rfl⟩
     go_wp2_with fail
     go_round
     case rel => exact ⟨k + 1, by omega, hlt, by go_num, hnx.out⟩
     case measure => simp [Go.RowKit.intOf]; omega
    | false =>
     rw [a2] at h2
     have hw := wordLen_eq hwd.out hak hkl (fun hs => show isWd (bt S k hlt) = false by unfold isWd; rw [a1, a2]; rfl)
     have hL := hid (tokL_word h hb.out hw)
     have hV := hid (tokV_word h hb.out hw)
     have hx := txt_cut S a k
     have q1 : (k : Int) - (a : Int) = ((k - a : Nat) : Int) := by omega
     clear hw
     by_cases h8 : k - a ≤ 8
     ·have t8 : decide (8 < ((k - a : Nat) : Int)) = false := decide_eq_false (by omega)
      go_wp2_with fail
      refine (h1.out _).mono ?_
      rintro e w1 ⟨rfl, rfl⟩
      go_wp2_with fail
      refine (h2.out _).mono ?_
      rintro e w1 ⟨rfl, rfl⟩
      go_wp2_with fail
      refine bodyPost_ret (results_cell2 Tryz.results33 _ _ w.heap.size 67 _ (0, 0) _ rfl (heap_alloc2_old _ _ _) Tryz.underlying67 rfl (by kernel_rfl)) rfl ?_
      exact ⟨⟨1, 0, a, (S.drop a).take (k - a)⟩, by rw [hL.out, if_pos h8]; rfl, fun _ => hV.out.symm, ((Below.refl _ _).alloc (Nat.le_refl _) _).alloc (by simp) _⟩
     ·have t8 : decide (8 < ((k - a : Nat) : Int)) = true := decide_eq_true (by omega)
      go_wp2_with fail
      refine (h1.out _).mono ?_
      rintro e w1 ⟨rfl, rfl⟩
      go_wp2_with fail
      refine (h2.out _).mono ?_
      rintro e w1 ⟨rfl, rfl⟩
      go_wp2_with fail
      refine bodyPost_ret (results_cell2 Tryz.results33 _ _ w.heap.size 67 _ (0, 0) _ rfl (heap_alloc2_old _ _ _) Tryz.underlying67 rfl (by kernel_rfl)) rfl ?_
      exact ⟨⟨1, 0, a, (S.drop a).take (k - a)⟩, by rw [hL.out, if_neg h8]; rfl, fun hne => absurd (by rw [hL.out, if_neg h8]) hne, ((Below.refl _ _).alloc (Nat.le_refl _) _).alloc (by simp) _⟩
  ·obtain rfl : k = S.length := by omega
   have hw := wordLen_eq hwd.out hak hkl (fun hs => absurd hs (by omega))
   have hL := hid (tokL_word h hb.out hw)
   have hV := hid (tokV_word h hb.out hw)
   have hx := txt_cut S a S.length
   have q1 : (S.length : Int) - (a : Int) = ((S.length - a : Nat) : Int) := by omega
   clear hw
   by_cases h8 : S.length - a ≤ 8
   ·have t8 : decide (8 < ((S.length - a : Nat) : Int)) = false := decide_eq_false (by omega)
    go_wp2_with fail
    refine bodyPost_ret (results_cell2 Tryz.results33 _ _ w.heap.size 67 _ (0, 0) _ rfl (heap_alloc2_old _ _ _) Tryz.underlying67 rfl (by kernel_rfl)) rfl ?_
    exact ⟨⟨1, 0, a, (S.drop a).take (S.length - a)⟩, by rw [hL.out, if_pos h8]; rfl, fun _ => hV.out.symm, ((Below.refl _ _).alloc (Nat.le_refl _) _).alloc (by simp) _⟩
   ·have t8 : decide (8 < ((S.length - a : Nat) : Int)) = true := decide_eq_true (by omega)
    go_wp2_with fail
    refine bodyPost_ret (results_cell2 Tryz.results33 _ _ w.heap.size 67 _ (0, 0) _ rfl (heap_alloc2_old _ _ _) Tryz.underlying67 rfl (by kernel_rfl)) rfl ?_
    exact ⟨⟨1, 0, a, (S.drop a).take (S.length - a)⟩, by rw [hL.out, if_neg h8]; rfl, fun hne => absurd (by rw [hL.out, if_neg h8]) hne, ((Below.refl _ _).alloc (Nat.le_refl _) _).alloc (by simp) _⟩
theorem snext_num (S : List UInt8) (a : Nat) (h : a < S.length) (hl : S.length ≤ 400) (hb : isLow (bt S a h) = false) (hd : isDig (bt S a h) = true) (w : World) :
  Calls Tryz.prog 33 #[.string ⟨S.toArray⟩, .int .i64 a] w (NextOk S a h w) := by
 have hlet := hid (fun w => sletter_any (bt S a h) w)
 have hdig := hid (fun w => sdigit_any (bt S a h) w)
 have hV := hid (show tokV (bt S a h) (S.drop (a + 1)) a = ⟨2, ((bt S a h).toNat : Int) - 48, a, []⟩ by unfold tokV; rw [if_neg (by simp [hb]), if_pos hd])
 have hL0 : tokL (bt S a h) (S.drop (a + 1)) = if numOk (bt S a h) (S.drop (a + 1)) = true then 1 else 0 := by unfold tokL; rw [if_neg (by simp [hb]), if_pos hd]
 rw [hb] at hlet
 rw [hd] at hdig
 obtain ⟨d0, d1⟩ := isDig_bounds hd
 have q1 : (((bt S a h).toNat : Int) - 48) % 256 = ((bt S a h).toNat : Int) - 48 := by have := (bt S a h).toNat_lt; omega
 have hW := hid (fun w => sisWord_any (((bt S a h).toNat : Int) - 48) w)
 clear hb hd
 have e6 : (a : Int) + 1 - (a : Int) = 1 := by omega
 by_cases h4 : (bt S a h).toNat < 52
 ·have e4 : isW (((bt S a h).toNat : Int) - 48) = true := isW_iff.2 ⟨by omega, by omega⟩
  rw [e4] at hW
  have e5 : ((a + 1 : Nat) : Int) = (a : Int) + 1 := by omega
  by_cases hlt : a + 1 < S.length
  ·have t1 : decide ((a : Int) + 1 < (S.length : Int)) = true := decide_eq_true (by omega)
   have hd2 := hid (fun w => sdigit_any (bt S (a + 1) hlt) w)
   have hh : ((S.drop (a + 1)).head?.any isDig) = isDig (bt S (a + 1) hlt) := by rw [head_drop, List.getElem?_eq_getElem hlt]; rfl
   cases a2 : isDig (bt S (a + 1) hlt) with
   | true =>
    have hL := hid (show tokL (bt S a h) (S.drop (a + 1)) = 0 by rw [hL0]; unfold numOk; rw [hh, decide_eq_true h4, a2]; rfl)
    rw [a2] at hd2
    clear hL0 hh
    go_enter Tryz.func33, Tryz.ntmps33
    go_wp2_with fail
    refine (hlet.out _).mono ?_
    rintro e w1 ⟨rfl, rfl⟩
    go_wp2_with fail
    refine (hdig.out _).mono ?_
    rintro e w1 ⟨rfl, rfl⟩
    go_wp2_with fail
    refine (hW.out _).mono ?_
    rintro e w1 ⟨rfl, rfl⟩
    go_wp2_with fail
    refine (hd2.out _).mono ?_
    rintro e w1 ⟨rfl, rfl⟩
    go_wp2_with fail
    refine bodyPost_ret (results_cell2 Tryz.results33 _ _ w.heap.size 67 _ (0, 0) _ rfl (heap_alloc2_old _ _ _) Tryz.underlying67 rfl (by kernel_rfl)) rfl ?_
    exact ⟨⟨2, ((bt S a h).toNat : Int) - 48, a, []⟩, by rw [hL.out]; rfl, fun hne => absurd hL.out hne, ((Below.refl _ _).alloc (Nat.le_refl _) _).alloc (by simp) _⟩
   | false =>
    have hL := hid (show tokL (bt S a h) (S.drop (a + 1)) = 1 by rw [hL0]; unfold numOk; rw [hh, decide_eq_true h4, a2]; rfl)
    rw [a2] at hd2
    clear hL0 hh
    go_enter Tryz.func33, Tryz.ntmps33
    go_wp2_with fail
    refine (hlet.out _).mono ?_
    rintro e w1 ⟨rfl, rfl⟩
    go_wp2_with fail
    refine (hdig.out _).mono ?_
    rintro e w1 ⟨rfl, rfl⟩
    go_wp2_with fail
    refine (hW.out _).mono ?_
    rintro e w1 ⟨rfl, rfl⟩
    go_wp2_with fail
    refine (hd2.out _).mono ?_
    rintro e w1 ⟨rfl, rfl⟩
    go_wp2_with fail
    refine bodyPost_ret (results_cell2 Tryz.results33 _ _ w.heap.size 67 _ (0, 0) _ rfl (heap_alloc2_old _ _ _) Tryz.underlying67 rfl (by kernel_rfl)) rfl ?_
    exact ⟨⟨2, ((bt S a h).toNat : Int) - 48, a, []⟩, by rw [hL.out]; rfl, fun _ => hV.out.symm, ((Below.refl _ _).alloc (Nat.le_refl _) _).alloc (by simp) _⟩
  ·have t1 : decide ((a : Int) + 1 < (S.length : Int)) = false := decide_eq_false (by omega)
   have hL := hid (show tokL (bt S a h) (S.drop (a + 1)) = 1 by rw [hL0]; unfold numOk; rw [decide_eq_true h4, List.drop_eq_nil_of_le (by omega)]; rfl)
   clear hL0
   go_enter Tryz.func33, Tryz.ntmps33
   go_wp2_with fail
   refine (hlet.out _).mono ?_
   rintro e w1 ⟨rfl, rfl⟩
   go_wp2_with fail
   refine (hdig.out _).mono ?_
   rintro e w1 ⟨rfl, rfl⟩
   go_wp2_with fail
   refine (hW.out _).mono ?_
   rintro e w1 ⟨rfl, rfl⟩
   go_wp2_with fail
   refine bodyPost_ret (results_cell2 Tryz.results33 _ _ w.heap.size 67 _ (0, 0) _ rfl (heap_alloc2_old _ _ _) Tryz.underlying67 rfl (by kernel_rfl)) rfl ?_
   exact ⟨⟨2, ((bt S a h).toNat : Int) - 48, a, []⟩, by rw [hL.out]; rfl, fun _ => hV.out.symm, ((Below.refl _ _).alloc (Nat.le_refl _) _).alloc (by simp) _⟩
 ·have e4 : isW (((bt S a h).toNat : Int) - 48) = false := by
   cases hq : isW (((bt S a h).toNat : Int) - 48) with
   | false => rfl
   | true => have := isW_iff.1 hq; omega
  rw [e4] at hW
  have hL := hid (show tokL (bt S a h) (S.drop (a + 1)) = 0 by rw [hL0]; unfold numOk; rw [decide_eq_false h4]; rfl)
  clear hL0
  go_enter Tryz.func33, Tryz.ntmps33
  go_wp2_with fail
  refine (hlet.out _).mono ?_
  rintro e w1 ⟨rfl, rfl⟩
  go_wp2_with fail
  refine (hdig.out _).mono ?_
  rintro e w1 ⟨rfl, rfl⟩
  go_wp2_with fail
  refine (hW.out _).mono ?_
  rintro e w1 ⟨rfl, rfl⟩
  go_wp2_with fail
  refine bodyPost_ret (results_cell2 Tryz.results33 _ _ w.heap.size 67 _ (0, 0) _ rfl (heap_alloc2_old _ _ _) Tryz.underlying67 rfl (by kernel_rfl)) rfl ?_
  exact ⟨⟨2, ((bt S a h).toNat : Int) - 48, a, []⟩, by rw [hL.out]; rfl, fun hne => absurd hL.out hne, ((Below.refl _ _).alloc (Nat.le_refl _) _).alloc (by simp) _⟩
theorem tokL_sym {S : List UInt8} {a : Nat} (h : a < S.length) (hb : isLow (bt S a h) = false) (hd : isDig (bt S a h) = false) : tokL (bt S a h) (S.drop (a + 1)) = symL (bt S a h) (S.drop (a + 1)) := by
 unfold tokL; rw [if_neg (by simp [hb]), if_neg (by simp [hd])]
theorem tokV_sym {S : List UInt8} {a : Nat} (h : a < S.length) (hb : isLow (bt S a h) = false) (hd : isDig (bt S a h) = false) : tokV (bt S a h) (S.drop (a + 1)) a = ⟨3, 0, a, (S.drop a).take (symL (bt S a h) (S.drop (a + 1)))⟩ := by
 unfold tokV; rw [if_neg (by simp [hb]), if_neg (by simp [hd]), drop_at h]; rfl
theorem snext_sym (S : List UInt8) (a : Nat) (h : a < S.length) (hl : S.length ≤ 400) (hb : isLow (bt S a h) = false) (hd : isDig (bt S a h) = false) (w : World) :
  Calls Tryz.prog 33 #[.string ⟨S.toArray⟩, .int .i64 a] w (NextOk S a h w) := by
 have hlet := hid (fun w => sletter_any (bt S a h) w)
 have hdig := hid (fun w => sdigit_any (bt S a h) w)
 have hsym := hid (fun w => ssym_any S a h hl w)
 have hL := hid (tokL_sym h hb hd)
 have hV := hid (tokV_sym h hb hd)
 rw [hb] at hlet
 rw [hd] at hdig
 have hle := symL_le (bt S a h) (S.drop (a + 1))
 rw [List.length_drop] at hle
 generalize symL (bt S a h) (S.drop (a + 1)) = m at *
 have hx := txt_cut S a (a + m)
 rw [Nat.add_sub_cancel_left] at hx
 have q2 : (a : Int) + (m : Int) - (a : Int) = (m : Int) := by omega
 have q3 : a + m ≤ S.length := by omega
 have q4 : a ≤ a + m := by omega
 clear hb hd hle
 go_enter Tryz.func33, Tryz.ntmps33
 go_wp2_with fail
 refine (hlet.out _).mono ?_
 rintro e w1 ⟨rfl, rfl⟩
 go_wp2_with fail
 refine (hdig.out _).mono ?_
 rintro e w1 ⟨rfl, rfl⟩
 go_wp2_with fail
 refine (hsym.out _).mono ?_
 rintro e w1 ⟨rfl, rfl⟩
 go_wp2_with fail
 refine bodyPost_ret (results_cell2 Tryz.results33 _ _ w.heap.size 67 _ (0, 0) _ rfl (heap_alloc2_old _ _ _) Tryz.underlying67 rfl (by kernel_rfl)) rfl ?_
 exact ⟨⟨3, 0, a, (S.drop a).take m⟩, by rw [hL.out]; rfl, fun _ => hV.out.symm, ((Below.refl _ _).alloc (Nat.le_refl _) _).alloc (by simp) _⟩
theorem snext (S : List UInt8) (a : Nat) (h : a < S.length) (hl : S.length ≤ 400) (w : World) : Calls Tryz.prog 33 #[.string ⟨S.toArray⟩, .int .i64 a] w (NextOk S a h w) := by
 cases hb : isLow (bt S a h) with
 | true => exact snext_word S a h hl hb w
 | false =>
  cases hd : isDig (bt S a h) with
  | true => exact snext_num S a h hl hb hd w
  | false => exact snext_sym S a h hl hb hd w
theorem stokz (S : List UInt8) (hS : S.length ≤ 9223372036854775807) (w : World) : Calls Tryz.prog 13 #[.string ⟨S.toArray⟩] w (TokOk S w) := by
 have hnil := hid (fun (w1 : World) => (OwnT.of_row (row_lit0 w1)))
 by_cases hbig : 400 < S.length
 ·have t1 : decide (400 < (S.length : Int)) = true := decide_eq_true (by omega)
  have hf := hid (tokz_big hbig)
  go_enter Tryz.func13, Tryz.ntmps13
  go_wp2_with fail
  go_ret2
  exact ⟨_, by rw [hf.out]; rfl, by rw [hf.out]; exact hnil.out w, (Below.refl _ _).alloc (Nat.le_refl _) _⟩
 have t1 : decide (400 < (S.length : Int)) = false := decide_eq_false (by omega)
 have hl : S.length ≤ 400 := by omega
 have hf := hid (tokz_small hl)
 have hst := hid (show Lay S 0 [] by unfold Lay; rw [List.drop_zero])
 have hr0 := hid (row_lit0 w)
 go_enter Tryz.func13, Tryz.ntmps13
 go_wp2_with fail
 go_loopw [4, 5] (fun o i wr => ∃ (a : Nat) (out : List Tok) (A : Option Addr) (c : Nat), a ≤ S.length ∧ i = .int .i64 a ∧ o = .slice A out.length c ∧ RowT wr w.heap.size (.slice A out.length c) out ∧ Lay S a out ∧ out.length ≤ 150 ∧ Below w.heap.size w wr) (fun _ i _ => S.length - (Go.RowKit.intOf i).toNat)
 case atStart => exact ⟨0, [], _, _, Nat.zero_le _, rfl, rfl, hr0.out, hst.out, by simp, (Below.refl _ _).alloc (Nat.le_refl _) _⟩
 case round =>
  obtain ⟨a, out, A, c, ha, rfl, rfl, hrow, hlay, h150, hb⟩ := hrel
  have hrow := hid hrow
  have hlay := hid hlay
  have hb := hid hb
  by_cases hlt : a < S.length
  ·have t2 : decide ((a : Int) < (S.length : Int)) = true := decide_eq_true (by omega)
   cases hs : isSep (bt S a hlt) with
   | true =>
    have hnx := hid (hlay.out.sep hlt hs)
    by_cases h32 : (bt S a hlt).toNat = 32
    ·have hz' : (((bt S a hlt).toNat : Nat) : Int) = _ := congrArg Int.ofNat h32
     clear hs h32
     go_wp2_with fail
     exact ⟨⟨a + 1, out, A, c, hlt, by go_num, rfl, hrow.out, hnx.out, h150, hb.out⟩, by simp [Go.RowKit.intOf]; omega⟩
    ·have hz' : (((bt S a hlt).toNat : Nat) : Int) = _ := congrArg Int.ofNat (show (bt S a hlt).toNat = 10 by simp only [isSep, Bool.or_eq_true, decide_eq_true_eq] at hs; omega)
     clear hs h32
     go_wp2_with fail
     exact ⟨⟨a + 1, out, A, c, hlt, by go_num, rfl, hrow.out, hnx.out, h150, hb.out⟩, by simp [Go.RowKit.intOf]; omega⟩
   | false =>
    obtain ⟨n1, n2⟩ := sep_32 hs
    have hcl := hid (snext S a hlt hl wr)
    have hle := tokL_le (bt S a hlt) (S.drop (a + 1))
    rw [List.length_drop] at hle
    have hbad := hid (fun h2 => hlay.out.bad hlt hs h2)
    have htok := hid (fun h2 h3 => hlay.out.tok hlt hs h2 h3)
    unfold NextOk at hcl
    generalize tokL (bt S a hlt) (S.drop (a + 1)) = m at *
    generalize tokV (bt S a hlt) (S.drop (a + 1)) a = tk at *
    clear hs
    go_wp2_with fail
    refine hcl.out.mono ?_
    rintro e w2 ⟨t, rfl, ht, hb2⟩
    have hrow2 := hid (row_below hrow.out hb2)
    have hb3 := hid (hb.out.trans (hb2.mono hb.out.size))
    clear hb2
    by_cases hm : m = 0
    ·subst hm
     have hfin := hid (hbad.out (Or.inl rfl))
     go_wp2_with fail
     go_ret2
     exact ⟨_, by rw [hf.out, hfin.out]; rfl, by
      rw [hf.out, hfin.out]
      have := hnil.out (w2.alloc (.cells #[.int .i64 t.k, .int .i64 t.n, .int .i64 t.p, sv t.s] TK))
      rw [size_alloc'] at this
      exact this.mono (by have := hb3.out.size; omega) (Nat.le_refl _), (hb3.out.alloc hb3.out.size _).alloc (by have := hb3.out.size; rw [size_alloc']; omega) _⟩
    ·obtain rfl := ht hm
     have tm : ((m : Int) == 0) = false := beq_eq_false_iff_ne.2 (by omega)
     clear ht
     by_cases hfull : out.length = 150
     ·have hfin := hid (hbad.out (Or.inr hfull))
      have tf : ((out.length : Int) == 150) = true := by rw [hfull]; rfl
      go_wp2_with fail
      go_ret2
      exact ⟨_, by rw [hf.out, hfin.out]; rfl, by
       rw [hf.out, hfin.out]
       have := hnil.out (w2.alloc (.cells #[.int .i64 t.k, .int .i64 t.n, .int .i64 t.p, sv t.s] TK))
       rw [size_alloc'] at this
       exact this.mono (by have := hb3.out.size; omega) (Nat.le_refl _), (hb3.out.alloc hb3.out.size _).alloc (by have := hb3.out.size; rw [size_alloc']; omega) _⟩
     ·have tf : ((out.length : Int) == 150) = false := beq_eq_false_iff_ne.2 (by omega)
      have hnx := hid (htok.out hm hfull)
      have hb4 := hid (hb3.out.alloc hb3.out.size (.cells #[.int .i64 t.k, .int .i64 t.n, .int .i64 t.p, sv t.s] TK))
      have hrow3 := hid (row_below hrow2.out ((Below.refl _ _).alloc (Nat.le_refl w2.heap.size) (.cells #[.int .i64 t.k, .int .i64 t.n, .int .i64 t.p, sv t.s] TK)))
      have hq : out.length < 1000000 := by omega
      have h15 : out.length + 1 ≤ 150 := by omega
      clear hfull hbad htok
      go_wp2_with (at_builtin; refine app_tok hrow3.out hb4.out.size t hq rfl _ _ rfl rfl _ (size_alloc' _ _).symm rfl ?_; intro v5 w5 hr5 hg5; obtain ⟨A5, c5, rfl⟩ := row_form hr5; have hb5 := hid (below_row hb4.out hrow3.out hg5 hb4.out.size); replace hr5 := hid hr5; clear hg5)
      exact ⟨⟨a + m, out ++ [t], A5, c5, by omega, by go_num, by simp, by simpa using hr5.out, hnx.out, by simpa using h15, hb5.out⟩, by simp [Go.RowKit.intOf]; omega⟩
  ·obtain rfl : a = S.length := by omega
   have t2 : decide ((S.length : Int) < (S.length : Int)) = false := decide_eq_false (by omega)
   have hfin := hid (hlay.out.end_)
   have hsz := hb.out.size
   go_wp2_with fail
   go_ret2
   exact ⟨_, by rw [hf.out, hfin.out]; rfl, by rw [hf.out, hfin.out]; exact OwnT.of_row hrow.out, hb.out⟩
end Go.Proofs.YtiogceepjffmkaaGreatDoor.Tk
