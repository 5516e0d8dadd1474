/- The program's next token. -/
import Derived.Test.YtiogceepjffmkaaGreatDoorQTk
import Derived.Test.YtiogceepjffmkaaGreatDoorQC3a
import Derived.Test.YtiogceepjffmkaaGreatDoorQShelf
import Derived.WalkMore
import Derived.ScopeJumps
set_option maxHeartbeats 4000000
set_option maxRecDepth 100000
namespace Go.Proofs.YtiogceepjffmkaaGreatDoor.Tk
open Go.RowKit Go.Lib Num Com Mem Ch YtiogceepjffmkaaGreatDoor.Os C3
theorem ieqf {z k : Int} (h : z ≠ k) : (z == k) = false := beq_eq_false_iff_ne.2 h
theorem isep_any (b : UInt8) (w : World) : Calls Tryz.prog 181 #[.int .u8 b.toNat] w fun e w' => e = .returned (.bool (isSep b)) ∧ w = w' := by
 by_cases h1 : b.toNat = 32
 ·have hz' : ((b.toNat : Nat) : Int) = _ := congrArg Int.ofNat h1
  have hf := hid (show isSep b = true by simp [isSep, h1])
  clear h1
  go_enter Tryz.func181, Tryz.ntmps181
  go_wp2_with fail
  go_ret
  exact ⟨by rw [hf.out]; rfl, rfl⟩
 ·by_cases h2 : b.toNat = 10
  ·have hz' : ((b.toNat : Nat) : Int) = _ := congrArg Int.ofNat h2
   have hf := hid (show isSep b = true by simp [isSep, h2])
   clear h1 h2
   go_enter Tryz.func181, Tryz.ntmps181
   go_wp2_with fail
   go_ret
   exact ⟨by rw [hf.out]; rfl, rfl⟩
  ·have t1 : ((b.toNat : Int) == 32) = false := ieqf (by omega)
   have t2 : ((b.toNat : Int) == 10) = false := ieqf (by omega)
   have hf := hid (show isSep b = false by simp [isSep, h1, h2])
   clear h1 h2
   go_enter Tryz.func181, Tryz.ntmps181
   go_wp2_with fail
   go_ret
   exact ⟨by rw [hf.out]; rfl, rfl⟩
def onesB : List UInt8 := [40, 41, 123, 125, 59, 43, 45, 42, 47, 60, 38, 124, 33]
theorem index_mem (l : List UInt8) (c : UInt8) : 0 ≤ Lib.indexByte l c ↔ c ∈ l := by
 induction l with
 | nil => simp [Lib.indexByte]
 | cons b r ih =>
  have hge := Lib.indexByte_ge r c
  unfold Lib.indexByte
  by_cases hb : b = c
  ·simp [hb]
  ·have hb' : (b == c) = false := by simpa using hb
   rw [hb', List.mem_cons, ← ih]
   have hc : ¬ c = b := fun e => hb e.symm
   by_cases hm : Lib.indexByte r c = -1
   ·simp [hm, hc]
   ·have hm' : (Lib.indexByte r c == -1) = false := by simpa using hm
    rw [hm']
    simp only [Bool.false_eq_true, if_false, hc, false_or]
    omega
theorem ones_mem (b : UInt8) : b ∈ onesB ↔ b.toNat ∈ ones := by
 have e : ones = onesB.map UInt8.toNat := by decide
 rw [e]
 constructor
 ·exact fun h => List.mem_map_of_mem h
 ·intro h
  obtain ⟨c, hc, e⟩ := List.mem_map.1 h
  rwa [← UInt8.toNat_inj.1 e]
theorem pre2 (T : List UInt8) (h0 : 0 < T.length) (x : UInt8) : Lib.hasPrefix T [x, 61] = true ↔ bt T 0 h0 = x ∧ ((T.drop 1).head?.map UInt8.toNat) = some 61 := by
 cases T with
 | nil => simp at h0
 | cons b r =>
  show List.isPrefixOf [x, 61] (b :: r) = true ↔ b = x ∧ _
  cases r with
  | nil => simp [List.isPrefixOf]
  | cons c q =>
   simp only [List.isPrefixOf, Bool.and_true, Bool.and_eq_true, beq_iff_eq, List.drop_succ_cons, List.drop_zero, List.head?_cons, Option.map_some, Option.some.injEq]
   constructor
   ·rintro ⟨h1, h2⟩; exact ⟨h1.symm, by rw [← h2]; rfl⟩
   ·rintro ⟨h1, h2⟩; exact ⟨h1.symm, (UInt8.toNat_inj.1 (by rw [h2]; rfl)).symm⟩
theorem isym_any (T : List UInt8) (h0 : 0 < T.length) (w : World) : Calls Tryz.prog 220 #[.string ⟨T.toArray⟩] w fun e w' => e = .returned (.int .i64 (symL (bt T 0 h0) (T.drop 1))) ∧ w = w' := by
 have c1 := fun w => Tryz.strings_HasPrefix ⟨T.toArray⟩ ⟨#[61, 61]⟩ w
 have c2 := fun w => Tryz.strings_HasPrefix ⟨T.toArray⟩ ⟨#[58, 61]⟩ w
 have c3 := fun w => Tryz.strings_IndexByte ⟨#[40, 41, 123, 125, 59, 43, 45, 42, 47, 60, 38, 124, 33]⟩ ((bt T 0 h0).toNat : Int) w
 have p1 := pre2 T h0 61
 have p2 := pre2 T h0 58
 have p3 := (index_mem onesB (bt T 0 h0)).trans (ones_mem _)
 have e3 : ((bt T 0 h0).toNat : Int).toNat.toUInt8 = bt T 0 h0 := by simp
 rw [e3] at c3
 have c3 : ∀ w, Calls Tryz.prog 229 #[.string ⟨#[40, 41, 123, 125, 59, 43, 45, 42, 47, 60, 38, 124, 33]⟩, .int .u8 (bt T 0 h0).toNat] w fun e w' => e = .returned (.int .i64 (Lib.indexByte onesB (bt T 0 h0))) ∧ w' = w := c3
 have c1 : ∀ w, Calls Tryz.prog 228 #[.string ⟨T.toArray⟩, .string ⟨#[61, 61]⟩] w fun e w' => e = .returned (.bool (Lib.hasPrefix T [61, 61])) ∧ w' = w := c1
 have c2 : ∀ w, Calls Tryz.prog 228 #[.string ⟨T.toArray⟩, .string ⟨#[58, 61]⟩] w fun e w' => e = .returned (.bool (Lib.hasPrefix T [58, 61])) ∧ w' = w := c2
 have s61 : bt T 0 h0 = 61 ↔ (bt T 0 h0).toNat = 61 := ⟨fun e => by rw [e]; rfl, fun e => UInt8.toNat_inj.1 (by rw [e]; rfl)⟩
 have s58 : bt T 0 h0 = 58 ↔ (bt T 0 h0).toNat = 58 := ⟨fun e => by rw [e]; rfl, fun e => UInt8.toNat_inj.1 (by rw [e]; rfl)⟩
 rw [s61] at p1
 rw [s58] at p2
 clear e3 s61 s58
 have hno : (bt T 0 h0).toNat = 61 ∨ (bt T 0 h0).toNat = 58 → ¬ (bt T 0 h0).toNat ∈ ones := by rintro (e | e) <;> rw [e] <;> decide
 cases a1 : Lib.hasPrefix T [61, 61] with
 | true =>
  have h1 := p1.1 a1
  have hf := hid (show symL (bt T 0 h0) (T.drop 1) = 2 by unfold symL; rw [if_neg (hno (Or.inl h1.1)), if_pos ⟨Or.inl h1.1, h1.2⟩])
  rw [a1] at c1
  replace c1 := hid c1
  clear p1 p2 p3 hno h1 c2 c3
  go_enter Tryz.func220, Tryz.ntmps220
  go_wp2_with fail
  refine (c1.out _).mono ?_
  rintro e w1 ⟨rfl, rfl⟩
  go_wp2_with fail
  go_ret
  exact ⟨by rw [hf.out]; rfl, rfl⟩
 | false =>
  rw [a1] at c1 p1
  replace c1 := hid c1
  cases a2 : Lib.hasPrefix T [58, 61] with
  | true =>
   have h1 := p2.1 a2
   have hf := hid (show symL (bt T 0 h0) (T.drop 1) = 2 by unfold symL; rw [if_neg (hno (Or.inr h1.1)), if_pos ⟨Or.inr h1.1, h1.2⟩])
   rw [a2] at c2
   replace c2 := hid c2
   clear p1 p2 p3 hno h1 c3
   go_enter Tryz.func220, Tryz.ntmps220
   go_wp2_with fail
   refine (c1.out _).mono ?_
   rintro e w1 ⟨rfl, rfl⟩
   go_wp2_with fail
   refine (c2.out _).mono ?_
   rintro e w1 ⟨rfl, rfl⟩
   go_wp2_with fail
   go_ret
   exact ⟨by rw [hf.out]; rfl, rfl⟩
  | false =>
   rw [a2] at c2 p2
   replace c2 := hid c2
   have hn : ¬ (((bt T 0 h0).toNat = 61 ∨ (bt T 0 h0).toNat = 58) ∧ ((T.drop 1).head?.map UInt8.toNat) = some 61) := by
    rintro ⟨h1 | h1, h2⟩
    ·have := p1.2 ⟨h1, h2⟩; cases this
    ·have := p2.2 ⟨h1, h2⟩; cases this
   by_cases hm : (bt T 0 h0).toNat ∈ ones
   ·have hf := hid (show symL (bt T 0 h0) (T.drop 1) = 1 by unfold symL; rw [if_pos hm])
    have h3 := p3.2 hm
    generalize Lib.indexByte onesB (bt T 0 h0) = q at *
    have t3 : decide (0 ≤ q) = true := decide_eq_true h3
    replace c3 := hid c3
    clear p1 p2 p3 hno hn hm h3
    go_enter Tryz.func220, Tryz.ntmps220
    go_wp2_with fail
    refine (c1.out _).mono ?_
    rintro e w1 ⟨rfl, rfl⟩
    go_wp2_with fail
    refine (c2.out _).mono ?_
    rintro e w1 ⟨rfl, rfl⟩
    go_wp2_with fail
    refine (c3.out _).mono ?_
    rintro e w1 ⟨rfl, rfl⟩
    go_wp2_with fail
    go_ret
    exact ⟨by rw [hf.out]; rfl, rfl⟩
   ·have hf := hid (show symL (bt T 0 h0) (T.drop 1) = 0 by unfold symL; rw [if_neg hm, if_neg hn])
    have h3 : ¬ 0 ≤ Lib.indexByte onesB (bt T 0 h0) := fun h => hm (p3.1 h)
    generalize Lib.indexByte onesB (bt T 0 h0) = q at *
    have t3 : decide (0 ≤ q) = false := decide_eq_false h3
    replace c3 := hid c3
    clear p1 p2 p3 hno hn hm h3
    go_enter Tryz.func220, Tryz.ntmps220
    go_wp2_with fail
    refine (c1.out _).mono ?_
    rintro e w1 ⟨rfl, rfl⟩
    go_wp2_with fail
    refine (c2.out _).mono ?_
    rintro e w1 ⟨rfl, rfl⟩
    go_wp2_with fail
    refine (c3.out _).mono ?_
    rintro e w1 ⟨rfl, rfl⟩
    go_wp2_with fail
    go_ret
    exact ⟨by rw [hf.out]; rfl, rfl⟩
abbrev RdOk (T : List UInt8) (h0 : 0 < T.length) (w : World) (e : Ending) (w' : World) : Prop :=
 ∃ t : Tok, e = .returned (.tuple #[tv t, .int .i64 ((tokL (bt T 0 h0) (T.drop 1) : Nat) : Int)]) ∧ (tokL (bt T 0 h0) (T.drop 1) ≠ 0 → t = tokV (bt T 0 h0) (T.drop 1) 0) ∧ Below w.heap.size w w'
theorem cons_bt {T : List UInt8} (h0 : 0 < T.length) : bt T 0 h0 :: T.drop 1 = T := (drop_bt h0).symm
theorem tokL_sym0 {T : List UInt8} (h : 0 < T.length) (hb : isLow (bt T 0 h) = false) (hd : isDig (bt T 0 h) = false) : tokL (bt T 0 h) (T.drop 1) = symL (bt T 0 h) (T.drop 1) := by
 unfold tokL; rw [if_neg (by simp [hb]), if_neg (by simp [hd])]
theorem tokV_sym0 {T : List UInt8} (h : 0 < T.length) (hb : isLow (bt T 0 h) = false) (hd : isDig (bt T 0 h) = false) : tokV (bt T 0 h) (T.drop 1) 0 = ⟨3, 0, 0, T.take (symL (bt T 0 h) (T.drop 1))⟩ := by
 unfold tokV; rw [if_neg (by simp [hb]), if_neg (by simp [hd]), cons_bt h]
theorem rsym (T : List UInt8) (h0 : 0 < T.length) (hl : T.length ≤ 400) (hb : isLow (bt T 0 h0) = false) (hd : isDig (bt T 0 h0) = false) (w : World) : Calls Tryz.prog 207 #[.string ⟨T.toArray⟩] w (RdOk T h0 w) := by
 have hsym := hid (fun w => isym_any T h0 w)
 have hL := hid (tokL_sym0 h0 hb hd)
 have hV := hid (tokV_sym0 h0 hb hd)
 have hle := symL_le (bt T 0 h0) (T.drop 1)
 rw [List.length_drop] at hle
 generalize symL (bt T 0 h0) (T.drop 1) = m at *
 have hx := txt_cut T 0 m
 rw [List.drop_zero, Nat.sub_zero] at hx
 have q3 : m ≤ T.length := by omega
 clear hb hd hle
 by_cases hm : m = 0
 ·subst hm
  go_enter Tryz.func207, Tryz.ntmps207
  go_wp2_with fail
  refine (hsym.out _).mono ?_
  rintro e w1 ⟨rfl, rfl⟩
  go_wp2_with fail
  refine bodyPost_ret (results_cell2 Tryz.results207 _ _ w.heap.size 67 _ (0, 0) _ rfl (heap_alloc_new _ _) Tryz.underlying67 rfl (by kernel_rfl)) rfl ?_
  exact ⟨⟨0, 0, 0, []⟩, by rw [hL.out]; rfl, fun hne => absurd hL.out hne, (Below.refl _ _).alloc (Nat.le_refl _) _⟩
 ·have tm : ((m : Int) == 0) = false := ieqf (by omega)
  go_enter Tryz.func207, Tryz.ntmps207
  go_wp2_with fail
  refine (hsym.out _).mono ?_
  rintro e w1 ⟨rfl, rfl⟩
  go_wp2_with fail
  refine bodyPost_ret (results_cell2 Tryz.results207 _ _ w.heap.size 67 _ (0, 0) _ rfl (heap_alloc_new _ _) Tryz.underlying67 rfl (by kernel_rfl)) rfl ?_
  exact ⟨⟨3, 0, 0, T.take m⟩, by rw [hL.out]; rfl, fun _ => hV.out.symm, (Below.refl _ _).alloc (Nat.le_refl _) _⟩
theorem rnum (T : List UInt8) (h0 : 0 < T.length) (hl : T.length ≤ 400) (hb : isLow (bt T 0 h0) = false) (hd : isDig (bt T 0 h0) = true) (w : World) : Calls Tryz.prog 206 #[.string ⟨T.toArray⟩] w (RdOk T h0 w) := by
 have hV := hid (show tokV (bt T 0 h0) (T.drop 1) 0 = ⟨2, ((bt T 0 h0).toNat : Int) - 48, 0, []⟩ by unfold tokV; rw [if_neg (by simp [hb]), if_pos hd])
 have hL0 : tokL (bt T 0 h0) (T.drop 1) = if numOk (bt T 0 h0) (T.drop 1) = true then 1 else 0 := by unfold tokL; rw [if_neg (by simp [hb]), if_pos hd]
 obtain ⟨d0, d1⟩ := isDig_bounds hd
 have q1 : (((bt T 0 h0).toNat : Int) - 48) % 256 = ((bt T 0 h0).toNat : Int) - 48 := by have := (bt T 0 h0).toNat_lt; omega
 have hW := hid (fun w => isWord_any (((bt T 0 h0).toNat : Int) - 48) w)
 clear hb hd
 by_cases h4 : (bt T 0 h0).toNat < 52
 ·have e4 : isW (((bt T 0 h0).toNat : Int) - 48) = true := isW_iff.2 ⟨by omega, by omega⟩
  rw [e4] at hW
  by_cases hlt : 1 < T.length
  ·have t1 : decide (1 < (T.length : Int)) = true := decide_eq_true (by omega)
   have hd2 := hid (fun w => digit_any (bt T 1 hlt) w)
   have hh : ((T.drop 1).head?.any isDig) = isDig (bt T 1 hlt) := by rw [head_drop, List.getElem?_eq_getElem hlt]; rfl
   cases a2 : isDig (bt T 1 hlt) with
   | true =>
    have hL := hid (show tokL (bt T 0 h0) (T.drop 1) = 0 by rw [hL0]; unfold numOk; rw [hh, decide_eq_true h4, a2]; rfl)
    rw [a2] at hd2
    clear hL0 hh
    go_enter Tryz.func206, Tryz.ntmps206
    go_wp2_with fail
    refine (hW.out _).mono ?_
    rintro e w1 ⟨rfl, rfl⟩
    go_wp2_with fail
    refine (hd2.out _).mono ?_
    rintro e w1 ⟨rfl, rfl⟩
    go_wp2_with fail
    refine bodyPost_ret (results_cell2 Tryz.results206 _ _ w.heap.size 67 _ (0, 0) _ rfl (heap_alloc_new _ _) Tryz.underlying67 rfl (by kernel_rfl)) rfl ?_
    exact ⟨⟨0, 0, 0, []⟩, by rw [hL.out]; rfl, fun hne => absurd hL.out hne, (Below.refl _ _).alloc (Nat.le_refl _) _⟩
   | false =>
    have hL := hid (show tokL (bt T 0 h0) (T.drop 1) = 1 by rw [hL0]; unfold numOk; rw [hh, decide_eq_true h4, a2]; rfl)
    rw [a2] at hd2
    clear hL0 hh
    go_enter Tryz.func206, Tryz.ntmps206
    go_wp2_with fail
    refine (hW.out _).mono ?_
    rintro e w1 ⟨rfl, rfl⟩
    go_wp2_with fail
    refine (hd2.out _).mono ?_
    rintro e w1 ⟨rfl, rfl⟩
    go_wp2_with fail
    refine bodyPost_ret (results_cell2 Tryz.results206 _ _ w.heap.size 67 _ (0, 0) _ rfl (heap_alloc_new _ _) Tryz.underlying67 rfl (by kernel_rfl)) rfl ?_
    exact ⟨⟨2, ((bt T 0 h0).toNat : Int) - 48, 0, []⟩, by rw [hL.out]; rfl, fun _ => hV.out.symm, (Below.refl _ _).alloc (Nat.le_refl _) _⟩
  ·have t1 : decide (1 < (T.length : Int)) = false := decide_eq_false (by omega)
   have hL := hid (show tokL (bt T 0 h0) (T.drop 1) = 1 by rw [hL0]; unfold numOk; rw [decide_eq_true h4, List.drop_eq_nil_of_le (by omega)]; rfl)
   clear hL0
   go_enter Tryz.func206, Tryz.ntmps206
   go_wp2_with fail
   refine (hW.out _).mono ?_
   rintro e w1 ⟨rfl, rfl⟩
   go_wp2_with fail
   refine bodyPost_ret (results_cell2 Tryz.results206 _ _ w.heap.size 67 _ (0, 0) _ rfl (heap_alloc_new _ _) Tryz.underlying67 rfl (by kernel_rfl)) rfl ?_
   exact ⟨⟨2, ((bt T 0 h0).toNat : Int) - 48, 0, []⟩, by rw [hL.out]; rfl, fun _ => hV.out.symm, (Below.refl _ _).alloc (Nat.le_refl _) _⟩
 ·have e4 : isW (((bt T 0 h0).toNat : Int) - 48) = false := by
   cases hq : isW (((bt T 0 h0).toNat : Int) - 48) with
   | false => rfl
   | true => have := isW_iff.1 hq; omega
  rw [e4] at hW
  have hL := hid (show tokL (bt T 0 h0) (T.drop 1) = 0 by rw [hL0]; unfold numOk; rw [decide_eq_false h4]; rfl)
  clear hL0
  go_enter Tryz.func206, Tryz.ntmps206
  go_wp2_with fail
  refine (hW.out _).mono ?_
  rintro e w1 ⟨rfl, rfl⟩
  go_wp2_with fail
  refine bodyPost_ret (results_cell2 Tryz.results206 _ _ w.heap.size 67 _ (0, 0) _ rfl (heap_alloc_new _ _) Tryz.underlying67 rfl (by kernel_rfl)) rfl ?_
  exact ⟨⟨0, 0, 0, []⟩, by rw [hL.out]; rfl, fun hne => absurd hL.out hne, (Below.refl _ _).alloc (Nat.le_refl _) _⟩
def Wd0 (T : List UInt8) (k : Nat) : Prop := ∀ j, 0 ≤ j → j < k → ∀ hs : j < T.length, isWd T[j] = true
theorem Wd0.snoc {T : List UInt8} {k : Nat} (h : Wd0 T k) (hk : k < T.length) (hw : isWd T[k] = true) : Wd0 T (k + 1) := fun j h1 h2 hs => by
 rcases Nat.lt_or_ge j k with hl | hl
 ·exact h j h1 hl hs
 ·obtain rfl : j = k := by omega
  exact hw
theorem word0 {T : List UInt8} {k : Nat} (h : Wd0 T k) (hk : k ≤ T.length) (he : ∀ hs : k < T.length, isWd T[k] = false) : wordLen T = k := by
 have := wordLen_eq (S := T) (a := 0) (k := k) h (Nat.zero_le _) hk he
 rwa [List.drop_zero, Nat.sub_zero] at this
theorem tokL_word0 {T : List UInt8} {k : Nat} (h : 0 < T.length) (hb : isLow (bt T 0 h) = true) (hw : wordLen T = k) : tokL (bt T 0 h) (T.drop 1) = if k ≤ 8 then k else 0 := by
 unfold tokL; rw [if_pos hb, cons_bt h, hw]
theorem tokV_word0 {T : List UInt8} {k : Nat} (h : 0 < T.length) (hb : isLow (bt T 0 h) = true) (hw : wordLen T = k) : tokV (bt T 0 h) (T.drop 1) 0 = ⟨1, 0, 0, T.take k⟩ := by
 unfold tokV; rw [if_pos hb, cons_bt h, hw]
theorem rname (T : List UInt8) (h0 : 0 < T.length) (hl : T.length ≤ 400) (hb : isLow (bt T 0 h0) = true) (w : World) : Calls Tryz.prog 205 #[.string ⟨T.toArray⟩] w (RdOk T h0 w) := by
 have hb := hid hb
 have hst := hid (show Wd0 T 1 from fun j h1 h2 hs => by obtain rfl : j = 0 := (by omega); exact show isWd (bt T 0 h0) = true by unfold isWd; rw [hb.out]; rfl)
 go_enter Tryz.func205, Tryz.ntmps205
 go_wp2_with fail
 go_loop [4] (fun i => ∃ k : Nat, 1 ≤ k ∧ k ≤ T.length ∧ i = .int .i64 k ∧ Wd0 T k) (fun i => T.length - (Go.RowKit.intOf i).toNat)
 case atStart => exact ⟨1, Nat.le_refl _, h0, rfl, hst.out⟩
 case round =>
  obtain ⟨k, hk1, hkl, rfl, hwd⟩ := hrel
  have hwd := hid hwd
  by_cases hlt : k < T.length
  ·have h1 := hid (fun w => lower_any (bt T k hlt) w)
   have h2 := hid (fun w => digit_any (bt T k hlt) w)
   cases a1 : isLow (bt T k hlt) with
   | true =>
    rw [a1] at h1
    have hnx := hid (hwd.out.snoc hlt (show isWd (bt T k hlt) = true by unfold isWd; rw [a1]; rfl))
    go_wp2_with fail
    refine (h1.out _).mono ?_
    rintro e w1 ⟨rfl, rfl⟩
    go_wp2_with fail
    go_round
    case rel => exact ⟨k + 1, by omega, hlt, by go_num, hnx.out⟩
    case measure => simp [Go.RowKit.intOf]; omega
   | false =>
    rw [a1] at h1
    cases a2 : isDig (bt T k hlt) with
    | true =>
     rw [a2] at h2
     have hnx := hid (hwd.out.snoc hlt (show isWd (bt T k hlt) = true by unfold isWd; rw [a1, a2]; rfl))
     go_wp2_with fail
     refine (h1.out _).mono ?_
     rintro e w1 ⟨rfl, rfl⟩
     go_wp2_with fail
     refine (h2.out _).mono ?_
     rintro e w1 ⟨rfl, rfl⟩
     go_wp2_with fail
     go_round
     case rel => exact ⟨k + 1, by omega, hlt, by go_num, hnx.out⟩
     case measure => simp [Go.RowKit.intOf]; omega
    | false =>
     rw [a2] at h2
     have hw := word0 hwd.out hkl (fun hs => show isWd (bt T k hlt) = false by unfold isWd; rw [a1, a2]; rfl)
     have hL := hid (tokL_word0 h0 hb.out hw)
     have hV := hid (tokV_word0 h0 hb.out hw)
     have hx := txt_cut T 0 k
     rw [List.drop_zero, Nat.sub_zero] at hx
     clear hw
     by_cases h8 : k ≤ 8
     ·have t8 : decide (8 < (k : Int)) = false := decide_eq_false (by omega)
      go_wp2_with fail
      refine (h1.out _).mono ?_
      rintro e w1 ⟨rfl, rfl⟩
      go_wp2_with fail
      refine (h2.out _).mono ?_
      rintro e w1 ⟨rfl, rfl⟩
      go_wp2_with fail
      refine bodyPost_ret (results_cell2 Tryz.results205 _ _ w.heap.size 67 _ (0, 0) _ rfl (heap_alloc_new _ _) Tryz.underlying67 rfl (by kernel_rfl)) rfl ?_
      exact ⟨⟨1, 0, 0, T.take k⟩, by rw [hL.out, if_pos h8]; rfl, fun _ => hV.out.symm, (Below.refl _ _).alloc (Nat.le_refl _) _⟩
     ·have t8 : decide (8 < (k : Int)) = true := decide_eq_true (by omega)
      go_wp2_with fail
      refine (h1.out _).mono ?_
      rintro e w1 ⟨rfl, rfl⟩
      go_wp2_with fail
      refine (h2.out _).mono ?_
      rintro e w1 ⟨rfl, rfl⟩
      go_wp2_with fail
      refine bodyPost_ret (results_cell2 Tryz.results205 _ _ w.heap.size 67 _ (0, 0) _ rfl (heap_alloc_new _ _) Tryz.underlying67 rfl (by kernel_rfl)) rfl ?_
      exact ⟨⟨0, 0, 0, []⟩, by rw [hL.out, if_neg h8]; rfl, fun hne => absurd (by rw [hL.out, if_neg h8]) hne, (Below.refl _ _).alloc (Nat.le_refl _) _⟩
  ·obtain rfl : k = T.length := by omega
   have hw := word0 hwd.out (Nat.le_refl _) (fun hs => absurd hs (by omega))
   have hL := hid (tokL_word0 h0 hb.out hw)
   have hV := tokV_word0 h0 hb.out hw
   rw [List.take_of_length_le (Nat.le_refl _)] at hV
   replace hV := hid hV
   have hx := txt_cut T 0 T.length
   rw [List.drop_zero, Nat.sub_zero, List.take_of_length_le (Nat.le_refl _)] at hx
   clear hw
   by_cases h8 : T.length ≤ 8
   ·have t8 : decide (8 < (T.length : Int)) = false := decide_eq_false (by omega)
    go_wp2_with fail
    refine bodyPost_ret (results_cell2 Tryz.results205 _ _ w.heap.size 67 _ (0, 0) _ rfl (heap_alloc_new _ _) Tryz.underlying67 rfl (by kernel_rfl)) rfl ?_
    exact ⟨⟨1, 0, 0, T⟩, by rw [hL.out, if_pos h8]; rfl, fun _ => hV.out.symm, (Below.refl _ _).alloc (Nat.le_refl _) _⟩
   ·have t8 : decide (8 < (T.length : Int)) = true := decide_eq_true (by omega)
    go_wp2_with fail
    refine bodyPost_ret (results_cell2 Tryz.results205 _ _ w.heap.size 67 _ (0, 0) _ rfl (heap_alloc_new _ _) Tryz.underlying67 rfl (by kernel_rfl)) rfl ?_
    exact ⟨⟨0, 0, 0, []⟩, by rw [hL.out, if_neg h8]; rfl, fun hne => absurd (by rw [hL.out, if_neg h8]) hne, (Below.refl _ _).alloc (Nat.le_refl _) _⟩
def putT (w : World) (g : Nat) (t : Tok) : World := (((w.setCell ⟨g, 0, none⟩ (.int .i64 t.k)).setCell ⟨g, 1, none⟩ (.int .i64 t.n)).setCell ⟨g, 2, none⟩ (.int .i64 t.p)).setCell ⟨g, 3, none⟩ (sv t.s)
theorem putT_blk {w : World} {g : Nat} {a b c d : Value} (h : Blk w g TK [a, b, c, d]) (t : Tok) : Blk (putT w g t) g TK (tcs t) := (((h.set_ 0 _).set_ 1 _).set_ 2 _).set_ 3 _
theorem putT_below {B : Nat} {a w : World} (h : Below B a w) {g : Nat} (hg : B ≤ g) (t : Tok) : Below B a (putT w g t) := (((h.setCell hg _).setCell hg _).setCell hg _).setCell hg _
theorem rtok (T : List UInt8) (h0 : 0 < T.length) (hl : T.length ≤ 400) (w : World) : Calls Tryz.prog 182 #[.string ⟨T.toArray⟩] w (RdOk T h0 w) := by
 have hlow := hid (fun w => lower_any (bt T 0 h0) w)
 have hdig := hid (fun w => digit_any (bt T 0 h0) w)
 have hb1 := hid (Blk.new w TK (tcs ⟨0, 0, 0, []⟩))
 have hB := hid ((Below.refl w.heap.size w).alloc (Nat.le_refl _) (.cells (tcs ⟨0, 0, 0, []⟩).toArray TK))
 cases hb : isLow (bt T 0 h0) with
 | true =>
  have hc := fun w => rname T h0 hl hb w
  unfold RdOk at hc ⊢
  generalize tokL (bt T 0 h0) (T.drop 1) = m at hc ⊢
  generalize tokV (bt T 0 h0) (T.drop 1) 0 = tk at hc ⊢
  replace hc := hid hc
  rw [hb] at hlow
  clear hb
  go_enter Tryz.func182, Tryz.ntmps182
  go_wp2_with fail
  refine (hlow.out _).mono ?_
  rintro e w1 ⟨rfl, rfl⟩
  go_wp2_with fail
  refine (hc.out _).mono ?_
  rintro e w2 ⟨t, rfl, ht, hb2⟩
  have hr2 := hb1.out.below hb2 hb1.out.lt
  have c0 : w2.cell? ⟨w.heap.size, 0, none⟩ = some (.int .i64 0) := hr2.cell 0
  have c1 : w2.cell? ⟨w.heap.size, 1, none⟩ = some (.int .i64 0) := hr2.cell 1
  have c2 : w2.cell? ⟨w.heap.size, 2, none⟩ = some (.int .i64 0) := hr2.cell 2
  have c3 : w2.cell? ⟨w.heap.size, 3, none⟩ = some (.string ⟨#[]⟩) := hr2.cell 3
  have f0 := hr2.frozen 0
  have f1 := hr2.frozen 1
  have f2 := hr2.frozen 2
  have f3 := hr2.frozen 3
  have hfin := hid (putT_blk hr2 t)
  have hbl := hid (putT_below (hB.out.trans (hb2.mono hB.out.size)) (Nat.le_refl _) t)
  have ht := hid ht
  clear hb2 hr2
  go_wp2_with fail
  refine bodyPost_ret (results_cell2 Tryz.results182 _ _ w.heap.size 67 _ (0, 0) _ rfl hfin.out Tryz.underlying67 rfl (by kernel_rfl)) rfl ?_
  exact ⟨t, rfl, ht.out, hbl.out⟩
 | false =>
  cases hd : isDig (bt T 0 h0) with
  | true =>
   have hc := fun w => rnum T h0 hl hb hd w
   unfold RdOk at hc ⊢
   generalize tokL (bt T 0 h0) (T.drop 1) = m at hc ⊢
   generalize tokV (bt T 0 h0) (T.drop 1) 0 = tk at hc ⊢
   replace hc := hid hc
   rw [hb] at hlow
   rw [hd] at hdig
   clear hb hd
   go_enter Tryz.func182, Tryz.ntmps182
   go_wp2_with fail
   refine (hlow.out _).mono ?_
   rintro e w1 ⟨rfl, rfl⟩
   go_wp2_with fail
   refine (hdig.out _).mono ?_
   rintro e w1 ⟨rfl, rfl⟩
   go_wp2_with fail
   refine (hc.out _).mono ?_
   rintro e w2 ⟨t, rfl, ht, hb2⟩
   have hr2 := hb1.out.below hb2 hb1.out.lt
   have c0 : w2.cell? ⟨w.heap.size, 0, none⟩ = some (.int .i64 0) := hr2.cell 0
   have c1 : w2.cell? ⟨w.heap.size, 1, none⟩ = some (.int .i64 0) := hr2.cell 1
   have c2 : w2.cell? ⟨w.heap.size, 2, none⟩ = some (.int .i64 0) := hr2.cell 2
   have c3 : w2.cell? ⟨w.heap.size, 3, none⟩ = some (.string ⟨#[]⟩) := hr2.cell 3
   have f0 := hr2.frozen 0
   have f1 := hr2.frozen 1
   have f2 := hr2.frozen 2
   have f3 := hr2.frozen 3
   have hfin := hid (putT_blk hr2 t)
   have hbl := hid (putT_below (hB.out.trans (hb2.mono hB.out.size)) (Nat.le_refl _) t)
   have ht := hid ht
   clear hb2 hr2
   go_wp2_with fail
   refine bodyPost_ret (results_cell2 Tryz.results182 _ _ w.heap.size 67 _ (0, 0) _ rfl hfin.out Tryz.underlying67 rfl (by kernel_rfl)) rfl ?_
   exact ⟨t, rfl, ht.out, hbl.out⟩
  | false =>
   have hc := fun w => rsym T h0 hl hb hd w
   unfold RdOk at hc ⊢
   generalize tokL (bt T 0 h0) (T.drop 1) = m at hc ⊢
   generalize tokV (bt T 0 h0) (T.drop 1) 0 = tk at hc ⊢
   replace hc := hid hc
   rw [hb] at hlow
   rw [hd] at hdig
   clear hb hd
   go_enter Tryz.func182, Tryz.ntmps182
   go_wp2_with fail
   refine (hlow.out _).mono ?_
   rintro e w1 ⟨rfl, rfl⟩
   go_wp2_with fail
   refine (hdig.out _).mono ?_
   rintro e w1 ⟨rfl, rfl⟩
   go_wp2_with fail
   refine (hc.out _).mono ?_
   rintro e w2 ⟨t, rfl, ht, hb2⟩
   have hr2 := hb1.out.below hb2 hb1.out.lt
   have c0 : w2.cell? ⟨w.heap.size, 0, none⟩ = some (.int .i64 0) := hr2.cell 0
   have c1 : w2.cell? ⟨w.heap.size, 1, none⟩ = some (.int .i64 0) := hr2.cell 1
   have c2 : w2.cell? ⟨w.heap.size, 2, none⟩ = some (.int .i64 0) := hr2.cell 2
   have c3 : w2.cell? ⟨w.heap.size, 3, none⟩ = some (.string ⟨#[]⟩) := hr2.cell 3
   have f0 := hr2.frozen 0
   have f1 := hr2.frozen 1
   have f2 := hr2.frozen 2
   have f3 := hr2.frozen 3
   have hfin := hid (putT_blk hr2 t)
   have hbl := hid (putT_below (hB.out.trans (hb2.mono hB.out.size)) (Nat.le_refl _) t)
   have ht := hid ht
   clear hb2 hr2
   go_wp2_with fail
   refine bodyPost_ret (results_cell2 Tryz.results182 _ _ w.heap.size 67 _ (0, 0) _ rfl hfin.out Tryz.underlying67 rfl (by kernel_rfl)) rfl ?_
   exact ⟨t, rfl, ht.out, hbl.out⟩
theorem tokV_at (b : UInt8) (r : List UInt8) (p : Int) : (⟨(tokV b r 0).k, (tokV b r 0).n, p, (tokV b r 0).s⟩ : Tok) = tokV b r p := by
 unfold tokV
 split
 ·rfl
 ·split <;> rfl
theorem rtok_at (S : List UInt8) (a : Nat) (h : a < S.length) (hl : S.length ≤ 400) (w : World) : Calls Tryz.prog 182 #[.string ⟨(S.drop a).toArray⟩] w fun e w' =>
  ∃ t : Tok, e = .returned (.tuple #[tv t, .int .i64 ((tokL (bt S a h) (S.drop (a + 1)) : Nat) : Int)]) ∧ (tokL (bt S a h) (S.drop (a + 1)) ≠ 0 → (⟨t.k, t.n, a, t.s⟩ : Tok) = tokV (bt S a h) (S.drop (a + 1)) a) ∧ Below w.heap.size w w' := by
 have h0 : 0 < (S.drop a).length := by rw [List.length_drop]; omega
 have e1 : bt (S.drop a) 0 h0 = bt S a h := show (S.drop a)[0] = S[a] by rw [List.getElem_drop]; rfl
 have e2 : (S.drop a).drop 1 = S.drop (a + 1) := by rw [List.drop_drop]
 refine (rtok (S.drop a) h0 (by rw [List.length_drop]; omega) w).mono ?_
 rintro e w' ⟨t, he, ht, hb⟩
 rw [e1, e2] at he ht
 refine ⟨t, he, fun hne => ?_, hb⟩
 rw [ht hne]
 exact tokV_at _ _ _
def Failed (S : List UInt8) (w : World) (ac : Act) (w' : World) : Prop :=
 ∃ (a : Nat) (u0 u1 u2 u3 u4 u6 u7 u8 u9 u10 u11 u12 u13 u14 u15 u16 u17 u18 u19 u20 u21 u22 u23 u24 u25 u26 u27 u28 u29 u30 u31 u32 u33 u34 u35 u36 u37 u38 u39 u40 u41 u42 u43 u44 u45 u46 u47 : Value), ac = { tmps := #[u0, u1, u2, u3, u4, .int .i64 a, u6, u7, u8, u9, u10, u11, u12, u13, u14, u15, u16, u17, u18, u19, u20, u21, u22, u23, u24, u25, u26, u27, u28, u29, u30, u31, u32, u33, u34, u35, u36, u37, u38, u39, u40, u41, u42, u43, u44, u45, u46, u47], defers := [] } ∧ tokz S = (([], (a : Int)) : List Tok × Int) ∧ Below w.heap.size w w'
theorem itokz (S : List UInt8) (hS : S.length ≤ 9223372036854775807) (w : World) : Calls Tryz.prog 145 #[.string ⟨S.toArray⟩] w (TokOk S w) := by
 by_cases hbig : 400 < S.length
 ·have t1 : decide (400 < (S.length : Int)) = true := decide_eq_true (by omega)
  have hf := hid (tokz_big hbig)
  go_enter Tryz.func145, Tryz.ntmps145
  go_wp2_with fail
  refine wp_scope_jumps 0 (Failed S w) (fun _ _ => 0) rfl ?_ ?_
  ·go_wp2_with fail
   go_step3
   exact ⟨rfl, 400, _, _, _, _, _, _, _, _, _, _, _, _, _, _, _, _, _, _, _, _, _, _, _, _, _, _, _, _, _, _, _, _, _, _, _, _, _, _, _, _, _, _, _, _, _, _, _, rfl, hf.out, Below.refl _ _⟩
  ·rintro ac w' ⟨a, u0, u1, u2, u3, u4, u6, u7, u8, u9, u10, u11, u12, u13, u14, u15, u16, u17, u18, u19, u20, u21, u22, u23, u24, u25, u26, u27, u28, u29, u30, u31, u32, u33, u34, u35, u36, u37, u38, u39, u40, u41, u42, u43, u44, u45, u46, u47, rfl, hf, hb⟩
   replace hf := hid hf
   replace hb := hid hb
   go_wp2_with fail
   simp only [Exit.jump]
   go_ret2
   exact ⟨_, by rw [hf.out]; rfl, by rw [hf.out]; exact OwnT.nil_ _ _ _, hb.out⟩
 have t1 : decide (400 < (S.length : Int)) = false := decide_eq_false (by omega)
 have hl : S.length ≤ 400 := by omega
 have hf := hid (tokz_small hl)
 have hst := hid (show Lay S 0 [] by unfold Lay; rw [List.drop_zero])
 have hr0 := hid (row_nil w w.heap.size)
 go_enter Tryz.func145, Tryz.ntmps145
 go_wp2_with fail
 refine wp_scope_jumps 0 (Failed S w) (fun _ _ => 0) rfl ?_ ?_
 rotate_left
 ·rintro ac w' ⟨a, u0, u1, u2, u3, u4, u6, u7, u8, u9, u10, u11, u12, u13, u14, u15, u16, u17, u18, u19, u20, u21, u22, u23, u24, u25, u26, u27, u28, u29, u30, u31, u32, u33, u34, u35, u36, u37, u38, u39, u40, u41, u42, u43, u44, u45, u46, u47, rfl, hf, hb⟩
  replace hf := hid hf
  replace hb := hid hb
  go_wp2_with fail
  simp only [Exit.jump]
  go_ret2
  exact ⟨_, by rw [hf.out]; rfl, by rw [hf.out]; exact OwnT.nil_ _ _ _, hb.out⟩
 go_wp2_with fail
 go_step3
 go_wp2_with fail
 go_loopw [4, 5] (fun o i wr => ∃ (a : Nat) (out : List Tok) (A : Option Addr) (c : Nat), a ≤ S.length ∧ i = .int .i64 a ∧ o = .slice A out.length c ∧ RowT wr w.heap.size (.slice A out.length c) out ∧ Lay S a out ∧ out.length ≤ 150 ∧ Below w.heap.size w wr) (fun _ i _ => S.length - (Go.RowKit.intOf i).toNat)
 case atStart => exact ⟨0, [], _, _, Nat.zero_le _, rfl, rfl, hr0.out, hst.out, by simp, Below.refl _ _⟩
 case round =>
  obtain ⟨a, out, A, c, ha, rfl, rfl, hrow, hlay, h150, hb⟩ := hrel
  have hrow := hid hrow
  have hlay := hid hlay
  have hb := hid hb
  by_cases hlt : a < S.length
  ·have t2 : ((a : Int) == (S.length : Int)) = false := ieqf (by omega)
   have hsep := hid (fun w => isep_any (bt S a hlt) w)
   cases hs : isSep (bt S a hlt) with
   | true =>
    have hnx := hid (hlay.out.sep hlt hs)
    rw [hs] at hsep
    clear hs
    go_wp2_with fail
    refine (hsep.out _).mono ?_
    rintro e w1 ⟨rfl, rfl⟩
    go_wp2_with fail
    exact ⟨⟨a + 1, out, A, c, hlt, by go_num, rfl, hrow.out, hnx.out, h150, hb.out⟩, by simp [Go.RowKit.intOf]; omega⟩
   | false =>
    rw [hs] at hsep
    have hcl := fun w => rtok_at S a hlt hl w
    have hle := tokL_le (bt S a hlt) (S.drop (a + 1))
    rw [List.length_drop] at hle
    have hbad := hid (fun h2 => hlay.out.bad hlt hs h2)
    have htok := hid (fun h2 h3 => hlay.out.tok hlt hs h2 h3)
    generalize tokL (bt S a hlt) (S.drop (a + 1)) = m at *
    generalize tokV (bt S a hlt) (S.drop (a + 1)) a = tk at *
    replace hcl := hid hcl
    have hx := txt_cut S a S.length
    rw [List.take_of_length_le (by rw [List.length_drop]; exact Nat.le_refl _)] at hx
    clear hs
    go_wp2_with fail
    refine (hsep.out _).mono ?_
    rintro e w1 ⟨rfl, rfl⟩
    go_wp2_with fail
    refine (hcl.out _).mono ?_
    rintro e w2 ⟨t, rfl, ht, hb2⟩
    have hrow2 := hid (row_below hrow.out hb2)
    have hb3 := hid (hb.out.trans (hb2.mono hb.out.size))
    clear hb2
    by_cases hm : m = 0
    ·subst hm
     have hfin := hid (hbad.out (Or.inl rfl))
     have hb4 := hid (hb3.out.alloc hb3.out.size (.cells #[.int .i64 t.k, .int .i64 t.n, .int .i64 t.p, sv t.s] TK))
     go_wp2_with fail
     go_step3
     exact ⟨rfl, a, _, _, _, _, _, _, _, _, _, _, _, _, _, _, _, _, _, _, _, _, _, _, _, _, _, _, _, _, _, _, _, _, _, _, _, _, _, _, _, _, _, _, _, _, _, _, _, rfl, hf.out.trans hfin.out, hb4.out⟩
    ·have ht := ht hm
     have tm : ((m : Int) == 0) = false := ieqf (by omega)
     by_cases hfull : out.length = 150
     ·have hfin := hid (hbad.out (Or.inr hfull))
      have tf : ((out.length : Int) == 150) = true := by rw [hfull]; rfl
      have hb4 := hid (hb3.out.alloc hb3.out.size (.cells #[.int .i64 t.k, .int .i64 t.n, .int .i64 t.p, sv t.s] TK))
      clear ht
      go_wp2_with fail
      go_step3
      exact ⟨rfl, a, _, _, _, _, _, _, _, _, _, _, _, _, _, _, _, _, _, _, _, _, _, _, _, _, _, _, _, _, _, _, _, _, _, _, _, _, _, _, _, _, _, _, _, _, _, _, _, rfl, hf.out.trans hfin.out, hb4.out⟩
     ·have tf : ((out.length : Int) == 150) = false := ieqf (by omega)
      have hnx := hid (htok.out hm hfull)
      rw [← ht] at hnx
      have hb4 := hid (hb3.out.alloc hb3.out.size (.cells #[.int .i64 t.k, .int .i64 t.n, .int .i64 a, sv t.s] TK))
      have hrow3 := hid (row_below hrow2.out ((Below.refl _ _).alloc (Nat.le_refl w2.heap.size) (.cells #[.int .i64 t.k, .int .i64 t.n, .int .i64 a, sv t.s] TK)))
      have h15 : out.length + 1 ≤ 150 := by omega
      have hq : out.length < 1000000 := by omega
      clear hfull hbad htok ht
      go_wp2_with (at_builtin; refine app_tok hrow3.out hb4.out.size ⟨t.k, t.n, a, t.s⟩ hq rfl _ _ rfl rfl _ (size_alloc' _ _).symm rfl ?_; intro v5 w5 hr5 hg5; obtain ⟨A5, c5, rfl⟩ := row_form hr5; have hb5 := hid (below_row hb4.out hrow3.out hg5 hb4.out.size); replace hr5 := hid hr5; clear hg5)
      exact ⟨⟨a + m, out ++ [⟨t.k, t.n, a, t.s⟩], A5, c5, by omega, by go_num, by simp, by simpa using hr5.out, hnx.out, by simpa using h15, hb5.out⟩, by simp [Go.RowKit.intOf]; omega⟩
  ·obtain rfl : a = S.length := by omega
   have t2 : ((S.length : Int) == (S.length : Int)) = true := beq_self_eq_true _
   have hfin := hid (hlay.out.end_)
   have hsz := hb.out.size
   go_wp2_with fail
   go_ret2
   exact ⟨_, by rw [hf.out, hfin.out]; rfl, by rw [hf.out, hfin.out]; exact OwnT.of_row hrow.out, hb.out⟩
end Go.Proofs.YtiogceepjffmkaaGreatDoor.Tk
