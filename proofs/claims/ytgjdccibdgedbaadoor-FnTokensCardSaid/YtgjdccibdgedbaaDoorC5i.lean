/- The program's next token. -/
import Derived.Test.YtgjdccibdgedbaaDoorLw
import Derived.Test.YtgjdccibdgedbaaDoorC3a
import Derived.Test.YtgjdccibdgedbaaDoorShelf
set_option maxRecDepth 100000
namespace Go.Proofs.YtgjdccibdgedbaaDoor.Tk
open Go.RowKit Go.Lib Go.Proofs.YtgjdccibdgedbaaDoor.Num Go.Proofs.YtgjdccibdgedbaaDoor.Com Go.Proofs.YtgjdccibdgedbaaDoor.Mem Go.Proofs.YtgjdccibdgedbaaDoor.Ch Go.Proofs.YtgjdccibdgedbaaDoor.Os Go.Proofs.YtgjdccibdgedbaaDoor.C3

theorem ieqf {z k : Int} (h : z ≠ k) : (z == k) = false := beq_eq_false_iff_ne.2 h
set_option maxHeartbeats 400000 in
theorem isep_any (b : UInt8) (w : World) : Calls Tryd.prog 20 #[.int .u8 b.toNat] w fun e w' => e = .returned (.bool (isSep b)) ∧ w = w' := by
  by_cases h1 : b.toNat = 32
  · have hz' : ((b.toNat : Nat) : Int) = _ := congrArg Int.ofNat h1
    have hf := hid (show isSep b = true by simp [isSep, h1])
    clear h1
    go_enter Tryd.func20, Tryd.ntmps20
    go_wp2_with fail
    go_ret
    exact ⟨by rw [hf.out]; rfl, rfl⟩
  · by_cases h2 : b.toNat = 10
    · have hz' : ((b.toNat : Nat) : Int) = _ := congrArg Int.ofNat h2
      have hf := hid (show isSep b = true by simp [isSep, h2])
      clear h1 h2
      go_enter Tryd.func20, Tryd.ntmps20
      go_wp2_with fail
      go_ret
      exact ⟨by rw [hf.out]; rfl, rfl⟩
    · have t1 : ((b.toNat : Int) == 32) = false := ieqf (by omega)
      have t2 : ((b.toNat : Int) == 10) = false := ieqf (by omega)
      have hf := hid (show isSep b = false by simp [isSep, h1, h2])
      clear h1 h2
      go_enter Tryd.func20, Tryd.ntmps20
      go_wp2_with fail
      go_ret
      exact ⟨by rw [hf.out]; rfl, rfl⟩
def onesB : List UInt8 := [40, 41, 123, 125, 59, 43, 45, 42, 47, 60, 38, 124, 33]
theorem index_mem (l : List UInt8) (c : UInt8) : 0 ≤ Lib.indexByte l c ↔ c ∈ l := by
  induction l with
  | nil => simp [Lib.indexByte]
  | cons b r ih =>
    have hge := Lib.indexByte_ge r c
    unfold Lib.indexByte
    by_cases hb : b = c
    · simp [hb]
    · have hb' : (b == c) = false := by simpa using hb
      rw [hb', List.mem_cons, ← ih]
      have hc : ¬ c = b := fun e => hb e.symm
      by_cases hm : Lib.indexByte r c = -1
      · simp [hm, hc]
      · have hm' : (Lib.indexByte r c == -1) = false := by simpa using hm
        rw [hm']
        simp only [Bool.false_eq_true, if_false, hc, false_or]
        omega
theorem ones_mem (b : UInt8) : b ∈ onesB ↔ b.toNat ∈ ones := by
  have e : ones = onesB.map UInt8.toNat := by decide
  rw [e]
  constructor
  · exact fun h => List.mem_map_of_mem h
  · intro h
    obtain ⟨c, hc, e⟩ := List.mem_map.1 h
    rwa [← UInt8.toNat_inj.1 e]
theorem pre2 (T : List UInt8) (h0 : 0 < T.length) (x : UInt8) : Lib.hasPrefix T [x, 61] = true ↔ bt T 0 h0 = x ∧ ((T.drop 1).head?.map UInt8.toNat) = some 61 := by
  cases T with
  | nil => simp at h0
  | cons b r =>
    show List.isPrefixOf [x, 61] (b :: r) = true ↔ b = x ∧ _
    cases r with
    | nil => simp [List.isPrefixOf]
    | cons c q =>
      simp only [List.isPrefixOf, Bool.and_true, Bool.and_eq_true, beq_iff_eq, List.drop_succ_cons, List.drop_zero, List.head?_cons, Option.map_some, Option.some.injEq]
      constructor
      · rintro ⟨h1, h2⟩; exact ⟨h1.symm, by rw [← h2]; rfl⟩
      · rintro ⟨h1, h2⟩; exact ⟨h1.symm, (UInt8.toNat_inj.1 (by rw [h2]; rfl)).symm⟩
set_option maxHeartbeats 1000000 in
theorem isym_any (T : List UInt8) (h0 : 0 < T.length) (w : World) : Calls Tryd.prog 45 #[.string ⟨T.toArray⟩] w fun e w' => e = .returned (.int .i64 (symL (bt T 0 h0) (T.drop 1))) ∧ w = w' := by
  have c1 := fun w => Tryd.strings_HasPrefix ⟨T.toArray⟩ ⟨#[61, 61]⟩ w
  have c2 := fun w => Tryd.strings_HasPrefix ⟨T.toArray⟩ ⟨#[58, 61]⟩ w
  have c3 := fun w => Tryd.strings_IndexByte ⟨#[40, 41, 123, 125, 59, 43, 45, 42, 47, 60, 38, 124, 33]⟩ ((bt T 0 h0).toNat : Int) w
  have p1 := pre2 T h0 61
  have p2 := pre2 T h0 58
  have p3 := (index_mem onesB (bt T 0 h0)).trans (ones_mem _)
  have e3 : ((bt T 0 h0).toNat : Int).toNat.toUInt8 = bt T 0 h0 := by simp
  rw [e3] at c3
  have c3 : ∀ w, Calls Tryd.prog 52 #[.string ⟨#[40, 41, 123, 125, 59, 43, 45, 42, 47, 60, 38, 124, 33]⟩, .int .u8 (bt T 0 h0).toNat] w fun e w' => e = .returned (.int .i64 (Lib.indexByte onesB (bt T 0 h0))) ∧ w' = w := c3
  have c1 : ∀ w, Calls Tryd.prog 51 #[.string ⟨T.toArray⟩, .string ⟨#[61, 61]⟩] w fun e w' => e = .returned (.bool (Lib.hasPrefix T [61, 61])) ∧ w' = w := c1
  have c2 : ∀ w, Calls Tryd.prog 51 #[.string ⟨T.toArray⟩, .string ⟨#[58, 61]⟩] w fun e w' => e = .returned (.bool (Lib.hasPrefix T [58, 61])) ∧ w' = w := c2
  have s61 : bt T 0 h0 = 61 ↔ (bt T 0 h0).toNat = 61 := ⟨fun e => by rw [e]; rfl, fun e => UInt8.toNat_inj.1 (by rw [e]; rfl)⟩
  have s58 : bt T 0 h0 = 58 ↔ (bt T 0 h0).toNat = 58 := ⟨fun e => by rw [e]; rfl, fun e => UInt8.toNat_inj.1 (by rw [e]; rfl)⟩
  rw [s61] at p1
  rw [s58] at p2
  clear e3 s61 s58
  have hno : (bt T 0 h0).toNat = 61 ∨ (bt T 0 h0).toNat = 58 → ¬ (bt T 0 h0).toNat ∈ ones := by rintro (e | e) <;> rw [e] <;> decide
  cases a1 : Lib.hasPrefix T [61, 61] with
  | true =>
    have h1 := p1.1 a1
    have hf := hid (show symL (bt T 0 h0) (T.drop 1) = 2 by unfold symL; rw [if_neg (hno (Or.inl h1.1)), if_pos ⟨Or.inl h1.1, h1.2⟩])
    rw [a1] at c1
    replace c1 := hid c1
    clear p1 p2 p3 hno h1 c2 c3
    go_enter Tryd.func45, Tryd.ntmps45
    go_wp2_with fail
    refine (c1.out _).mono ?_
    rintro e w1 ⟨rfl, rfl⟩
    go_wp2_with fail
    go_ret
    exact ⟨by rw [hf.out]; rfl, rfl⟩
  | false =>
    rw [a1] at c1 p1
    replace c1 := hid c1
    cases a2 : Lib.hasPrefix T [58, 61] with
    | true =>
      have h1 := p2.1 a2
      have hf := hid (show symL (bt T 0 h0) (T.drop 1) = 2 by unfold symL; rw [if_neg (hno (Or.inr h1.1)), if_pos ⟨Or.inr h1.1, h1.2⟩])
      rw [a2] at c2
      replace c2 := hid c2
      clear p1 p2 p3 hno h1 c3
      go_enter Tryd.func45, Tryd.ntmps45
      go_wp2_with fail
      refine (c1.out _).mono ?_
      rintro e w1 ⟨rfl, rfl⟩
      go_wp2_with fail
      refine (c2.out _).mono ?_
      rintro e w1 ⟨rfl, rfl⟩
      go_wp2_with fail
      go_ret
      exact ⟨by rw [hf.out]; rfl, rfl⟩
    | false =>
      rw [a2] at c2 p2
      replace c2 := hid c2
      have hn : ¬ (((bt T 0 h0).toNat = 61 ∨ (bt T 0 h0).toNat = 58) ∧ ((T.drop 1).head?.map UInt8.toNat) = some 61) := by
        rintro ⟨h1 | h1, h2⟩
        · have := p1.2 ⟨h1, h2⟩; cases this
        · have := p2.2 ⟨h1, h2⟩; cases this
      by_cases hm : (bt T 0 h0).toNat ∈ ones
      · have hf := hid (show symL (bt T 0 h0) (T.drop 1) = 1 by unfold symL; rw [if_pos hm])
        have h3 := p3.2 hm
        generalize Lib.indexByte onesB (bt T 0 h0) = q at *
        have t3 : decide (0 ≤ q) = true := decide_eq_true h3
        replace c3 := hid c3
        clear p1 p2 p3 hno hn hm h3
        go_enter Tryd.func45, Tryd.ntmps45
        go_wp2_with fail
        refine (c1.out _).mono ?_
        rintro e w1 ⟨rfl, rfl⟩
        go_wp2_with fail
        refine (c2.out _).mono ?_
        rintro e w1 ⟨rfl, rfl⟩
        go_wp2_with fail
        refine (c3.out _).mono ?_
        rintro e w1 ⟨rfl, rfl⟩
        go_wp2_with fail
        go_ret
        exact ⟨by rw [hf.out]; rfl, rfl⟩
      · have hf := hid (show symL (bt T 0 h0) (T.drop 1) = 0 by unfold symL; rw [if_neg hm, if_neg hn])
        have h3 : ¬ 0 ≤ Lib.indexByte onesB (bt T 0 h0) := fun h => hm (p3.1 h)
        generalize Lib.indexByte onesB (bt T 0 h0) = q at *
        have t3 : decide (0 ≤ q) = false := decide_eq_false h3
        replace c3 := hid c3
        clear p1 p2 p3 hno hn hm h3
        go_enter Tryd.func45, Tryd.ntmps45
        go_wp2_with fail
        refine (c1.out _).mono ?_
        rintro e w1 ⟨rfl, rfl⟩
        go_wp2_with fail
        refine (c2.out _).mono ?_
        rintro e w1 ⟨rfl, rfl⟩
        go_wp2_with fail
        refine (c3.out _).mono ?_
        rintro e w1 ⟨rfl, rfl⟩
        go_wp2_with fail
        go_ret
        exact ⟨by rw [hf.out]; rfl, rfl⟩
/-- what a reader of one token promises -/
abbrev RdOk (T : List UInt8) (h0 : 0 < T.length) (w : World) (e : Ending) (w' : World) : Prop :=
  ∃ t : Tok, e = .returned (.tuple #[tv t, .int .i64 ((tokL (bt T 0 h0) (T.drop 1) : Nat) : Int)]) ∧ (tokL (bt T 0 h0) (T.drop 1) ≠ 0 → t = tokV (bt T 0 h0) (T.drop 1) 0) ∧ Below w.heap.size w w'
theorem cons_bt {T : List UInt8} (h0 : 0 < T.length) : bt T 0 h0 :: T.drop 1 = T := (drop_bt h0).symm
theorem tokL_sym0 {T : List UInt8} (h : 0 < T.length) (hb : isLow (bt T 0 h) = false) (hd : isDig (bt T 0 h) = false) : tokL (bt T 0 h) (T.drop 1) = symL (bt T 0 h) (T.drop 1) := by
  unfold tokL; rw [if_neg (by simp [hb]), if_neg (by simp [hd])]
theorem tokV_sym0 {T : List UInt8} (h : 0 < T.length) (hb : isLow (bt T 0 h) = false) (hd : isDig (bt T 0 h) = false) : tokV (bt T 0 h) (T.drop 1) 0 = ⟨3, 0, 0, T.take (symL (bt T 0 h) (T.drop 1))⟩ := by
  unfold tokV; rw [if_neg (by simp [hb]), if_neg (by simp [hd]), cons_bt h]
set_option maxHeartbeats 1000000 in
theorem rsym (T : List UInt8) (h0 : 0 < T.length) (hl : T.length ≤ 400) (hb : isLow (bt T 0 h0) = false) (hd : isDig (bt T 0 h0) = false) (w : World) : Calls Tryd.prog 37 #[.string ⟨T.toArray⟩] w (RdOk T h0 w) := by
  have hsym := hid (fun w => isym_any T h0 w)
  have hL := hid (tokL_sym0 h0 hb hd)
  have hV := hid (tokV_sym0 h0 hb hd)
  have hle := symL_le (bt T 0 h0) (T.drop 1)
  rw [List.length_drop] at hle
  generalize symL (bt T 0 h0) (T.drop 1) = m at *
  have hx := txt_cut T 0 m
  rw [List.drop_zero, Nat.sub_zero] at hx
  have q3 : m ≤ T.length := by omega
  clear hb hd hle
  by_cases hm : m = 0
  · subst hm
    go_enter Tryd.func37, Tryd.ntmps37
    go_wp2_with fail
    refine (hsym.out _).mono ?_
    rintro e w1 ⟨rfl, rfl⟩
    go_wp2_with fail
    refine bodyPost_ret (results_cell2 Tryd.results37 _ _ w.heap.size 30 _ (0, 0) _ rfl (heap_alloc_new _ _) Tryd.underlying30 rfl (by kernel_rfl)) rfl ?_
    exact ⟨⟨0, 0, 0, []⟩, by rw [hL.out]; rfl, fun hne => absurd hL.out hne, (Below.refl _ _).alloc (Nat.le_refl _) _⟩
  · have tm : ((m : Int) == 0) = false := ieqf (by omega)
    go_enter Tryd.func37, Tryd.ntmps37
    go_wp2_with fail
    refine (hsym.out _).mono ?_
    rintro e w1 ⟨rfl, rfl⟩
    go_wp2_with fail
    refine bodyPost_ret (results_cell2 Tryd.results37 _ _ w.heap.size 30 _ (0, 0) _ rfl (heap_alloc_new _ _) Tryd.underlying30 rfl (by kernel_rfl)) rfl ?_
    exact ⟨⟨3, 0, 0, T.take m⟩, by rw [hL.out]; rfl, fun _ => hV.out.symm, (Below.refl _ _).alloc (Nat.le_refl _) _⟩
end Go.Proofs.YtgjdccibdgedbaaDoor.Tk
