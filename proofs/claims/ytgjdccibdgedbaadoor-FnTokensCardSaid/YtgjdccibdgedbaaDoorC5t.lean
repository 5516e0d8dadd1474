/- The model's next token. -/
import Derived.Test.YtgjdccibdgedbaaDoorC5s
import Derived.Test.YtgjdccibdgedbaaDoorC3a
set_option maxRecDepth 100000
namespace Go.Proofs.YtgjdccibdgedbaaDoor.Tk
open Go.RowKit Go.Lib Go.Proofs.YtgjdccibdgedbaaDoor.Num Go.Proofs.YtgjdccibdgedbaaDoor.Com Go.Proofs.YtgjdccibdgedbaaDoor.Mem Go.Proofs.YtgjdccibdgedbaaDoor.Ch Go.Proofs.YtgjdccibdgedbaaDoor.Os Go.Proofs.YtgjdccibdgedbaaDoor.C3

/-- the letters and digits from a on, up to k -/
def Wds (S : List UInt8) (a k : Nat) : Prop := ∀ j, a ≤ j → j < k → ∀ hs : j < S.length, isWd S[j] = true
theorem Wds.snoc {S : List UInt8} {a k : Nat} (h : Wds S a k) (hk : k < S.length) (hw : isWd S[k] = true) : Wds S a (k + 1) := fun j h1 h2 hs => by
  rcases Nat.lt_or_ge j k with hl | hl
  · exact h j h1 hl hs
  · obtain rfl : j = k := by omega
    exact hw
theorem wordLen_at {S : List UInt8} {a : Nat} (h : a < S.length) : wordLen (bt S a h :: S.drop (a + 1)) = wordLen (S.drop a) := by rw [drop_at h]; rfl
theorem tokL_word {S : List UInt8} {a k : Nat} (h : a < S.length) (hb : isLow (bt S a h) = true) (hw : wordLen (S.drop a) = k - a) : tokL (bt S a h) (S.drop (a + 1)) = if k - a ≤ 8 then k - a else 0 := by
  unfold tokL; rw [if_pos hb, wordLen_at, hw]
theorem tokV_word {S : List UInt8} {a k : Nat} (h : a < S.length) (hb : isLow (bt S a h) = true) (hw : wordLen (S.drop a) = k - a) : tokV (bt S a h) (S.drop (a + 1)) a = ⟨1, 0, a, (S.drop a).take (k - a)⟩ := by
  unfold tokV; rw [if_pos hb, wordLen_at, hw, drop_at h]; rfl
abbrev NextOk (S : List UInt8) (a : Nat) (h : a < S.length) (w : World) (e : Ending) (w' : World) : Prop :=
  ∃ t : Tok, e = .returned (.tuple #[tv t, .int .i64 ((tokL (bt S a h) (S.drop (a + 1)) : Nat) : Int)]) ∧ (tokL (bt S a h) (S.drop (a + 1)) ≠ 0 → t = tokV (bt S a h) (S.drop (a + 1)) a) ∧ Below w.heap.size w w'
set_option maxHeartbeats 4000000 in
theorem snext_word (S : List UInt8) (a : Nat) (h : a < S.length) (hl : S.length ≤ 400) (hb : isLow (bt S a h) = true) (w : World) :
    Calls Tryd.prog 22 #[.string ⟨S.toArray⟩, .int .i64 a] w (NextOk S a h w) := by
  have hlet := hid (fun w => sletter_any (bt S a h) w)
  rw [hb] at hlet
  have hb := hid hb
  go_enter Tryd.func22, Tryd.ntmps22
  go_wp2_with fail
  refine (hlet.out _).mono ?_
  rintro e w1 ⟨rfl, rfl⟩
  go_wp2_with fail
  go_loop [7] (fun i => ∃ k : Nat, a ≤ k ∧ k ≤ S.length ∧ i = .int .i64 k ∧ Wds S a k) (fun i => S.length - (Go.RowKit.intOf i).toNat)
  case atStart => exact ⟨a, Nat.le_refl _, by omega, rfl, fun j h1 h2 _ => by omega⟩
  case round =>
    obtain ⟨k, hak, hkl, rfl, hwd⟩ := hrel
    have hwd := hid hwd
    by_cases hlt : k < S.length
    · have h1 := hid (fun w => sletter_any (bt S k hlt) w)
      have h2 := hid (fun w => sdigit_any (bt S k hlt) w)
      cases a1 : isLow (bt S k hlt) with
      | true =>
        rw [a1] at h1
        have hnx := hid (hwd.out.snoc hlt (show isWd (bt S k hlt) = true by unfold isWd; rw [a1]; rfl))
        go_wp2_with fail
        refine (h1.out _).mono ?_
        rintro e w1 ⟨rfl, rfl⟩
        go_wp2_with fail
        go_round
        case rel => exact ⟨k + 1, by omega, hlt, by go_num, hnx.out⟩
        case measure => simp [Go.RowKit.intOf]; omega
      | false =>
        rw [a1] at h1
        cases a2 : isDig (bt S k hlt) with
        | true =>
          rw [a2] at h2
          have hnx := hid (hwd.out.snoc hlt (show isWd (bt S k hlt) = true by unfold isWd; rw [a1, a2]; rfl))
          go_wp2_with fail
          refine (h1.out _).mono ?_
          rintro e w1 ⟨rfl, rfl⟩
          go_wp2_with fail
          refine (h2.out _).mono ?_
          rintro e w1 ⟨rfl, rfl⟩
          go_wp2_with fail
          go_round
          case rel => exact ⟨k + 1, by omega, hlt, by go_num, hnx.out⟩
          case measure => simp [Go.RowKit.intOf]; omega
        | false =>
          rw [a2] at h2
          have hw := wordLen_eq hwd.out hak hkl (fun hs => show isWd (bt S k hlt) = false by unfold isWd; rw [a1, a2]; rfl)
          have hL := hid (tokL_word h hb.out hw)
          have hV := hid (tokV_word h hb.out hw)
          have hx := txt_cut S a k
          have q1 : (k : Int) - (a : Int) = ((k - a : Nat) : Int) := by omega
          clear hw
          by_cases h8 : k - a ≤ 8
          · have t8 : decide (8 < ((k - a : Nat) : Int)) = false := decide_eq_false (by omega)
            go_wp2_with fail
            refine (h1.out _).mono ?_
            rintro e w1 ⟨rfl, rfl⟩
            go_wp2_with fail
            refine (h2.out _).mono ?_
            rintro e w1 ⟨rfl, rfl⟩
            go_wp2_with fail
            refine bodyPost_ret (results_cell2 Tryd.results22 _ _ w.heap.size 30 _ (0, 0) _ rfl (heap_alloc2_old _ _ _) Tryd.underlying30 rfl (by kernel_rfl)) rfl ?_
            exact ⟨⟨1, 0, a, (S.drop a).take (k - a)⟩, by rw [hL.out, if_pos h8]; rfl, fun _ => hV.out.symm, ((Below.refl _ _).alloc (Nat.le_refl _) _).alloc (by simp) _⟩
          · have t8 : decide (8 < ((k - a : Nat) : Int)) = true := decide_eq_true (by omega)
            go_wp2_with fail
            refine (h1.out _).mono ?_
            rintro e w1 ⟨rfl, rfl⟩
            go_wp2_with fail
            refine (h2.out _).mono ?_
            rintro e w1 ⟨rfl, rfl⟩
            go_wp2_with fail
            refine bodyPost_ret (results_cell2 Tryd.results22 _ _ w.heap.size 30 _ (0, 0) _ rfl (heap_alloc2_old _ _ _) Tryd.underlying30 rfl (by kernel_rfl)) rfl ?_
            exact ⟨⟨1, 0, a, (S.drop a).take (k - a)⟩, by rw [hL.out, if_neg h8]; rfl, fun hne => absurd (by rw [hL.out, if_neg h8]) hne, ((Below.refl _ _).alloc (Nat.le_refl _) _).alloc (by simp) _⟩
    · obtain rfl : k = S.length := by omega
      have hw := wordLen_eq hwd.out hak hkl (fun hs => absurd hs (by omega))
      have hL := hid (tokL_word h hb.out hw)
      have hV := hid (tokV_word h hb.out hw)
      have hx := txt_cut S a S.length
      have q1 : (S.length : Int) - (a : Int) = ((S.length - a : Nat) : Int) := by omega
      clear hw
      by_cases h8 : S.length - a ≤ 8
      · have t8 : decide (8 < ((S.length - a : Nat) : Int)) = false := decide_eq_false (by omega)
        go_wp2_with fail
        refine bodyPost_ret (results_cell2 Tryd.results22 _ _ w.heap.size 30 _ (0, 0) _ rfl (heap_alloc2_old _ _ _) Tryd.underlying30 rfl (by kernel_rfl)) rfl ?_
        exact ⟨⟨1, 0, a, (S.drop a).take (S.length - a)⟩, by rw [hL.out, if_pos h8]; rfl, fun _ => hV.out.symm, ((Below.refl _ _).alloc (Nat.le_refl _) _).alloc (by simp) _⟩
      · have t8 : decide (8 < ((S.length - a : Nat) : Int)) = true := decide_eq_true (by omega)
        go_wp2_with fail
        refine bodyPost_ret (results_cell2 Tryd.results22 _ _ w.heap.size 30 _ (0, 0) _ rfl (heap_alloc2_old _ _ _) Tryd.underlying30 rfl (by kernel_rfl)) rfl ?_
        exact ⟨⟨1, 0, a, (S.drop a).take (S.length - a)⟩, by rw [hL.out, if_neg h8]; rfl, fun hne => absurd (by rw [hL.out, if_neg h8]) hne, ((Below.refl _ _).alloc (Nat.le_refl _) _).alloc (by simp) _⟩
set_option maxHeartbeats 4000000 in
theorem snext_num (S : List UInt8) (a : Nat) (h : a < S.length) (hl : S.length ≤ 400) (hb : isLow (bt S a h) = false) (hd : isDig (bt S a h) = true) (w : World) :
    Calls Tryd.prog 22 #[.string ⟨S.toArray⟩, .int .i64 a] w (NextOk S a h w) := by
  have hlet := hid (fun w => sletter_any (bt S a h) w)
  have hdig := hid (fun w => sdigit_any (bt S a h) w)
  have hV := hid (show tokV (bt S a h) (S.drop (a + 1)) a = ⟨2, ((bt S a h).toNat : Int) - 48, a, []⟩ by unfold tokV; rw [if_neg (by simp [hb]), if_pos hd])
  have hL0 : tokL (bt S a h) (S.drop (a + 1)) = if numOk (bt S a h) (S.drop (a + 1)) = true then 1 else 0 := by unfold tokL; rw [if_neg (by simp [hb]), if_pos hd]
  rw [hb] at hlet
  rw [hd] at hdig
  obtain ⟨d0, d1⟩ := isDig_bounds hd
  have q1 : (((bt S a h).toNat : Int) - 48) % 256 = ((bt S a h).toNat : Int) - 48 := by have := (bt S a h).toNat_lt; omega
  have hW := hid (fun w => sisWord_any (((bt S a h).toNat : Int) - 48) w)
  clear hb hd
  have e6 : (a : Int) + 1 - (a : Int) = 1 := by omega
  by_cases h4 : (bt S a h).toNat < 52
  · have e4 : isW (((bt S a h).toNat : Int) - 48) = true := isW_iff.2 ⟨by omega, by omega⟩
    rw [e4] at hW
    have e5 : ((a + 1 : Nat) : Int) = (a : Int) + 1 := by omega
    by_cases hlt : a + 1 < S.length
    · have t1 : decide ((a : Int) + 1 < (S.length : Int)) = true := decide_eq_true (by omega)
      have hd2 := hid (fun w => sdigit_any (bt S (a + 1) hlt) w)
      have hh : ((S.drop (a + 1)).head?.any isDig) = isDig (bt S (a + 1) hlt) := by rw [head_drop, List.getElem?_eq_getElem hlt]; rfl
      cases a2 : isDig (bt S (a + 1) hlt) with
      | true =>
        have hL := hid (show tokL (bt S a h) (S.drop (a + 1)) = 0 by rw [hL0]; unfold numOk; rw [hh, decide_eq_true h4, a2]; rfl)
        rw [a2] at hd2
        clear hL0 hh
        go_enter Tryd.func22, Tryd.ntmps22
        go_wp2_with fail
        refine (hlet.out _).mono ?_
        rintro e w1 ⟨rfl, rfl⟩
        go_wp2_with fail
        refine (hdig.out _).mono ?_
        rintro e w1 ⟨rfl, rfl⟩
        go_wp2_with fail
        refine (hW.out _).mono ?_
        rintro e w1 ⟨rfl, rfl⟩
        go_wp2_with fail
        refine (hd2.out _).mono ?_
        rintro e w1 ⟨rfl, rfl⟩
        go_wp2_with fail
        refine bodyPost_ret (results_cell2 Tryd.results22 _ _ w.heap.size 30 _ (0, 0) _ rfl (heap_alloc2_old _ _ _) Tryd.underlying30 rfl (by kernel_rfl)) rfl ?_
        exact ⟨⟨2, ((bt S a h).toNat : Int) - 48, a, []⟩, by rw [hL.out]; rfl, fun hne => absurd hL.out hne, ((Below.refl _ _).alloc (Nat.le_refl _) _).alloc (by simp) _⟩
      | false =>
        have hL := hid (show tokL (bt S a h) (S.drop (a + 1)) = 1 by rw [hL0]; unfold numOk; rw [hh, decide_eq_true h4, a2]; rfl)
        rw [a2] at hd2
        clear hL0 hh
        go_enter Tryd.func22, Tryd.ntmps22
        go_wp2_with fail
        refine (hlet.out _).mono ?_
        rintro e w1 ⟨rfl, rfl⟩
        go_wp2_with fail
        refine (hdig.out _).mono ?_
        rintro e w1 ⟨rfl, rfl⟩
        go_wp2_with fail
        refine (hW.out _).mono ?_
        rintro e w1 ⟨rfl, rfl⟩
        go_wp2_with fail
        refine (hd2.out _).mono ?_
        rintro e w1 ⟨rfl, rfl⟩
        go_wp2_with fail
        refine bodyPost_ret (results_cell2 Tryd.results22 _ _ w.heap.size 30 _ (0, 0) _ rfl (heap_alloc2_old _ _ _) Tryd.underlying30 rfl (by kernel_rfl)) rfl ?_
        exact ⟨⟨2, ((bt S a h).toNat : Int) - 48, a, []⟩, by rw [hL.out]; rfl, fun _ => hV.out.symm, ((Below.refl _ _).alloc (Nat.le_refl _) _).alloc (by simp) _⟩
    · have t1 : decide ((a : Int) + 1 < (S.length : Int)) = false := decide_eq_false (by omega)
      have hL := hid (show tokL (bt S a h) (S.drop (a + 1)) = 1 by rw [hL0]; unfold numOk; rw [decide_eq_true h4, List.drop_eq_nil_of_le (by omega)]; rfl)
      clear hL0
      go_enter Tryd.func22, Tryd.ntmps22
      go_wp2_with fail
      refine (hlet.out _).mono ?_
      rintro e w1 ⟨rfl, rfl⟩
      go_wp2_with fail
      refine (hdig.out _).mono ?_
      rintro e w1 ⟨rfl, rfl⟩
      go_wp2_with fail
      refine (hW.out _).mono ?_
      rintro e w1 ⟨rfl, rfl⟩
      go_wp2_with fail
      refine bodyPost_ret (results_cell2 Tryd.results22 _ _ w.heap.size 30 _ (0, 0) _ rfl (heap_alloc2_old _ _ _) Tryd.underlying30 rfl (by kernel_rfl)) rfl ?_
      exact ⟨⟨2, ((bt S a h).toNat : Int) - 48, a, []⟩, by rw [hL.out]; rfl, fun _ => hV.out.symm, ((Below.refl _ _).alloc (Nat.le_refl _) _).alloc (by simp) _⟩
  · have e4 : isW (((bt S a h).toNat : Int) - 48) = false := by
      cases hq : isW (((bt S a h).toNat : Int) - 48) with
      | false => rfl
      | true => have := isW_iff.1 hq; omega
    rw [e4] at hW
    have hL := hid (show tokL (bt S a h) (S.drop (a + 1)) = 0 by rw [hL0]; unfold numOk; rw [decide_eq_false h4]; rfl)
    clear hL0
    go_enter Tryd.func22, Tryd.ntmps22
    go_wp2_with fail
    refine (hlet.out _).mono ?_
    rintro e w1 ⟨rfl, rfl⟩
    go_wp2_with fail
    refine (hdig.out _).mono ?_
    rintro e w1 ⟨rfl, rfl⟩
    go_wp2_with fail
    refine (hW.out _).mono ?_
    rintro e w1 ⟨rfl, rfl⟩
    go_wp2_with fail
    refine bodyPost_ret (results_cell2 Tryd.results22 _ _ w.heap.size 30 _ (0, 0) _ rfl (heap_alloc2_old _ _ _) Tryd.underlying30 rfl (by kernel_rfl)) rfl ?_
    exact ⟨⟨2, ((bt S a h).toNat : Int) - 48, a, []⟩, by rw [hL.out]; rfl, fun hne => absurd hL.out hne, ((Below.refl _ _).alloc (Nat.le_refl _) _).alloc (by simp) _⟩
theorem tokL_sym {S : List UInt8} {a : Nat} (h : a < S.length) (hb : isLow (bt S a h) = false) (hd : isDig (bt S a h) = false) : tokL (bt S a h) (S.drop (a + 1)) = symL (bt S a h) (S.drop (a + 1)) := by
  unfold tokL; rw [if_neg (by simp [hb]), if_neg (by simp [hd])]
theorem tokV_sym {S : List UInt8} {a : Nat} (h : a < S.length) (hb : isLow (bt S a h) = false) (hd : isDig (bt S a h) = false) : tokV (bt S a h) (S.drop (a + 1)) a = ⟨3, 0, a, (S.drop a).take (symL (bt S a h) (S.drop (a + 1)))⟩ := by
  unfold tokV; rw [if_neg (by simp [hb]), if_neg (by simp [hd]), drop_at h]; rfl
set_option maxHeartbeats 4000000 in
theorem snext_sym (S : List UInt8) (a : Nat) (h : a < S.length) (hl : S.length ≤ 400) (hb : isLow (bt S a h) = false) (hd : isDig (bt S a h) = false) (w : World) :
    Calls Tryd.prog 22 #[.string ⟨S.toArray⟩, .int .i64 a] w (NextOk S a h w) := by
  have hlet := hid (fun w => sletter_any (bt S a h) w)
  have hdig := hid (fun w => sdigit_any (bt S a h) w)
  have hsym := hid (fun w => ssym_any S a h hl w)
  have hL := hid (tokL_sym h hb hd)
  have hV := hid (tokV_sym h hb hd)
  rw [hb] at hlet
  rw [hd] at hdig
  have hle := symL_le (bt S a h) (S.drop (a + 1))
  rw [List.length_drop] at hle
  generalize symL (bt S a h) (S.drop (a + 1)) = m at *
  have hx := txt_cut S a (a + m)
  rw [Nat.add_sub_cancel_left] at hx
  have q2 : (a : Int) + (m : Int) - (a : Int) = (m : Int) := by omega
  have q3 : a + m ≤ S.length := by omega
  have q4 : a ≤ a + m := by omega
  clear hb hd hle
  go_enter Tryd.func22, Tryd.ntmps22
  go_wp2_with fail
  refine (hlet.out _).mono ?_
  rintro e w1 ⟨rfl, rfl⟩
  go_wp2_with fail
  refine (hdig.out _).mono ?_
  rintro e w1 ⟨rfl, rfl⟩
  go_wp2_with fail
  refine (hsym.out _).mono ?_
  rintro e w1 ⟨rfl, rfl⟩
  go_wp2_with fail
  refine bodyPost_ret (results_cell2 Tryd.results22 _ _ w.heap.size 30 _ (0, 0) _ rfl (heap_alloc2_old _ _ _) Tryd.underlying30 rfl (by kernel_rfl)) rfl ?_
  exact ⟨⟨3, 0, a, (S.drop a).take m⟩, by rw [hL.out]; rfl, fun _ => hV.out.symm, ((Below.refl _ _).alloc (Nat.le_refl _) _).alloc (by simp) _⟩
end Go.Proofs.YtgjdccibdgedbaaDoor.Tk
