/- Chapter 1, the program's readers of numbers. -/
import Derived.Test.YtkoppcpkkpgaiaaDoorC1
import Derived.Test.YtkoppcpkkpgaiaaDoorCh
import Derived.Defers
import Derived.Recover
namespace Go.Proofs.YtkoppcpkkpgaiaaDoor.C1
open Go.RowKit Go.Lib Go.Proofs.YtkoppcpkkpgaiaaDoor.Num Go.Proofs.YtkoppcpkkpgaiaaDoor.Com

def Panics (e : Ending) : Prop := ∃ v, e = .panicked [{ v := v, recovered := false }]

set_option maxHeartbeats 400000 in
theorem panics (w : World) : Calls Tryd.prog 26 #[] w fun e w' => Panics e ∧ w = w' := by
  go_enter Tryd.func26, Tryd.ntmps26
  go_wp2
  exact ⟨rfl, ⟨_, rfl⟩, rfl⟩

/-- what readDigits comes to -/
def RdPost (l : List UInt8) (m : Nat) (w : World) (e : Ending) (w' : World) : Prop := w = w' ∧ match numOf l m with | some n => e = .returned (.int .i64 n) | none => Panics e

theorem rdPost_panic {l : List UInt8} {m : Nat} {w : World} {e : Ending} (h : numOf l m = none) (he : Panics e) : RdPost l m w e w := by
  unfold RdPost; rw [h]; exact ⟨rfl, he⟩
theorem rdPost_some {l : List UInt8} {m n : Nat} {w : World} {e : Ending} (h : numOf l m = some n) (he : e = .returned (.int .i64 n)) : RdPost l m w e w := by
  unfold RdPost; rw [h]; exact ⟨rfl, he⟩
theorem numOf_nil (m : Nat) : numOf [] m = none := by simp [numOf, plain]
theorem numOf_long {l : List UInt8} {m : Nat} (h : m < l.length) : numOf l m = none := by unfold numOf; rw [if_neg (by omega)]
theorem numOf_zero {l : List UInt8} {m : Nat} (h : 1 < l.length) (hz : l.head? = some 48) : numOf l m = none := by
  unfold numOf; rw [if_neg]; rintro ⟨hp, _⟩; simp [plain, hz] at hp; omega
theorem numOf_bad {l : List UInt8} {m k : Nat} (hk : k < l.length) (hz : isDig l[k] = false) : numOf l m = none := by
  unfold numOf; rw [if_neg]; rintro ⟨hp, _⟩
  simp only [plain, Bool.and_eq_true, List.all_eq_true] at hp
  have := hp.1.1 l[k] (List.getElem_mem hk); rw [hz] at this; cases this

theorem numOf_some {l : List UInt8} {m : Nat} (h : l.all isDig = true) (h0 : l ≠ []) (hl : l.length ≤ 1 ∨ l.head? ≠ some 48) (hm : l.length ≤ m) : numOf l m = some (rd l) := by
  unfold numOf; rw [if_pos]
  refine ⟨?_, hm⟩
  simp only [plain, h, Bool.true_and, Bool.and_eq_true]
  refine ⟨by cases l <;> simp_all, ?_⟩
  rcases hl with h | h
  · simp [h]
  · simp [h]

theorem take_rd {l : List UInt8} {k : Nat} (hk : k < l.length) (h : (l.take k).all isDig = true) (hd : isDig l[k] = true) : rd (l.take (k + 1)) = 10 * rd (l.take k) + ((({ data := l.toArray } : ByteArray)[k]'hk).toNat - 48) ∧ (l.take (k + 1)).all isDig = true := by
  rw [List.take_succ_eq_append_getElem hk, rd_snoc]
  refine ⟨rfl, ?_⟩
  rw [List.all_append, h]; simpa using hd

set_option maxHeartbeats 1000000 in
theorem readDigits_any (l : List UInt8) (m : Nat) (w : World) (hl : l.length ≤ 9223372036854775807) (hm : m ≤ 15) : Calls Tryd.prog 20 #[.string ⟨l.toArray⟩, .int .i64 m] w (RdPost l m w) := by
  by_cases h0 : l = []
  · subst h0
    have hn := hid (fun e => rdPost_panic (w := w) (e := e) (numOf_nil m))
    go_enter Tryd.func20, Tryd.ntmps20
    go_wp2_with (go_at_call 26; refine (panics _).mono ?_; rintro e w' ⟨⟨v, rfl⟩, rfl⟩)
    exact ⟨rfl, hn.out _ ⟨v, rfl⟩⟩
  have he : l.isEmpty = false := by cases l <;> simp_all
  have hpos : 0 < l.length := List.length_pos_iff.2 h0
  by_cases h1 : m < l.length
  · have hn := hid (fun e => rdPost_panic (w := w) (e := e) (numOf_long h1))
    have hd : decide ((m : Int) < (l.length : Int)) = true := by simp; omega
    go_enter Tryd.func20, Tryd.ntmps20
    go_wp2_with (go_at_call 26; refine (panics _).mono ?_; rintro e w' ⟨⟨v, rfl⟩, rfl⟩)
    all_goals exact ⟨rfl, hn.out _ ⟨v, rfl⟩⟩
  have hd : decide ((m : Int) < (l.length : Int)) = false := by simp; omega
  by_cases h2 : 1 < l.length ∧ l[0] = 48
  · obtain ⟨h2, h3⟩ := h2
    have hn := hid (fun e => rdPost_panic (w := w) (e := e) (m := m) (numOf_zero h2 (by rw [List.head?_eq_getElem?, List.getElem?_eq_getElem hpos, h3])))
    have hz : (((({ data := l.toArray } : ByteArray)[0]).toNat : Int) == 48) = true := by
      show (((l[0]).toNat : Int) == 48) = true
      rw [h3]; rfl
    clear h3
    go_enter Tryd.func20, Tryd.ntmps20
    go_wp2_with (go_at_call 26; refine (panics _).mono ?_; rintro e w' ⟨⟨v, rfl⟩, rfl⟩)
    all_goals exact ⟨rfl, hn.out _ ⟨v, rfl⟩⟩
  have hlead : l.length ≤ 1 ∨ l.head? ≠ some 48 := by
    by_cases h3 : 1 < l.length
    · refine Or.inr fun e => h2 ⟨h3, ?_⟩
      rw [List.head?_eq_getElem?, List.getElem?_eq_getElem hpos] at e
      exact Option.some.inj e
    · exact Or.inl (by omega)
  have hfin := hid (fun (h : l.all isDig = true) e => rdPost_some (w := w) (e := e) (m := m) (numOf_some h h0 hlead (by omega)))
  have hbad := hid (fun e k (hk : k < l.length) (hz : isDig l[k] = false) => rdPost_panic (w := w) (e := e) (m := m) (numOf_bad hk hz))
  have hcase : (decide (1 < (l.length : Int)) = false) ∨ (decide (1 < (l.length : Int)) = true ∧ ((((({ data := l.toArray } : ByteArray)[0]'hpos)).toNat : Int) == 48) = false) := by
    by_cases h3 : 1 < l.length
    · refine Or.inr ⟨by simp; omega, ?_⟩
      rw [beq_eq_false_iff_ne]
      intro e
      refine h2 ⟨h3, UInt8.toNat_inj.1 ?_⟩
      have e2 : ((l[0]).toNat : Int) = 48 := e
      show (l[0]).toNat = 48
      omega
    · exact Or.inl (by simp; omega)
  clear hlead h2
  rcases hcase with hc | ⟨hc, hz⟩
  all_goals
    go_enter Tryd.func20, Tryd.ntmps20
    go_wp2_with fail
    go_loop [5, 6] (fun a i => ∃ k : Nat, k ≤ l.length ∧ i = .int .i64 k ∧ a = .int .i64 (rd (l.take k)) ∧ (l.take k).all isDig = true) (fun _ i => l.length - (Go.RowKit.intOf i).toNat)
    case atStart => exact ⟨0, Nat.zero_le _, rfl, by simp [rd, rdFrom], by simp⟩
    case round =>
      obtain ⟨k, hk, rfl, rfl, hall⟩ := hrel
      have hlt := rd_lt _ hall
      have hlen : (l.take k).length ≤ 15 := by rw [List.length_take]; omega
      have hbd : rd (l.take k) < 1000000000000000 := Nat.lt_of_lt_of_le hlt (Nat.pow_le_pow_right (by decide) hlen)
      clear hlt
      by_cases hkl : k < l.length
      · have e1 : ({ data := l.toArray } : ByteArray)[k]'hkl = l[k] := rfl
        have hcd := hid (fun w => Ch.digit_any (({ data := l.toArray } : ByteArray)[k]'hkl) w)
        by_cases hdig : isDig l[k] = true
        · have hb := isDig_bounds hdig
          have hnx := hid (take_rd hkl hall hdig)
          rw [← e1] at hb
          obtain ⟨hb1, hb2⟩ := hb
          have t1 : isDig (({ data := l.toArray } : ByteArray)[k]'hkl) = true := hdig
          clear e1 hall hdig hbad
          go_wp2_with fail
          refine (hcd.out _).mono ?_
          rintro e w' ⟨rfl, rfl⟩
          go_wp2_with fail
          go_round
          case rel => exact ⟨k + 1, hkl, by go_num, by rw [hnx.out.1]; go_num, hnx.out.2⟩
          case measure => simp [Go.RowKit.intOf]; omega
        · have hdg : isDig l[k] = false := by simpa using hdig
          have hn := hid (fun e => hbad.out e k hkl hdg)
          have t1 : isDig (({ data := l.toArray } : ByteArray)[k]'hkl) = false := hdg
          clear hbad hfin hdig e1 hdg
          go_wp2_with fail
          refine (hcd.out _).mono ?_
          rintro e w' ⟨rfl, rfl⟩
          go_wp2_with (go_at_call 26; refine (panics _).mono ?_; rintro e w' ⟨⟨v, rfl⟩, rfl⟩)
          all_goals exact ⟨rfl, hn.out _ ⟨v, rfl⟩⟩
      · obtain rfl : k = l.length := by omega
        rw [List.take_of_length_le (Nat.le_refl _)] at hall ⊢
        have hff := hid (hfin.out hall)
        clear hall hfin hbad
        go_wp2_with fail
        go_ret
        exact hff.out _ rfl
end Go.Proofs.YtkoppcpkkpgaiaaDoor.C1
