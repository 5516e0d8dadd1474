/- Chapter 1, the model's ParseNumber and ParseInt. -/
import Derived.Test.YtkoppcpkkpgaiaaDoorC1b
namespace Go.Proofs.YtkoppcpkkpgaiaaDoor.C1s
open Go.RowKit Go.Lib Go.Proofs.YtkoppcpkkpgaiaaDoor.Num Go.Proofs.YtkoppcpkkpgaiaaDoor.Com Go.Proofs.YtkoppcpkkpgaiaaDoor.C1

/-- what l1Read comes to -/
def SpPost (l : List UInt8) (m : Nat) (w : World) (e : Ending) (w' : World) : Prop := e = .returned (.tuple #[.int .i64 ((Num.intOf l m).getD 0), .bool (Num.intOf l m).isSome]) ∧ Below w.heap.size w w'
theorem sp_some {l : List UInt8} {m : Nat} {n : Int} {w : World} (hn : Num.intOf l m = some n) {e : Ending} {w' : World} (he : e = .returned (.tuple #[.int .i64 n, .bool true])) (hb : Below w.heap.size w w') : SpPost l m w e w' := by
  unfold SpPost; rw [hn]; exact ⟨he, hb⟩
theorem sp_none {l : List UInt8} {m : Nat} {w : World} (hn : Num.intOf l m = none) {e : Ending} {w' : World} (he : e = .returned (.tuple #[.int .i64 0, .bool false])) (hb : Below w.heap.size w w') : SpPost l m w e w' := by
  unfold SpPost; rw [hn]; exact ⟨he, hb⟩

theorem intOf_plain {l : List UInt8} {m : Nat} (h : l.head? ≠ some 45) : Num.intOf l m = (numOf l m).map Int.ofNat := by
  unfold Num.intOf
  split
  · rename_i t; simp at h
  · rfl
theorem intOf_minus (t : List UInt8) (m : Nat) : Num.intOf (45 :: t) m = if plain t = true ∧ t.length ≤ m ∧ t ≠ [48] then some (-(rd t : Int)) else none := rfl
theorem plain_ne {t : List UInt8} (h : plain t = true) : 0 < t.length := by cases t <;> simp_all [plain]
theorem plain_bad {t : List UInt8} {k : Nat} (hk : k < t.length) (hz : isDig t[k] = false) : ¬ plain t = true := by
  intro hp
  simp only [plain, Bool.and_eq_true, List.all_eq_true] at hp
  have := hp.1.1 t[k] (List.getElem_mem hk); rw [hz] at this; cases this

set_option maxHeartbeats 1000000 in
theorem l1Read_minus (t : List UInt8) (m : Nat) (w : World) (hl : t.length < 9223372036854775807) (hm : m ≤ 15) : Calls Tryd.prog 21 #[.string ⟨(45 :: t).toArray⟩, .int .i64 m] w (SpPost (45 :: t) m w) := by
  have hx : ({ data := (45 :: t).toArray } : ByteArray).extract 1 (t.length + 1) = { data := t.toArray } := by
    apply ByteArray.ext; rw [ByteArray.data_extract]; simp
  have h45 : (((({ data := (45 :: t).toArray } : ByteArray)[0]'(by show 0 < (45 :: t).length; simp)).toNat : Int) == 45) = true := rfl
  have hi := intOf_minus t m
  by_cases h0 : t.length = 0
  · have hfin := hid (fun e => sp_none (w := w) (e := e) (w' := w) (hi.trans (if_neg (fun h => by have := plain_ne h.1; omega))))
    have t1 : decide ((t.length : Int) < 1) = true := decide_eq_true (by omega)
    clear hi h0
    go_enter Tryd.func21, Tryd.ntmps21
    go_wp2_with fail
    go_ret2
    exact hfin.out _ rfl (Below.refl _ _)
  have t1 : decide ((t.length : Int) < 1) = false := decide_eq_false (by omega)
  by_cases h1 : m < t.length
  · have hfin := hid (fun e => sp_none (w := w) (e := e) (w' := w) (hi.trans (if_neg (fun h => by omega))))
    have t2 : decide (m < t.length) = true := decide_eq_true (by omega)
    clear hi h0
    go_enter Tryd.func21, Tryd.ntmps21
    go_wp2_with fail
    go_ret2
    exact hfin.out _ rfl (Below.refl _ _)
  · have t2 : decide (m < t.length) = false := decide_eq_false (by omega)
    have hbad := hid (fun e k (hk : k < t.length) (hz : isDig t[k] = false) (he : e = .returned (.tuple #[.int .i64 0, .bool false])) => sp_none (w := w) (e := e) (w' := w) (hi.trans (if_neg (fun h => plain_bad hk hz h.1))) he (Below.refl _ _))
    have hfin := hid (fun (_ : t.all isDig = true) (h : plain t = true ∧ t ≠ [48]) => hi.trans (if_pos ⟨h.1, by omega, h.2⟩))
    have hnot := hid (fun (_ : t.all isDig = true) (h : ¬ (plain t = true ∧ t ≠ [48])) => hi.trans (if_neg (fun k => h ⟨k.1, k.2.2⟩)))
    clear hi
    go_enter Tryd.func21, Tryd.ntmps21
    go_wp2_with fail
    go_loop [8, 9] (fun a i => ∃ k : Nat, k ≤ t.length ∧ i = .int .i64 k ∧ a = .int .i64 (rd (t.take k)) ∧ (t.take k).all isDig = true) (fun _ i => t.length - (Go.RowKit.intOf i).toNat)
    case atStart => exact ⟨0, Nat.zero_le _, rfl, by simp [rd, rdFrom], by simp⟩
    case round =>
      obtain ⟨k, hk, rfl, rfl, hall⟩ := hrel
      have hlt := rd_lt _ hall
      have hlen : (t.take k).length ≤ 15 := by rw [List.length_take]; omega
      have hbd : rd (t.take k) < 1000000000000000 := Nat.lt_of_lt_of_le hlt (Nat.pow_le_pow_right (by decide) hlen)
      clear hlt
      by_cases hkl : k < t.length
      · have e1 : ({ data := t.toArray } : ByteArray)[k]'hkl = t[k] := rfl
        by_cases hdig : isDig t[k] = true
        · have hb := isDig_bounds hdig
          have hnx := hid (take_rd hkl hall hdig)
          rw [← e1] at hb
          obtain ⟨hb1, hb2⟩ := hb
          have t1 : decide (((({ data := t.toArray } : ByteArray)[k]'hkl).toNat : Int) < 48) = false := decide_eq_false (by omega)
          have t2 : decide (57 < ((({ data := t.toArray } : ByteArray)[k]'hkl).toNat : Int)) = false := decide_eq_false (by omega)
          clear e1 hall hdig hbad
          go_wp2_with fail
          go_round
          case rel => exact ⟨k + 1, hkl, by go_num, by rw [hnx.out.1]; go_num, hnx.out.2⟩
          case measure => simp [Go.RowKit.intOf]; omega
        · have hdg : isDig t[k] = false := by simpa using hdig
          have hn := hid (fun (e : Ending) => hbad.out e k hkl hdg)
          clear hbad hfin hdig
          have hor : (({ data := t.toArray } : ByteArray)[k]'hkl).toNat < 48 ∨ 57 < (({ data := t.toArray } : ByteArray)[k]'hkl).toNat := by
            rw [e1]; simp only [isDig, Bool.and_eq_false_iff, decide_eq_false_iff_not] at hdg; omega
          clear e1 hdg
          rcases hor with hor | hor
          · have t1 : decide (((({ data := t.toArray } : ByteArray)[k]'hkl).toNat : Int) < 48) = true := decide_eq_true (by omega)
            go_wp2_with fail
            go_ret2
            exact hn.out _ rfl
          · have t1 : decide (((({ data := t.toArray } : ByteArray)[k]'hkl).toNat : Int) < 48) = false := decide_eq_false (by omega)
            have t2 : decide (57 < ((({ data := t.toArray } : ByteArray)[k]'hkl).toNat : Int)) = true := decide_eq_true (by omega)
            go_wp2_with fail
            go_ret2
            exact hn.out _ rfl
      · obtain rfl : k = t.length := by omega
        rw [List.take_of_length_le (Nat.le_refl _)] at hall hbd ⊢
        have hfx := hid (fun (h : plain t = true ∧ t ≠ [48]) e w' => sp_some (l := 45 :: t) (m := m) (w := w) (e := e) (w' := w') (hfin.out hall h))
        have hno := hid (fun (h : ¬ (plain t = true ∧ t ≠ [48])) e w' => sp_none (l := 45 :: t) (m := m) (w := w) (e := e) (w' := w') (hnot.out hall h))
        clear hall hfin hbad hnot
        have hfm := hid (fmt_any (-(rd t : Int)) (by omega) (by omega) w)
        by_cases hp : plain t = true ∧ t ≠ [48]
        · have hcmp : (itoa (-(rd t : Int)) == 45 :: t) = true := beq_iff_eq.2 (itoa_minus hp.1 hp.2)
          have hfy := hid (hfx.out hp)
          clear hfx hno hp
          go_wp2_with fail
          refine hfm.out.mono ?_
          rintro e w' ⟨rfl, hb⟩
          go_wp2_with fail
          go_ret2
          exact hfy.out _ _ rfl hb
        · have hcmp : (itoa (-(rd t : Int)) == 45 :: t) = false := beq_eq_false_iff_ne.2 (itoa_minus_not hp)
          have hfy := hid (hno.out hp)
          clear hfx hno hp
          go_wp2_with fail
          refine hfm.out.mono ?_
          rintro e w' ⟨rfl, hb⟩
          go_wp2_with fail
          go_ret2
          exact hfy.out _ _ rfl hb

set_option maxHeartbeats 1000000 in
theorem l1Read_plain (t : List UInt8) (m : Nat) (w : World) (hs : t.head? ≠ some 45) (hl : t.length ≤ 9223372036854775807) (hm : m ≤ 15) : Calls Tryd.prog 21 #[.string ⟨t.toArray⟩, .int .i64 m] w (SpPost t m w) := by
  have hi := intOf_plain (m := m) hs
  by_cases h0 : t.length = 0
  · obtain rfl : t = [] := List.length_eq_zero_iff.1 h0
    have hfin := hid (fun e => sp_none (w := w) (e := e) (w' := w) (hi.trans (by simp [numOf, plain])))
    clear hi h0
    go_enter Tryd.func21, Tryd.ntmps21
    go_wp2_with fail
    go_ret2
    exact hfin.out _ rfl (Below.refl _ _)
  have hpos : 0 < t.length := by omega
  have h45 : (((({ data := t.toArray } : ByteArray)[0]'hpos).toNat : Int) == 45) = false := by
    rw [beq_eq_false_iff_ne]; intro e
    refine hs ?_
    have e2 : ((t[0]).toNat : Int) = 45 := e
    rw [List.head?_eq_getElem?, List.getElem?_eq_getElem hpos]
    congr 1; apply UInt8.toNat_inj.1; show (t[0]).toNat = 45; omega
  have t0 : decide (0 < t.length) = true := decide_eq_true (by omega)
  have t1 : decide ((t.length : Int) < 1) = false := decide_eq_false (by omega)
  clear hs
  by_cases h1 : m < t.length
  · have hfin := hid (fun e => sp_none (w := w) (e := e) (w' := w) (hi.trans (by unfold numOf; rw [if_neg (by omega)]; rfl)))
    have t2 : decide (m < t.length) = true := decide_eq_true (by omega)
    clear hi h0
    go_enter Tryd.func21, Tryd.ntmps21
    go_wp2_with fail
    go_ret2
    exact hfin.out _ rfl (Below.refl _ _)
  · have t2 : decide (m < t.length) = false := decide_eq_false (by omega)
    have hbad := hid (fun e k (hk : k < t.length) (hz : isDig t[k] = false) (he : e = .returned (.tuple #[.int .i64 0, .bool false])) => sp_none (w := w) (e := e) (w' := w) (hi.trans (by unfold numOf; rw [if_neg (fun h => plain_bad hk hz h.1)]; rfl)) he (Below.refl _ _))
    have hfin := hid (fun (_ : t.all isDig = true) (h : plain t = true) => hi.trans (by unfold numOf; rw [if_pos ⟨h, by omega⟩]))
    have hnot := hid (fun (_ : t.all isDig = true) (h : ¬ (plain t = true)) => hi.trans (by unfold numOf; rw [if_neg (fun k => h k.1)]))
    clear hi
    go_enter Tryd.func21, Tryd.ntmps21
    go_wp2_with fail
    go_loop [8, 9] (fun a i => ∃ k : Nat, k ≤ t.length ∧ i = .int .i64 k ∧ a = .int .i64 (rd (t.take k)) ∧ (t.take k).all isDig = true) (fun _ i => t.length - (Go.RowKit.intOf i).toNat)
    case atStart => exact ⟨0, Nat.zero_le _, rfl, by simp [rd, rdFrom], by simp⟩
    case round =>
      obtain ⟨k, hk, rfl, rfl, hall⟩ := hrel
      have hlt := rd_lt _ hall
      have hlen : (t.take k).length ≤ 15 := by rw [List.length_take]; omega
      have hbd : rd (t.take k) < 1000000000000000 := Nat.lt_of_lt_of_le hlt (Nat.pow_le_pow_right (by decide) hlen)
      clear hlt
      by_cases hkl : k < t.length
      · have e1 : ({ data := t.toArray } : ByteArray)[k]'hkl = t[k] := rfl
        by_cases hdig : isDig t[k] = true
        · have hb := isDig_bounds hdig
          have hnx := hid (take_rd hkl hall hdig)
          rw [← e1] at hb
          obtain ⟨hb1, hb2⟩ := hb
          have t1 : decide (((({ data := t.toArray } : ByteArray)[k]'hkl).toNat : Int) < 48) = false := decide_eq_false (by omega)
          have t2 : decide (57 < ((({ data := t.toArray } : ByteArray)[k]'hkl).toNat : Int)) = false := decide_eq_false (by omega)
          clear e1 hall hdig hbad
          go_wp2_with fail
          go_round
          case rel => exact ⟨k + 1, hkl, by go_num, by rw [hnx.out.1]; go_num, hnx.out.2⟩
          case measure => simp [Go.RowKit.intOf]; omega
        · have hdg : isDig t[k] = false := by simpa using hdig
          have hn := hid (fun (e : Ending) => hbad.out e k hkl hdg)
          clear hbad hfin hdig
          have hor : (({ data := t.toArray } : ByteArray)[k]'hkl).toNat < 48 ∨ 57 < (({ data := t.toArray } : ByteArray)[k]'hkl).toNat := by
            rw [e1]; simp only [isDig, Bool.and_eq_false_iff, decide_eq_false_iff_not] at hdg; omega
          clear e1 hdg
          rcases hor with hor | hor
          · have t1 : decide (((({ data := t.toArray } : ByteArray)[k]'hkl).toNat : Int) < 48) = true := decide_eq_true (by omega)
            go_wp2_with fail
            go_ret2
            exact hn.out _ rfl
          · have t1 : decide (((({ data := t.toArray } : ByteArray)[k]'hkl).toNat : Int) < 48) = false := decide_eq_false (by omega)
            have t2 : decide (57 < ((({ data := t.toArray } : ByteArray)[k]'hkl).toNat : Int)) = true := decide_eq_true (by omega)
            go_wp2_with fail
            go_ret2
            exact hn.out _ rfl
      · obtain rfl : k = t.length := by omega
        rw [List.take_of_length_le (Nat.le_refl _)] at hall hbd ⊢
        have hfx := hid (fun (h : plain t = true) e w' => sp_some (l := t) (m := m) (w := w) (e := e) (w' := w') (hfin.out hall h))
        have hno := hid (fun (h : ¬ (plain t = true)) e w' => sp_none (l := t) (m := m) (w := w) (e := e) (w' := w') (hnot.out hall h))
        clear hall hfin hbad hnot
        have hfm := hid (fmt_any ((rd t : Int)) (by omega) (by omega) w)
        by_cases hp : plain t = true
        · have hcmp : (itoa ((rd t : Int)) == t) = true := beq_iff_eq.2 (itoa_plain hp)
          have hfy := hid (hfx.out hp)
          clear hfx hno hp
          go_wp2_with fail
          refine hfm.out.mono ?_
          rintro e w' ⟨rfl, hb⟩
          go_wp2_with fail
          go_ret2
          exact hfy.out _ _ rfl hb
        · have hcmp : (itoa ((rd t : Int)) == t) = false := beq_eq_false_iff_ne.2 (itoa_plain_not hp)
          have hfy := hid (hno.out hp)
          clear hfx hno hp
          go_wp2_with fail
          refine hfm.out.mono ?_
          rintro e w' ⟨rfl, hb⟩
          go_wp2_with fail
          go_ret2
          exact hfy.out _ _ rfl hb

theorem l1Read_any (l : List UInt8) (m : Nat) (w : World) (hl : l.length ≤ 9223372036854775807) (hm : m ≤ 15) : Calls Tryd.prog 21 #[.string ⟨l.toArray⟩, .int .i64 m] w (SpPost l m w) := by
  by_cases h : l.head? = some 45
  · obtain ⟨t, rfl⟩ : ∃ t, l = 45 :: t := by cases l with | nil => simp at h | cons x t => exact ⟨t, by simp at h; rw [h]⟩
    exact l1Read_minus t m w (by simp at hl; omega) hm
  · exact l1Read_plain l m w h hl hm
end Go.Proofs.YtkoppcpkkpgaiaaDoor.C1s
