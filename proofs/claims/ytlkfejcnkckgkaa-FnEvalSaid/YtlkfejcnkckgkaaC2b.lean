/- Chapter 2: names in lists, of the program and of the model (all but the sorting). -/
import Derived.Test.YtlkfejcnkckgkaaC2a
import Derived.Test.YtlkfejcnkckgkaaOw
set_option maxRecDepth 100000
namespace Go.Proofs.Ytlkfejcnkckgkaa.C2
open Go.RowKit Go.Lib Go.Proofs.Ytlkfejcnkckgkaa.Num Go.Proofs.Ytlkfejcnkckgkaa.Com Go.Proofs.Ytlkfejcnkckgkaa.Mem Go.Proofs.Ytlkfejcnkckgkaa.Mp Go.Proofs.Ytlkfejcnkckgkaa.Ch Go.Proofs.Ytlkfejcnkckgkaa.Ow

theorem cls (c : UInt8) :
    (decide ((97 : Int) ≤ (c.toNat : Int)) = false ∧ decide ((48 : Int) ≤ (c.toNat : Int)) = false ∧ isLow c = false ∧ isDig c = false) ∨
    (decide ((97 : Int) ≤ (c.toNat : Int)) = false ∧ decide ((48 : Int) ≤ (c.toNat : Int)) = true ∧ decide ((c.toNat : Int) ≤ 57) = true ∧ isLow c = false ∧ isDig c = true) ∨
    (decide ((97 : Int) ≤ (c.toNat : Int)) = false ∧ decide ((48 : Int) ≤ (c.toNat : Int)) = true ∧ decide ((c.toNat : Int) ≤ 57) = false ∧ isLow c = false ∧ isDig c = false) ∨
    (decide ((97 : Int) ≤ (c.toNat : Int)) = true ∧ decide ((c.toNat : Int) ≤ 122) = true ∧ decide ((48 : Int) ≤ (c.toNat : Int)) = true ∧ decide ((c.toNat : Int) ≤ 57) = false ∧ isLow c = true) ∨
    (decide ((97 : Int) ≤ (c.toNat : Int)) = true ∧ decide ((c.toNat : Int) ≤ 122) = false ∧ decide ((48 : Int) ≤ (c.toNat : Int)) = true ∧ decide ((c.toNat : Int) ≤ 57) = false ∧ isLow c = false ∧ isDig c = false) := by
  simp only [isLow, isDig, decide_eq_false_iff_not, decide_eq_true_eq, Bool.and_eq_false_iff, Bool.and_eq_true]
  omega

set_option maxHeartbeats 1000000 in
theorem sshape_any (l : List UInt8) (w : World) (hl : l.length ≤ 9223372036854775807) : Calls Try.prog 97 #[.string ⟨l.toArray⟩] w fun e w' => e = .returned (.bool (shape l)) ∧ w = w' := by
  go_enter Try.func97, Try.ntmps97
  go_wp2_with fail
  go_loop [3] (fun i => ∃ k : Nat, k ≤ l.length ∧ i = .int .i64 k ∧ okTo l k) (fun i => l.length - (Go.RowKit.intOf i).toNat)
  case atStart => exact ⟨0, Nat.zero_le _, rfl, fun j _ hj => by omega⟩
  case round =>
    obtain ⟨k, hk, rfl, hok⟩ := hrel
    have hok := hid hok
    by_cases hkl : k < l.length
    · have hlow := hid (fun h => okTo_snoc hok.out hkl (Or.inl h))
      have hdig := hid (fun h1 h2 => okTo_snoc hok.out hkl (Or.inr ⟨h1, h2⟩))
      have hbad := hid (fun h1 h2 => shape_bad (l := l) hkl h1 h2)
      have hc := cls (({ data := l.toArray } : ByteArray)[k]'hkl)
      rcases hc with ⟨t1, t2, a1, a2⟩ | ⟨t1, t2, t3, a1, a2⟩ | ⟨t1, t2, t3, a1, a2⟩ | ⟨t1, t2, t3, t4, a1⟩ | ⟨t1, t2, t3, t4, a1, a2⟩
      · have hf := hid (hbad.out a1 (Or.inr a2))
        clear a1 a2
        go_wp2_with fail
        all_goals
          go_ret
          exact ⟨by rw [hf.out]; rfl, rfl⟩
      · by_cases h0 : k = 0
        · subst h0
          have hf := hid (hbad.out a1 (Or.inl rfl))
          clear a1 a2
          go_wp2_with fail
          go_ret
          exact ⟨by rw [hf.out]; rfl, rfl⟩
        · have hnx := hid (hdig.out h0 a2)
          have hk0 : ((k : Int) == 0) = false := by rw [beq_eq_false_iff_ne]; omega
          clear a1 a2
          go_wp2_with fail
          go_round
          case rel => exact ⟨k + 1, hkl, by go_num, hnx.out⟩
          case measure => simp [Go.RowKit.intOf]; omega
      · have hf := hid (hbad.out a1 (Or.inr a2))
        clear a1 a2
        go_wp2_with fail
        all_goals
          go_ret
          exact ⟨by rw [hf.out]; rfl, rfl⟩
      · have hnx := hid (hlow.out a1)
        clear a1
        go_wp2_with fail
        go_round
        case rel => exact ⟨k + 1, hkl, by go_num, hnx.out⟩
        case measure => simp [Go.RowKit.intOf]; omega
      · have hf := hid (hbad.out a1 (Or.inr a2))
        clear a1 a2
        go_wp2_with fail
        all_goals
          go_ret
          exact ⟨by rw [hf.out]; rfl, rfl⟩
    · obtain rfl : k = l.length := by omega
      by_cases h0 : l = []
      · subst h0
        go_wp2_with fail
        go_ret
        exact ⟨rfl, rfl⟩
      · have hpos : 0 < l.length := List.length_pos_iff.2 h0
        have t1 : decide (0 < (l.length : Int)) = true := decide_eq_true (by omega)
        have hf := hid (shape_good hpos hok.out)
        clear h0
        go_wp2_with fail
        go_ret
        exact ⟨by rw [hf.out]; rfl, rfl⟩
set_option maxHeartbeats 400000 in
theorem svalid_any (l : List UInt8) (w : World) (hl : l.length ≤ 9223372036854775807) : Calls Try.prog 86 #[.string ⟨l.toArray⟩] w fun e w' => e = .returned (.bool (validB l)) ∧ Below w.heap.size w w' := by
  have hs := hid (fun w => sshape_any l w hl)
  cases a1 : shape l with
  | false =>
    have hf := hid (show validB l = false by unfold validB; rw [a1]; simp)
    go_enter Try.func86, Try.ntmps86
    go_wp2_with fail
    refine (hs.out _).mono ?_
    rintro e w' ⟨rfl, rfl⟩
    go_wp2_with fail
    go_ret
    exact ⟨by rw [hf.out]; rfl, Below.refl _ _⟩
  | true =>
    by_cases h1 : l.length ≤ 8
    · have t1 : decide ((l.length : Int) ≤ 8) = true := decide_eq_true (by omega)
      have hr := hid (fun w => sreserved_any l w)
      have hf := hid (show validB l = !hasS resW l by unfold validB; rw [a1, decide_eq_true h1]; rfl)
      go_enter Try.func86, Try.ntmps86
      go_wp2_with fail
      refine (hs.out _).mono ?_
      rintro e w' ⟨rfl, rfl⟩
      go_wp2_with fail
      refine (hr.out _).mono ?_
      rintro e w1 ⟨rfl, hb⟩
      go_wp2_with fail
      go_ret
      exact ⟨by rw [hf.out]; rfl, hb⟩
    · have t1 : decide ((l.length : Int) ≤ 8) = false := decide_eq_false (by omega)
      have hf := hid (show validB l = false by unfold validB; rw [decide_eq_false h1]; rfl)
      go_enter Try.func86, Try.ntmps86
      go_wp2_with fail
      refine (hs.out _).mono ?_
      rintro e w' ⟨rfl, rfl⟩
      go_wp2_with fail
      go_ret
      exact ⟨by rw [hf.out]; rfl, Below.refl _ _⟩

/-- the place of the first element that is l, or -1 -/
def ixOf : List (List UInt8) → List UInt8 → Int
  | [], _ => -1
  | x :: r, l => if x = l then 0 else if ixOf r l < 0 then -1 else ixOf r l + 1
theorem ixOf_none {L : List (List UInt8)} {l : List UInt8} (h : l ∉ L) : ixOf L l = -1 := by
  induction L with
  | nil => rfl
  | cons x r ih =>
    simp only [List.mem_cons, not_or] at h
    simp only [ixOf]
    rw [if_neg (fun e => h.1 e.symm), ih h.2]; rfl
theorem ixOf_at {L : List (List UInt8)} {l : List UInt8} : ∀ {k : Nat} (hk : k < L.length), L[k] = l → l ∉ L.take k → ixOf L l = k := by
  induction L with
  | nil => intro k hk; simp at hk
  | cons x r ih =>
    intro k hk h1 h2
    cases k with
    | zero => simp at h1; simp [ixOf, h1]
    | succ j =>
      simp only [List.take_succ_cons, List.mem_cons, not_or] at h2
      have := ih (k := j) (by simpa using hk) (by simpa using h1) h2.2
      simp only [ixOf]
      rw [if_neg (fun e => h2.1 e.symm), this, if_neg (by omega)]
      omega
theorem ixOf_neg {L : List (List UInt8)} {l : List UInt8} : (ixOf L l < 0) ↔ l ∉ L := by
  induction L with
  | nil => simp [ixOf]
  | cons x r ih =>
    simp only [ixOf, List.mem_cons, not_or]
    by_cases h : x = l
    · simp [h]
    · rw [if_neg h]
      by_cases h2 : ixOf r l < 0
      · rw [if_pos h2]; exact ⟨fun _ => ⟨fun e => h e.symm, ih.1 h2⟩, fun _ => by omega⟩
      · rw [if_neg h2]; exact ⟨fun h3 => by omega, fun h3 => absurd (ih.2 h3.2) h2⟩
theorem ixOf_bd (L : List (List UInt8)) (l : List UInt8) : -1 ≤ ixOf L l ∧ ixOf L l < L.length := by
  induction L with
  | nil => simp [ixOf]
  | cons x r ih =>
    simp only [ixOf, List.length_cons]
    split
    · omega
    · split <;> omega

set_option maxHeartbeats 400000 in
theorem sindex_any (A : Option Addr) (c : Nat) (L : List (List UInt8)) (l : List UInt8) (w : World) (B : Nat) (h : Rd w B A (L.map sv)) (hn : L.length ≤ 9223372036854775807) :
    Calls Try.prog 27 #[.slice A L.length c, .string ⟨l.toArray⟩] w fun e w' => e = .returned (.int .i64 (ixOf L l)) ∧ w = w' := by
  go_enter Try.func27, Try.ntmps27
  go_wp2_with fail
  go_loop [5] (fun i => ∃ k : Nat, k ≤ L.length ∧ i = .int .i64 k ∧ l ∉ L.take k) (fun i => L.length - (Go.RowKit.intOf i).toNat)
  case atStart => exact ⟨0, Nat.zero_le _, rfl, by simp⟩
  case round =>
    obtain ⟨k, hk, rfl, hs⟩ := hrel
    by_cases hlt : k < L.length
    · obtain ⟨ad, rfl, _, hc⟩ := Lh.rd_str h hlt
      by_cases he : L[k] = l
      · have hf := hid (ixOf_at hlt he hs)
        have t1 : (L[k] == l) = true := by rw [he]; simp
        clear hs he h
        go_wp2_with fail
        go_ret
        exact ⟨by rw [hf.out]; rfl, rfl⟩
      · have t1 : (L[k] == l) = false := by simpa using he
        have hnx := hid (show l ∉ L.take (k + 1) by rw [List.take_succ_eq_append_getElem hlt]; simp only [List.mem_append, List.mem_singleton, not_or]; exact ⟨hs, fun e => he e.symm⟩)
        clear hs he h
        go_wp2_with fail
        go_round
        case rel => exact ⟨k + 1, hlt, by go_num, hnx.out⟩
        case measure => simp [Go.RowKit.intOf]; omega
    · obtain rfl : k = L.length := by omega
      have hf := hid (show ixOf L l = -1 from ixOf_none (by rw [List.take_of_length_le (Nat.le_refl _)] at hs; exact hs))
      clear hs h
      go_wp2_with fail
      go_ret
      exact ⟨by rw [hf.out]; rfl, rfl⟩

/-- are all different? -/
def distB (L : List (List UInt8)) : Bool := decide L.Nodup

/-- those that are not to be removed -/
def keepS (L R : List (List UInt8)) : List (List UInt8) := L.filter fun x => !hasS R x
theorem keep_snoc {L R : List (List UInt8)} {k : Nat} (hk : k < L.length) : keepS (L.take (k + 1)) R = keepS (L.take k) R ++ if hasS R L[k] then [] else [L[k]] := by
  unfold keepS
  rw [List.take_succ_eq_append_getElem hk, List.filter_append]
  cases h : hasS R L[k] <;> simp [h]
theorem keep_len (L R : List (List UInt8)) : (keepS L R).length ≤ L.length := List.length_filter_le _ _

end Go.Proofs.Ytlkfejcnkckgkaa.C2
