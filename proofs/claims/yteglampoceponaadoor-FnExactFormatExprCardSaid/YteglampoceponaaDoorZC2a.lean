/- Chapter 2: reserved words and valid names, of the program and of the model. -/
import Derived.Test.YteglampoceponaaDoorZMp
import Derived.Test.YteglampoceponaaDoorZCh
import Derived.Test.YteglampoceponaaDoorZLhS
import Derived.Test.YteglampoceponaaDoorZOw
set_option maxRecDepth 100000
namespace Go.Proofs.YteglampoceponaaDoor.C2
open Go.RowKit Go.Lib Go.Proofs.YteglampoceponaaDoor.Num Go.Proofs.YteglampoceponaaDoor.Com Go.Proofs.YteglampoceponaaDoor.Mem Go.Proofs.YteglampoceponaaDoor.Mp Go.Proofs.YteglampoceponaaDoor.Ch

def resW : List (List UInt8) := [[118, 97, 114, 115], [105, 102], [101, 108, 115, 101], [119, 104, 105, 108, 101], [101, 109, 105, 116], [97], [98], [100, 105, 102, 102], [112, 114, 101], [112, 111, 115, 116], [111, 117, 116, 112, 117, 116], [99, 111, 115, 116]]

set_option maxHeartbeats 1000000 in
theorem words_any (w : World) : Calls Tryd.prog 72 #[] w fun e w' => e = .returned (.map (some w.heap.size)) ∧ SetIs w' w.heap.size 12 resW ∧ Below w.heap.size w w' := by
  have hmm := @run_makeMap Tryd.prog
  have H : SetIs (w.alloc (.map #[] 0)) w.heap.size 0 [] ∧ Below w.heap.size w (w.alloc (.map #[] 0)) := ⟨SetIs.made w, (Below.refl _ _).alloc (Nat.le_refl _) _⟩
  have H := hid H
  go_enter Tryd.func72, Tryd.ntmps72
  go_wp2_with (refine wpList_put rfl _ _ _ (Or.inl rfl) _ _ _ H.out.1 (by unfold maxLen; omega) _ (by unfold maxLen; simp) rfl rfl rfl ?_; intro w1 hs1 hg1; replace H := hid (And.intro hs1 (bgb H.out.2 hg1 H.out.2.size (Nat.le_refl _))); clear hs1 hg1)
  go_ret
  exact ⟨rfl, H.out.1, H.out.2⟩

set_option maxHeartbeats 400000 in
theorem reserved_any (l : List UInt8) (w : World) (hl : l.length ≤ maxLen) : Calls Tryd.prog 66 #[.string ⟨l.toArray⟩] w fun e w' => e = .returned (.bool (hasS resW l)) ∧ Below w.heap.size w w' := by
  have hl := hid hl
  go_enter Tryd.func66, Tryd.ntmps66
  go_wp2_with fail
  refine (words_any _).mono ?_
  rintro e w1 ⟨rfl, hs, hb⟩
  have hb := hid hb
  go_wp2_with (refine wpList_has rfl _ _ rfl _ _ _ hs l hl.out rfl rfl ?_)
  go_ret
  exact ⟨rfl, hb.out⟩

set_option maxHeartbeats 400000 in
theorem has_any (A : Option Addr) (c : Nat) (L : List (List UInt8)) (l : List UInt8) (w : World) (B : Nat) (h : Rd w B A (L.map sv)) (hn : L.length ≤ 9223372036854775807) :
    Calls Tryd.prog 68 #[.slice A L.length c, .string ⟨l.toArray⟩] w fun e w' => e = .returned (.bool (hasS L l)) ∧ w = w' := by
  go_enter Tryd.func68, Tryd.ntmps68
  go_wp2_with fail
  go_loop [5] (fun i => ∃ k : Nat, k ≤ L.length ∧ i = .int .i64 k ∧ l ∉ L.take k) (fun i => L.length - (Go.RowKit.intOf i).toNat)
  case atStart => exact ⟨0, Nat.zero_le _, rfl, by simp⟩
  case round =>
    obtain ⟨k, hk, rfl, hs⟩ := hrel
    by_cases hlt : k < L.length
    · obtain ⟨ad, rfl, _, hc⟩ := Lh.rd_str h hlt
      by_cases he : L[k] = l
      · have hf := hid (show hasS L l = true from hasS_iff.2 (he ▸ List.getElem_mem hlt))
        have t1 : (L[k] == l) = true := by rw [he]; simp
        clear hs he h
        go_wp2_with fail
        go_ret
        exact ⟨by rw [hf.out]; rfl, rfl⟩
      · have t1 : (L[k] == l) = false := by simpa using he
        have hnx := hid (show l ∉ L.take (k + 1) by rw [List.take_succ_eq_append_getElem hlt]; simp only [List.mem_append, List.mem_singleton, not_or]; exact ⟨hs, fun e => he e.symm⟩)
        clear hs he h
        go_wp2_with fail
        go_round
        case rel => exact ⟨k + 1, hlt, by go_num, hnx.out⟩
        case measure => simp [Go.RowKit.intOf]; omega
    · obtain rfl : k = L.length := by omega
      have hf := hid (show hasS L l = false from hasS_false.2 (by rw [List.take_of_length_le (Nat.le_refl _)] at hs; exact hs))
      clear hs h
      go_wp2_with fail
      go_ret
      exact ⟨by rw [hf.out]; rfl, rfl⟩

set_option maxHeartbeats 400000 in
theorem swords_any (w : World) : Calls Tryd.prog 69 #[] w fun e w' => e = .returned (.slice (some ⟨w.heap.size, 0, none⟩) 12 12) ∧ Blk w' w.heap.size 9 (resW.map sv) ∧ Below w.heap.size w w' := by
  go_enter Tryd.func69, Tryd.ntmps69
  go_wp2_with fail
  go_ret
  exact ⟨rfl, Blk.new _ _ _, (Below.refl _ _).alloc (Nat.le_refl _) _⟩
set_option maxHeartbeats 400000 in
theorem sreserved_any (l : List UInt8) (w : World) : Calls Tryd.prog 64 #[.string ⟨l.toArray⟩] w fun e w' => e = .returned (.bool (hasS resW l)) ∧ Below w.heap.size w w' := by
  go_enter Tryd.func64, Tryd.ntmps64
  go_wp2_with fail
  refine (swords_any _).mono ?_
  rintro e w1 ⟨rfl, hs, hb⟩
  have hb := hid hb
  have hs := hid hs
  go_wp2_with fail
  refine (has_any _ 12 resW l _ _ hs.out.rd (by decide)).mono ?_
  rintro e w2 ⟨rfl, rfl⟩
  go_wp2_with fail
  go_ret
  exact ⟨rfl, hb.out⟩

/-- the form of a name -/
def shape : List UInt8 → Bool
  | [] => false
  | c :: r => isLow c && r.all fun x => isLow x || isDig x
def validB (l : List UInt8) : Bool := decide (l.length ≤ 8) && (shape l && !hasS resW l)

theorem shape_take {l : List UInt8} (h0 : 0 < l.length) : shape l = (isLow l[0] && (l.drop 1).all fun x => isLow x || isDig x) := by
  cases l with
  | nil => simp at h0
  | cons c r => rfl
theorem shape_bad {l : List UInt8} {k : Nat} (hk : k < l.length) (h : isLow l[k] = false) (h2 : k = 0 ∨ isDig l[k] = false) : shape l = false := by
  cases l with
  | nil => simp at hk
  | cons c r =>
    cases k with
    | zero => simp at h; simp [shape, h]
    | succ j =>
      have hd : isDig (c :: r)[j + 1] = false := by rcases h2 with h2 | h2; omega; exact h2
      simp only [shape]
      rw [Bool.and_eq_false_iff]
      refine Or.inr (List.all_eq_false.2 ⟨r[j]'(by simpa using hk), List.getElem_mem _, ?_⟩)
      simp only [List.getElem_cons_succ] at h hd
      simp [h, hd]
/-- the first k bytes are fit for a name -/
def okTo (l : List UInt8) (k : Nat) : Prop := ∀ j (h : j < l.length), j < k → isLow l[j] = true ∨ (j ≠ 0 ∧ isDig l[j] = true)
theorem okTo_snoc {l : List UInt8} {k : Nat} (h : okTo l k) (hk : k < l.length) (hc : isLow l[k] = true ∨ (k ≠ 0 ∧ isDig l[k] = true)) : okTo l (k + 1) := by
  intro j hj hjk
  rcases Nat.lt_or_ge j k with hlt | hge
  · exact h j hj hlt
  · obtain rfl : j = k := by omega
    exact hc
theorem shape_good {l : List UInt8} (h0 : 0 < l.length) (h : okTo l l.length) : shape l = true := by
  cases l with
  | nil => simp at h0
  | cons c r =>
    simp only [shape, Bool.and_eq_true, List.all_eq_true]
    refine ⟨?_, ?_⟩
    · rcases h 0 h0 h0 with h1 | h1
      · exact h1
      · exact absurd rfl h1.1
    · intro x hx
      obtain ⟨j, hj, rfl⟩ := List.mem_iff_getElem.1 hx
      rcases h (j + 1) (by simpa using hj) (by simpa using hj) with h1 | h1
      · simp at h1; simp [h1]
      · have := h1.2; simp at this; simp [this]

set_option maxHeartbeats 1000000 in
theorem syntax_any (l : List UInt8) (w : World) (hl : l.length ≤ 9223372036854775807) : Calls Tryd.prog 65 #[.string ⟨l.toArray⟩] w fun e w' => e = .returned (.bool (shape l)) ∧ w = w' := by
  by_cases h0 : l = []
  · subst h0
    go_enter Tryd.func65, Tryd.ntmps65
    go_wp2_with fail
    go_ret
    exact ⟨rfl, rfl⟩
  have he : l.isEmpty = false := by cases l <;> simp_all
  have hpos : 0 < l.length := List.length_pos_iff.2 h0
  have hc0 := hid (fun w => lower_any (({ data := l.toArray } : ByteArray)[0]'hpos) w)
  clear h0
  by_cases h1 : isLow (({ data := l.toArray } : ByteArray)[0]'hpos) = true
  · have h1' := hid (show isLow (l[0]'hpos) = true from h1)
    go_enter Tryd.func65, Tryd.ntmps65
    go_wp2_with fail
    refine (hc0.out _).mono ?_
    rintro e w' ⟨rfl, rfl⟩
    go_wp2_with fail
    go_loop [3] (fun i => ∃ k : Nat, k ≤ l.length ∧ 1 ≤ k ∧ i = .int .i64 k ∧ okTo l k) (fun i => l.length - (Go.RowKit.intOf i).toNat)
    case atStart => exact ⟨1, hpos, Nat.le_refl _, rfl, fun j hj hj1 => by obtain rfl : j = 0 := (by omega); exact Or.inl h1'.out⟩
    case round =>
      obtain ⟨k, hk, hk1, rfl, hok⟩ := hrel
      have hok := hid hok
      clear h1
      by_cases hkl : k < l.length
      · have hck := hid (fun w => lower_any (({ data := l.toArray } : ByteArray)[k]'hkl) w)
        have hdk := hid (fun w => digit_any (({ data := l.toArray } : ByteArray)[k]'hkl) w)
        cases a1 : isLow (({ data := l.toArray } : ByteArray)[k]'hkl) with
        | true =>
          have hnx := hid (okTo_snoc hok.out hkl (Or.inl a1))
          go_wp2_with fail
          refine (hck.out _).mono ?_
          rintro e w' ⟨rfl, rfl⟩
          go_wp2_with fail
          go_round
          case rel => exact ⟨k + 1, hkl, by omega, by go_num, hnx.out⟩
          case measure => simp [Go.RowKit.intOf]; omega
        | false =>
          cases a2 : isDig (({ data := l.toArray } : ByteArray)[k]'hkl) with
          | true =>
            have hnx := hid (okTo_snoc hok.out hkl (Or.inr ⟨by omega, a2⟩))
            go_wp2_with fail
            refine (hck.out _).mono ?_
            rintro e w' ⟨rfl, rfl⟩
            go_wp2_with fail
            refine (hdk.out _).mono ?_
            rintro e w' ⟨rfl, rfl⟩
            go_wp2_with fail
            go_round
            case rel => exact ⟨k + 1, hkl, by omega, by go_num, hnx.out⟩
            case measure => simp [Go.RowKit.intOf]; omega
          | false =>
            have hf := hid (shape_bad (l := l) hkl a1 (Or.inr a2))
            go_wp2_with fail
            refine (hck.out _).mono ?_
            rintro e w' ⟨rfl, rfl⟩
            go_wp2_with fail
            refine (hdk.out _).mono ?_
            rintro e w' ⟨rfl, rfl⟩
            go_wp2_with fail
            go_ret
            exact ⟨by rw [hf.out]; rfl, rfl⟩
      · obtain rfl : k = l.length := by omega
        have hf := hid (shape_good hpos hok.out)
        go_wp2_with fail
        go_ret
        exact ⟨by rw [hf.out]; rfl, rfl⟩
  · have h1 : isLow (({ data := l.toArray } : ByteArray)[0]'hpos) = false := by simpa using h1
    have hf := hid (shape_bad hpos (show isLow (l[0]'hpos) = false from h1) (Or.inl rfl))
    go_enter Tryd.func65, Tryd.ntmps65
    go_wp2_with fail
    refine (hc0.out _).mono ?_
    rintro e w' ⟨rfl, rfl⟩
    go_wp2_with fail
    go_ret
    exact ⟨by rw [hf.out]; rfl, rfl⟩

set_option maxHeartbeats 400000 in
theorem valid_any (l : List UInt8) (w : World) (hl : l.length ≤ 9223372036854775807) : Calls Tryd.prog 51 #[.string ⟨l.toArray⟩] w fun e w' => e = .returned (.bool (validB l)) ∧ Below w.heap.size w w' := by
  by_cases h1 : l.length ≤ 8
  · have t1 : decide ((l.length : Int) ≤ 8) = true := decide_eq_true (by omega)
    have hs := hid (fun w => syntax_any l w hl)
    cases a1 : shape l with
    | true =>
      have hr := hid (fun w => reserved_any l w (by unfold maxLen; omega))
      have hf := hid (show validB l = !hasS resW l by unfold validB; rw [a1, decide_eq_true h1]; rfl)
      go_enter Tryd.func51, Tryd.ntmps51
      go_wp2_with fail
      refine (hs.out _).mono ?_
      rintro e w' ⟨rfl, rfl⟩
      go_wp2_with fail
      refine (hr.out _).mono ?_
      rintro e w1 ⟨rfl, hb⟩
      go_wp2_with fail
      go_ret
      exact ⟨by rw [hf.out]; rfl, hb⟩
    | false =>
      have hf := hid (show validB l = false by unfold validB; rw [a1, decide_eq_true h1]; rfl)
      go_enter Tryd.func51, Tryd.ntmps51
      go_wp2_with fail
      refine (hs.out _).mono ?_
      rintro e w' ⟨rfl, rfl⟩
      go_wp2_with fail
      go_ret
      exact ⟨by rw [hf.out]; rfl, Below.refl _ _⟩
  · have t1 : decide ((l.length : Int) ≤ 8) = false := decide_eq_false (by omega)
    have hf := hid (show validB l = false by unfold validB; rw [decide_eq_false h1]; rfl)
    go_enter Tryd.func51, Tryd.ntmps51
    go_wp2_with fail
    go_ret
    exact ⟨by rw [hf.out]; rfl, Below.refl _ _⟩
end Go.Proofs.YteglampoceponaaDoor.C2

/- Chapter 2: names in lists, of the program and of the model (all but the sorting). -/
set_option maxRecDepth 100000
namespace Go.Proofs.YteglampoceponaaDoor.C2
open Go.RowKit Go.Lib Go.Proofs.YteglampoceponaaDoor.Num Go.Proofs.YteglampoceponaaDoor.Com Go.Proofs.YteglampoceponaaDoor.Mem Go.Proofs.YteglampoceponaaDoor.Mp Go.Proofs.YteglampoceponaaDoor.Ch Go.Proofs.YteglampoceponaaDoor.Ow

theorem cls (c : UInt8) :
    (decide ((97 : Int) ≤ (c.toNat : Int)) = false ∧ decide ((48 : Int) ≤ (c.toNat : Int)) = false ∧ isLow c = false ∧ isDig c = false) ∨
    (decide ((97 : Int) ≤ (c.toNat : Int)) = false ∧ decide ((48 : Int) ≤ (c.toNat : Int)) = true ∧ decide ((c.toNat : Int) ≤ 57) = true ∧ isLow c = false ∧ isDig c = true) ∨
    (decide ((97 : Int) ≤ (c.toNat : Int)) = false ∧ decide ((48 : Int) ≤ (c.toNat : Int)) = true ∧ decide ((c.toNat : Int) ≤ 57) = false ∧ isLow c = false ∧ isDig c = false) ∨
    (decide ((97 : Int) ≤ (c.toNat : Int)) = true ∧ decide ((c.toNat : Int) ≤ 122) = true ∧ decide ((48 : Int) ≤ (c.toNat : Int)) = true ∧ decide ((c.toNat : Int) ≤ 57) = false ∧ isLow c = true) ∨
    (decide ((97 : Int) ≤ (c.toNat : Int)) = true ∧ decide ((c.toNat : Int) ≤ 122) = false ∧ decide ((48 : Int) ≤ (c.toNat : Int)) = true ∧ decide ((c.toNat : Int) ≤ 57) = false ∧ isLow c = false ∧ isDig c = false) := by
  simp only [isLow, isDig, decide_eq_false_iff_not, decide_eq_true_eq, Bool.and_eq_false_iff, Bool.and_eq_true]
  omega

set_option maxHeartbeats 1000000 in
theorem sshape_any (l : List UInt8) (w : World) (hl : l.length ≤ 9223372036854775807) : Calls Tryd.prog 63 #[.string ⟨l.toArray⟩] w fun e w' => e = .returned (.bool (shape l)) ∧ w = w' := by
  go_enter Tryd.func63, Tryd.ntmps63
  go_wp2_with fail
  go_loop [3] (fun i => ∃ k : Nat, k ≤ l.length ∧ i = .int .i64 k ∧ okTo l k) (fun i => l.length - (Go.RowKit.intOf i).toNat)
  case atStart => exact ⟨0, Nat.zero_le _, rfl, fun j _ hj => by omega⟩
  case round =>
    obtain ⟨k, hk, rfl, hok⟩ := hrel
    have hok := hid hok
    by_cases hkl : k < l.length
    · have hlow := hid (fun h => okTo_snoc hok.out hkl (Or.inl h))
      have hdig := hid (fun h1 h2 => okTo_snoc hok.out hkl (Or.inr ⟨h1, h2⟩))
      have hbad := hid (fun h1 h2 => shape_bad (l := l) hkl h1 h2)
      have hc := cls (({ data := l.toArray } : ByteArray)[k]'hkl)
      rcases hc with ⟨t1, t2, a1, a2⟩ | ⟨t1, t2, t3, a1, a2⟩ | ⟨t1, t2, t3, a1, a2⟩ | ⟨t1, t2, t3, t4, a1⟩ | ⟨t1, t2, t3, t4, a1, a2⟩
      · have hf := hid (hbad.out a1 (Or.inr a2))
        clear a1 a2
        go_wp2_with fail
        all_goals
          go_ret
          exact ⟨by rw [hf.out]; rfl, rfl⟩
      · by_cases h0 : k = 0
        · subst h0
          have hf := hid (hbad.out a1 (Or.inl rfl))
          clear a1 a2
          go_wp2_with fail
          go_ret
          exact ⟨by rw [hf.out]; rfl, rfl⟩
        · have hnx := hid (hdig.out h0 a2)
          have hk0 : ((k : Int) == 0) = false := by rw [beq_eq_false_iff_ne]; omega
          clear a1 a2
          go_wp2_with fail
          go_round
          case rel => exact ⟨k + 1, hkl, by go_num, hnx.out⟩
          case measure => simp [Go.RowKit.intOf]; omega
      · have hf := hid (hbad.out a1 (Or.inr a2))
        clear a1 a2
        go_wp2_with fail
        all_goals
          go_ret
          exact ⟨by rw [hf.out]; rfl, rfl⟩
      · have hnx := hid (hlow.out a1)
        clear a1
        go_wp2_with fail
        go_round
        case rel => exact ⟨k + 1, hkl, by go_num, hnx.out⟩
        case measure => simp [Go.RowKit.intOf]; omega
      · have hf := hid (hbad.out a1 (Or.inr a2))
        clear a1 a2
        go_wp2_with fail
        all_goals
          go_ret
          exact ⟨by rw [hf.out]; rfl, rfl⟩
    · obtain rfl : k = l.length := by omega
      by_cases h0 : l = []
      · subst h0
        go_wp2_with fail
        go_ret
        exact ⟨rfl, rfl⟩
      · have hpos : 0 < l.length := List.length_pos_iff.2 h0
        have t1 : decide (0 < (l.length : Int)) = true := decide_eq_true (by omega)
        have hf := hid (shape_good hpos hok.out)
        clear h0
        go_wp2_with fail
        go_ret
        exact ⟨by rw [hf.out]; rfl, rfl⟩
set_option maxHeartbeats 400000 in
theorem svalid_any (l : List UInt8) (w : World) (hl : l.length ≤ 9223372036854775807) : Calls Tryd.prog 49 #[.string ⟨l.toArray⟩] w fun e w' => e = .returned (.bool (validB l)) ∧ Below w.heap.size w w' := by
  have hs := hid (fun w => sshape_any l w hl)
  cases a1 : shape l with
  | false =>
    have hf := hid (show validB l = false by unfold validB; rw [a1]; simp)
    go_enter Tryd.func49, Tryd.ntmps49
    go_wp2_with fail
    refine (hs.out _).mono ?_
    rintro e w' ⟨rfl, rfl⟩
    go_wp2_with fail
    go_ret
    exact ⟨by rw [hf.out]; rfl, Below.refl _ _⟩
  | true =>
    by_cases h1 : l.length ≤ 8
    · have t1 : decide ((l.length : Int) ≤ 8) = true := decide_eq_true (by omega)
      have hr := hid (fun w => sreserved_any l w)
      have hf := hid (show validB l = !hasS resW l by unfold validB; rw [a1, decide_eq_true h1]; rfl)
      go_enter Tryd.func49, Tryd.ntmps49
      go_wp2_with fail
      refine (hs.out _).mono ?_
      rintro e w' ⟨rfl, rfl⟩
      go_wp2_with fail
      refine (hr.out _).mono ?_
      rintro e w1 ⟨rfl, hb⟩
      go_wp2_with fail
      go_ret
      exact ⟨by rw [hf.out]; rfl, hb⟩
    · have t1 : decide ((l.length : Int) ≤ 8) = false := decide_eq_false (by omega)
      have hf := hid (show validB l = false by unfold validB; rw [decide_eq_false h1]; rfl)
      go_enter Tryd.func49, Tryd.ntmps49
      go_wp2_with fail
      refine (hs.out _).mono ?_
      rintro e w' ⟨rfl, rfl⟩
      go_wp2_with fail
      go_ret
      exact ⟨by rw [hf.out]; rfl, Below.refl _ _⟩

/-- the place of the first element that is l, or -1 -/
def ixOf : List (List UInt8) → List UInt8 → Int
  | [], _ => -1
  | x :: r, l => if x = l then 0 else if ixOf r l < 0 then -1 else ixOf r l + 1
theorem ixOf_none {L : List (List UInt8)} {l : List UInt8} (h : l ∉ L) : ixOf L l = -1 := by
  induction L with
  | nil => rfl
  | cons x r ih =>
    simp only [List.mem_cons, not_or] at h
    simp only [ixOf]
    rw [if_neg (fun e => h.1 e.symm), ih h.2]; rfl
theorem ixOf_at {L : List (List UInt8)} {l : List UInt8} : ∀ {k : Nat} (hk : k < L.length), L[k] = l → l ∉ L.take k → ixOf L l = k := by
  induction L with
  | nil => intro k hk; simp at hk
  | cons x r ih =>
    intro k hk h1 h2
    cases k with
    | zero => simp at h1; simp [ixOf, h1]
    | succ j =>
      simp only [List.take_succ_cons, List.mem_cons, not_or] at h2
      have := ih (k := j) (by simpa using hk) (by simpa using h1) h2.2
      simp only [ixOf]
      rw [if_neg (fun e => h2.1 e.symm), this, if_neg (by omega)]
      omega
theorem ixOf_neg {L : List (List UInt8)} {l : List UInt8} : (ixOf L l < 0) ↔ l ∉ L := by
  induction L with
  | nil => simp [ixOf]
  | cons x r ih =>
    simp only [ixOf, List.mem_cons, not_or]
    by_cases h : x = l
    · simp [h]
    · rw [if_neg h]
      by_cases h2 : ixOf r l < 0
      · rw [if_pos h2]; exact ⟨fun _ => ⟨fun e => h e.symm, ih.1 h2⟩, fun _ => by omega⟩
      · rw [if_neg h2]; exact ⟨fun h3 => by omega, fun h3 => absurd (ih.2 h3.2) h2⟩
theorem ixOf_bd (L : List (List UInt8)) (l : List UInt8) : -1 ≤ ixOf L l ∧ ixOf L l < L.length := by
  induction L with
  | nil => simp [ixOf]
  | cons x r ih =>
    simp only [ixOf, List.length_cons]
    split
    · omega
    · split <;> omega


/-- are all different? -/
def distB (L : List (List UInt8)) : Bool := decide L.Nodup

/-- those that are not to be removed -/
def keepS (L R : List (List UInt8)) : List (List UInt8) := L.filter fun x => !hasS R x
theorem keep_snoc {L R : List (List UInt8)} {k : Nat} (hk : k < L.length) : keepS (L.take (k + 1)) R = keepS (L.take k) R ++ if hasS R L[k] then [] else [L[k]] := by
  unfold keepS
  rw [List.take_succ_eq_append_getElem hk, List.filter_append]
  cases h : hasS R L[k] <;> simp [h]
theorem keep_len (L R : List (List UInt8)) : (keepS L R).length ≤ L.length := List.length_filter_le _ _

end Go.Proofs.YteglampoceponaaDoor.C2
