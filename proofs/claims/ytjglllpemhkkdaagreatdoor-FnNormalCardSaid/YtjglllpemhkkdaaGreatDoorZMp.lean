/- Maps that the call itself makes: a set of strings (map[string]bool). -/
import Derived.Test.YtjglllpemhkkdaaGreatDoorZCom
import Derived.Maps.OwnSet
import Derived.StringKeys
import Derived.Test.YtjglllpemhkkdaaGreatDoorZLhS
import Derived.Lib.SlicesCompact
import Derived.Sort.Walk0
set_option maxRecDepth 100000
namespace Go.Proofs.YtjglllpemhkkdaaGreatDoor.Mp
open Go.RowKit Go.Maps Mem

theorem keyS : Keyed Tryz.prog 9 := string_keyed Tryz.underlying9
theorem zeroB (w : World) : (zeroValue 4).run Tryz.prog w = .ok (.bool false) w := by kernel_rfl

def hasS (S : List (List UInt8)) (l : List UInt8) : Bool := S.contains l
theorem hasS_iff {S : List (List UInt8)} {l : List UInt8} : hasS S l = true ↔ l ∈ S := by simp [hasS]
theorem hasS_false {S : List (List UInt8)} {l : List UInt8} : hasS S l = false ↔ l ∉ S := by simp [hasS]

def strs (S : List (List UInt8)) : List Lit := S.map Lit.string
def setD (S : List (List UInt8)) : DataW Unit := setOf (.lit (.bool true)) (strs S)
def SetIs (w : World) (b n : Nat) (S : List (List UInt8)) : Prop := w.ownsMap (H := Unit) Tryz.prog 9 (plainElem Tryz.prog 4) b n (setD S)

theorem keys_str (S : List (List UInt8)) : ∀ x ∈ strs S, WideAt.IsKeyLit x := by
  intro x hx
  obtain ⟨l, _, rfl⟩ := List.mem_map.1 hx
  trivial

theorem setD_snoc (S : List (List UInt8)) (l : List UInt8) : setD (S ++ [l]) = (setD S).put (.string l) (.lit (.bool true)) := by
  unfold setD strs; rw [List.map_append]; exact setOf_snoc _ _ _

theorem put_ind (S : List (List UInt8)) (l : List UInt8) : ∀ (m : DataW Unit), IsMap m → (strs S |>.foldl (fun m x => m.put x (.lit (.bool true))) m).atKey (.string l) (.lit (.bool false)) = if S.contains l then .lit (.bool true) else m.atKey (.string l) (.lit (.bool false)) := by
  induction S with
  | nil => intro m _; rfl
  | cons x r ih =>
    intro m hm
    show (List.foldl _ (m.put (.string x) _) (strs r)).atKey _ _ = _
    rw [ih _ (hm.put _ _)]
    by_cases e : l = x
    · subst e
      rw [atKey_put_same hm (keys_str [l] _ (by simp [strs]))]
      simp
    · rw [atKey_put_other (by simpa using e)]
      have : (x :: r).contains l = r.contains l := by simp [e]
      rw [this]

theorem setD_at (S : List (List UInt8)) (l : List UInt8) : (setD S).atKey (.string l) (.lit (.bool false)) = .lit (.bool (hasS S l)) := by
  have := put_ind S l _ isMap_empty
  unfold setD setOf
  rw [this]
  unfold hasS
  cases h : S.contains l
  · rfl
  · rfl

section
variable {w w' : World} {b n : Nat} {S : List (List UInt8)}
theorem SetIs.made (w : World) : SetIs (w.alloc (.map #[] 0)) w.heap.size 0 [] := World.ownsMap_made w _ _ _

theorem key_at {l : List UInt8} (hl : l.length ≤ maxLen) : keyOf Tryz.prog 9 (.string ⟨l.toArray⟩) = some (.string l) := by
  have := WideMaps.keyOf_string_mk (P := Tryz.prog) Tryz.underlying9 (s := ⟨l.toArray⟩) (by simpa [ByteArray.size] using hl)
  simpa using this

theorem SetIs.look (h : SetIs w b n S) {l : List UInt8} (hl : l.length ≤ maxLen) : (Instr.lookup 272 (.map (some b)) (.string ⟨l.toArray⟩) false).run Tryz.prog w = .ok (.bool (hasS S l)) w := by
  obtain ⟨v, ps, hrun, hv⟩ := World.ownsMap.lookup h keyS Tryz.underlying272 (zeroB w) (plainElem_bool Tryz.underlying4 false) (key_at hl)
  rw [setD_at] at hv
  have : v = .bool (hasS S l) := by
    unfold plainElem at hv
    rw [Tryz.underlying4] at hv
    cases v <;> simp at hv
    rw [hv.1]
  rw [hrun, this]

theorem SetIs.put (h : SetIs w b n S) (hn : n < maxLen) {l : List UInt8} (hl : l.length ≤ maxLen) :
    ∃ w', (Instr.mapUpdate 272 (.map (some b)) (.string ⟨l.toArray⟩) (.bool true)).run Tryz.prog w = .ok () w' ∧ SetIs w' b (n + 1) (S ++ [l]) ∧ w.grownBy w' (some b) := by
  have := World.ownsMap.update (d := .lit (.bool true)) (ps := []) h keyS Tryz.underlying272 hn (key_at hl) (plainElem_bool Tryz.underlying4 true)
  obtain ⟨w', h1, h2, h3⟩ := this
  exact ⟨w', h1, by unfold SetIs; rw [setD_snoc]; exact h2, h3⟩

end

theorem wpList_put {ops : Array Oper} {rest : List Oper} {o : Oper} {a : Act} {Q : Exit → Act → World → Prop} {w : World} (hg : o.guard = none) (m x v : Operand)
    (hop : o.op = Op.insert 272 m x v ∨ o.op = Op.mapUpdate 272 m x v) (b n : Nat) (S : List (List UInt8)) (hs : SetIs w b n S) (hn : n < maxLen) (l : List UInt8) (hl : l.length ≤ maxLen)
    (hm : a.eval m = .map (some b)) (hx : a.eval x = .string ⟨l.toArray⟩) (hv : a.eval v = .bool true)
    (hK : ∀ w', SetIs w' b (n + 1) (S ++ [l]) → w.grownBy w' (some b) → wpList Tryz.prog ops Q rest (a.put o.dst undef) w') :
    wpList Tryz.prog ops Q (o :: rest) a w := by
  refine wpList_plain hg fun K' hK' => ?_
  obtain ⟨w', hrun, r1, r2⟩ := hs.put hn hl
  unfold Oper.wp
  rcases hop with hop | hop
  all_goals
    simp [execOp, hop, hm, hx, hv, hrun, Result.andThen]
    exact hK' _ _ (hK w' r1 r2)

theorem wpList_has {ops : Array Oper} {rest : List Oper} {o : Oper} {a : Act} {Q : Exit → Act → World → Prop} {w : World} (hg : o.guard = none) (m x : Operand)
    (hop : o.op = Op.lookup 272 m x false) (b n : Nat) (S : List (List UInt8)) (hs : SetIs w b n S) (l : List UInt8) (hl : l.length ≤ maxLen) (hm : a.eval m = .map (some b)) (hx : a.eval x = .string ⟨l.toArray⟩)
    (hK : wpList Tryz.prog ops Q rest (a.put o.dst (.bool (hasS S l))) w) :
    wpList Tryz.prog ops Q (o :: rest) a w := by
  refine wpList_plain hg fun K' hK' => ?_
  unfold Oper.wp
  simp [execOp, hop, hm, hx, hs.look hl, Result.andThen]
  exact hK' _ _ hK
end Go.Proofs.YtjglllpemhkkdaaGreatDoor.Mp

/- Chapter 2: reserved words and valid names, of the program and of the model. -/
set_option maxRecDepth 100000
namespace Go.Proofs.YtjglllpemhkkdaaGreatDoor.C2
open Go.RowKit Go.Lib Num Com Mem Mp Ch

def resW : List (List UInt8) := [[118, 97, 114, 115], [105, 102], [101, 108, 115, 101], [119, 104, 105, 108, 101], [101, 109, 105, 116], [97], [98], [100, 105, 102, 102], [112, 114, 101], [112, 111, 115, 116], [111, 117, 116, 112, 117, 116], [99, 111, 115, 116]]

set_option maxHeartbeats 1000000 in
theorem words_any (w : World) : Calls Tryz.prog 241 #[] w fun e w' => e = .returned (.map (some w.heap.size)) ∧ SetIs w' w.heap.size 12 resW ∧ Below w.heap.size w w' := by
  have hmm := @run_makeMap Tryz.prog
  have H : SetIs (w.alloc (.map #[] 0)) w.heap.size 0 [] ∧ Below w.heap.size w (w.alloc (.map #[] 0)) := ⟨SetIs.made w, (Below.refl _ _).alloc (Nat.le_refl _) _⟩
  have H := hid H
  go_enter Tryz.func241, Tryz.ntmps241
  go_wp2_with (refine wpList_put rfl _ _ _ (Or.inl rfl) _ _ _ H.out.1 (by unfold maxLen; omega) _ (by unfold maxLen; simp) rfl rfl rfl ?_; intro w1 hs1 hg1; replace H := hid (And.intro hs1 (bgb H.out.2 hg1 H.out.2.size (Nat.le_refl _))); clear hs1 hg1)
  go_ret
  exact ⟨rfl, H.out.1, H.out.2⟩

set_option maxHeartbeats 400000 in
theorem reserved_any (l : List UInt8) (w : World) (hl : l.length ≤ maxLen) : Calls Tryz.prog 216 #[.string ⟨l.toArray⟩] w fun e w' => e = .returned (.bool (hasS resW l)) ∧ Below w.heap.size w w' := by
  have hl := hid hl
  go_enter Tryz.func216, Tryz.ntmps216
  go_wp2_with fail
  refine (words_any _).mono ?_
  rintro e w1 ⟨rfl, hs, hb⟩
  have hb := hid hb
  go_wp2_with (refine wpList_has rfl _ _ rfl _ _ _ hs l hl.out rfl rfl ?_)
  go_ret
  exact ⟨rfl, hb.out⟩

set_option maxHeartbeats 400000 in
theorem has_any (A : Option Addr) (c : Nat) (L : List (List UInt8)) (l : List UInt8) (w : World) (B : Nat) (h : Rd w B A (L.map sv)) (hn : L.length ≤ 9223372036854775807) :
    Calls Tryz.prog 173 #[.slice A L.length c, .string ⟨l.toArray⟩] w fun e w' => e = .returned (.bool (hasS L l)) ∧ w = w' := by
  go_enter Tryz.func173, Tryz.ntmps173
  go_wp2_with fail
  go_loop [5] (fun i => ∃ k : Nat, k ≤ L.length ∧ i = .int .i64 k ∧ l ∉ L.take k) (fun i => L.length - (Go.RowKit.intOf i).toNat)
  case atStart => exact ⟨0, Nat.zero_le _, rfl, by simp⟩
  case round =>
    obtain ⟨k, hk, rfl, hs⟩ := hrel
    by_cases hlt : k < L.length
    · obtain ⟨ad, rfl, _, hc⟩ := Lh.rd_str h hlt
      by_cases he : L[k] = l
      · have hf := hid (show hasS L l = true from hasS_iff.2 (he ▸ List.getElem_mem hlt))
        have t1 : (L[k] == l) = true := by rw [he]; simp
        clear hs he h
        go_wp2_with fail
        go_ret
        exact ⟨by rw [hf.out]; rfl, rfl⟩
      · have t1 : (L[k] == l) = false := by simpa using he
        have hnx := hid (show l ∉ L.take (k + 1) by rw [List.take_succ_eq_append_getElem hlt]; simp only [List.mem_append, List.mem_singleton, not_or]; exact ⟨hs, fun e => he e.symm⟩)
        clear hs he h
        go_wp2_with fail
        go_round
        case rel => exact ⟨k + 1, hlt, by go_num, hnx.out⟩
        case measure => simp [Go.RowKit.intOf]; omega
    · obtain rfl : k = L.length := by omega
      have hf := hid (show hasS L l = false from hasS_false.2 (by rw [List.take_of_length_le (Nat.le_refl _)] at hs; exact hs))
      clear hs h
      go_wp2_with fail
      go_ret
      exact ⟨by rw [hf.out]; rfl, rfl⟩

set_option maxHeartbeats 400000 in
theorem swords_any (w : World) : Calls Tryz.prog 219 #[] w fun e w' => e = .returned (.slice (some ⟨w.heap.size, 0, none⟩) 12 12) ∧ Blk w' w.heap.size 9 (resW.map sv) ∧ Below w.heap.size w w' := by
  go_enter Tryz.func219, Tryz.ntmps219
  go_wp2_with fail
  go_ret
  exact ⟨rfl, Blk.new _ _ _, (Below.refl _ _).alloc (Nat.le_refl _) _⟩
set_option maxHeartbeats 400000 in
theorem sreserved_any (l : List UInt8) (w : World) : Calls Tryz.prog 172 #[.string ⟨l.toArray⟩] w fun e w' => e = .returned (.bool (hasS resW l)) ∧ Below w.heap.size w w' := by
  go_enter Tryz.func172, Tryz.ntmps172
  go_wp2_with fail
  refine (swords_any _).mono ?_
  rintro e w1 ⟨rfl, hs, hb⟩
  have hb := hid hb
  have hs := hid hs
  go_wp2_with fail
  refine (has_any _ 12 resW l _ _ hs.out.rd (by decide)).mono ?_
  rintro e w2 ⟨rfl, rfl⟩
  go_wp2_with fail
  go_ret
  exact ⟨rfl, hb.out⟩

def shape : List UInt8 → Bool
  | [] => false
  | c :: r => isLow c && r.all fun x => isLow x || isDig x
def validB (l : List UInt8) : Bool := decide (l.length ≤ 8) && (shape l && !hasS resW l)

theorem shape_bad {l : List UInt8} {k : Nat} (hk : k < l.length) (h : isLow l[k] = false) (h2 : k = 0 ∨ isDig l[k] = false) : shape l = false := by
  cases l with
  | nil => simp at hk
  | cons c r =>
    cases k with
    | zero => simp at h; simp [shape, h]
    | succ j =>
      have hd : isDig (c :: r)[j + 1] = false := by rcases h2 with h2 | h2; omega; exact h2
      simp only [shape]
      rw [Bool.and_eq_false_iff]
      refine Or.inr (List.all_eq_false.2 ⟨r[j]'(by simpa using hk), List.getElem_mem _, ?_⟩)
      simp only [List.getElem_cons_succ] at h hd
      simp [h, hd]
def okTo (l : List UInt8) (k : Nat) : Prop := ∀ j (h : j < l.length), j < k → isLow l[j] = true ∨ (j ≠ 0 ∧ isDig l[j] = true)
theorem okTo_snoc {l : List UInt8} {k : Nat} (h : okTo l k) (hk : k < l.length) (hc : isLow l[k] = true ∨ (k ≠ 0 ∧ isDig l[k] = true)) : okTo l (k + 1) := by
  intro j hj hjk
  rcases Nat.lt_or_ge j k with hlt | hge
  · exact h j hj hlt
  · obtain rfl : j = k := by omega
    exact hc
theorem shape_good {l : List UInt8} (h0 : 0 < l.length) (h : okTo l l.length) : shape l = true := by
  cases l with
  | nil => simp at h0
  | cons c r =>
    simp only [shape, Bool.and_eq_true, List.all_eq_true]
    refine ⟨?_, ?_⟩
    · rcases h 0 h0 h0 with h1 | h1
      · exact h1
      · exact absurd rfl h1.1
    · intro x hx
      obtain ⟨j, hj, rfl⟩ := List.mem_iff_getElem.1 hx
      rcases h (j + 1) (by simpa using hj) (by simpa using hj) with h1 | h1
      · simp at h1; simp [h1]
      · have := h1.2; simp at this; simp [this]

set_option maxHeartbeats 1000000 in
theorem syntax_any (l : List UInt8) (w : World) (hl : l.length ≤ 9223372036854775807) : Calls Tryz.prog 215 #[.string ⟨l.toArray⟩] w fun e w' => e = .returned (.bool (shape l)) ∧ w = w' := by
  by_cases h0 : l = []
  · subst h0
    go_enter Tryz.func215, Tryz.ntmps215
    go_wp2_with fail
    go_ret
    exact ⟨rfl, rfl⟩
  have he : l.isEmpty = false := by cases l <;> simp_all
  have hpos : 0 < l.length := List.length_pos_iff.2 h0
  have hc0 := hid (fun w => lower_any (({ data := l.toArray } : ByteArray)[0]'hpos) w)
  clear h0
  by_cases h1 : isLow (({ data := l.toArray } : ByteArray)[0]'hpos) = true
  · have h1' := hid (show isLow (l[0]'hpos) = true from h1)
    go_enter Tryz.func215, Tryz.ntmps215
    go_wp2_with fail
    refine (hc0.out _).mono ?_
    rintro e w' ⟨rfl, rfl⟩
    go_wp2_with fail
    go_loop [3] (fun i => ∃ k : Nat, k ≤ l.length ∧ 1 ≤ k ∧ i = .int .i64 k ∧ okTo l k) (fun i => l.length - (Go.RowKit.intOf i).toNat)
    case atStart => exact ⟨1, hpos, Nat.le_refl _, rfl, fun j hj hj1 => by obtain rfl : j = 0 := (by omega); exact Or.inl h1'.out⟩
    case round =>
      obtain ⟨k, hk, hk1, rfl, hok⟩ := hrel
      have hok := hid hok
      clear h1
      by_cases hkl : k < l.length
      · have hck := hid (fun w => lower_any (({ data := l.toArray } : ByteArray)[k]'hkl) w)
        have hdk := hid (fun w => digit_any (({ data := l.toArray } : ByteArray)[k]'hkl) w)
        cases a1 : isLow (({ data := l.toArray } : ByteArray)[k]'hkl) with
        | true =>
          have hnx := hid (okTo_snoc hok.out hkl (Or.inl a1))
          go_wp2_with fail
          refine (hck.out _).mono ?_
          rintro e w' ⟨rfl, rfl⟩
          go_wp2_with fail
          go_round
          case rel => exact ⟨k + 1, hkl, by omega, by go_num, hnx.out⟩
          case measure => simp [Go.RowKit.intOf]; omega
        | false =>
          cases a2 : isDig (({ data := l.toArray } : ByteArray)[k]'hkl) with
          | true =>
            have hnx := hid (okTo_snoc hok.out hkl (Or.inr ⟨by omega, a2⟩))
            go_wp2_with fail
            refine (hck.out _).mono ?_
            rintro e w' ⟨rfl, rfl⟩
            go_wp2_with fail
            refine (hdk.out _).mono ?_
            rintro e w' ⟨rfl, rfl⟩
            go_wp2_with fail
            go_round
            case rel => exact ⟨k + 1, hkl, by omega, by go_num, hnx.out⟩
            case measure => simp [Go.RowKit.intOf]; omega
          | false =>
            have hf := hid (shape_bad (l := l) hkl a1 (Or.inr a2))
            go_wp2_with fail
            refine (hck.out _).mono ?_
            rintro e w' ⟨rfl, rfl⟩
            go_wp2_with fail
            refine (hdk.out _).mono ?_
            rintro e w' ⟨rfl, rfl⟩
            go_wp2_with fail
            go_ret
            exact ⟨by rw [hf.out]; rfl, rfl⟩
      · obtain rfl : k = l.length := by omega
        have hf := hid (shape_good hpos hok.out)
        go_wp2_with fail
        go_ret
        exact ⟨by rw [hf.out]; rfl, rfl⟩
  · have h1 : isLow (({ data := l.toArray } : ByteArray)[0]'hpos) = false := by simpa using h1
    have hf := hid (shape_bad hpos (show isLow (l[0]'hpos) = false from h1) (Or.inl rfl))
    go_enter Tryz.func215, Tryz.ntmps215
    go_wp2_with fail
    refine (hc0.out _).mono ?_
    rintro e w' ⟨rfl, rfl⟩
    go_wp2_with fail
    go_ret
    exact ⟨by rw [hf.out]; rfl, rfl⟩

set_option maxHeartbeats 400000 in
theorem valid_any (l : List UInt8) (w : World) (hl : l.length ≤ 9223372036854775807) : Calls Tryz.prog 168 #[.string ⟨l.toArray⟩] w fun e w' => e = .returned (.bool (validB l)) ∧ Below w.heap.size w w' := by
  by_cases h1 : l.length ≤ 8
  · have t1 : decide ((l.length : Int) ≤ 8) = true := decide_eq_true (by omega)
    have hs := hid (fun w => syntax_any l w hl)
    cases a1 : shape l with
    | true =>
      have hr := hid (fun w => reserved_any l w (by unfold maxLen; omega))
      have hf := hid (show validB l = !hasS resW l by unfold validB; rw [a1, decide_eq_true h1]; rfl)
      go_enter Tryz.func168, Tryz.ntmps168
      go_wp2_with fail
      refine (hs.out _).mono ?_
      rintro e w' ⟨rfl, rfl⟩
      go_wp2_with fail
      refine (hr.out _).mono ?_
      rintro e w1 ⟨rfl, hb⟩
      go_wp2_with fail
      go_ret
      exact ⟨by rw [hf.out]; rfl, hb⟩
    | false =>
      have hf := hid (show validB l = false by unfold validB; rw [a1, decide_eq_true h1]; rfl)
      go_enter Tryz.func168, Tryz.ntmps168
      go_wp2_with fail
      refine (hs.out _).mono ?_
      rintro e w' ⟨rfl, rfl⟩
      go_wp2_with fail
      go_ret
      exact ⟨by rw [hf.out]; rfl, Below.refl _ _⟩
  · have t1 : decide ((l.length : Int) ≤ 8) = false := decide_eq_false (by omega)
    have hf := hid (show validB l = false by unfold validB; rw [decide_eq_false h1]; rfl)
    go_enter Tryz.func168, Tryz.ntmps168
    go_wp2_with fail
    go_ret
    exact ⟨by rw [hf.out]; rfl, Below.refl _ _⟩
open Ow

theorem cls (c : UInt8) :
    (decide ((97 : Int) ≤ (c.toNat : Int)) = false ∧ decide ((48 : Int) ≤ (c.toNat : Int)) = false ∧ isLow c = false ∧ isDig c = false) ∨
    (decide ((97 : Int) ≤ (c.toNat : Int)) = false ∧ decide ((48 : Int) ≤ (c.toNat : Int)) = true ∧ decide ((c.toNat : Int) ≤ 57) = true ∧ isLow c = false ∧ isDig c = true) ∨
    (decide ((97 : Int) ≤ (c.toNat : Int)) = false ∧ decide ((48 : Int) ≤ (c.toNat : Int)) = true ∧ decide ((c.toNat : Int) ≤ 57) = false ∧ isLow c = false ∧ isDig c = false) ∨
    (decide ((97 : Int) ≤ (c.toNat : Int)) = true ∧ decide ((c.toNat : Int) ≤ 122) = true ∧ decide ((48 : Int) ≤ (c.toNat : Int)) = true ∧ decide ((c.toNat : Int) ≤ 57) = false ∧ isLow c = true) ∨
    (decide ((97 : Int) ≤ (c.toNat : Int)) = true ∧ decide ((c.toNat : Int) ≤ 122) = false ∧ decide ((48 : Int) ≤ (c.toNat : Int)) = true ∧ decide ((c.toNat : Int) ≤ 57) = false ∧ isLow c = false ∧ isDig c = false) := by
  simp only [isLow, isDig, decide_eq_false_iff_not, decide_eq_true_eq, Bool.and_eq_false_iff, Bool.and_eq_true]
  omega

set_option maxHeartbeats 1000000 in
theorem sshape_any (l : List UInt8) (w : World) (hl : l.length ≤ 9223372036854775807) : Calls Tryz.prog 171 #[.string ⟨l.toArray⟩] w fun e w' => e = .returned (.bool (shape l)) ∧ w = w' := by
  go_enter Tryz.func171, Tryz.ntmps171
  go_wp2_with fail
  go_loop [3] (fun i => ∃ k : Nat, k ≤ l.length ∧ i = .int .i64 k ∧ okTo l k) (fun i => l.length - (Go.RowKit.intOf i).toNat)
  case atStart => exact ⟨0, Nat.zero_le _, rfl, fun j _ hj => by omega⟩
  case round =>
    obtain ⟨k, hk, rfl, hok⟩ := hrel
    have hok := hid hok
    by_cases hkl : k < l.length
    · have hlow := hid (fun h => okTo_snoc hok.out hkl (Or.inl h))
      have hdig := hid (fun h1 h2 => okTo_snoc hok.out hkl (Or.inr ⟨h1, h2⟩))
      have hbad := hid (fun h1 h2 => shape_bad (l := l) hkl h1 h2)
      have hc := cls (({ data := l.toArray } : ByteArray)[k]'hkl)
      rcases hc with ⟨t1, t2, a1, a2⟩ | ⟨t1, t2, t3, a1, a2⟩ | ⟨t1, t2, t3, a1, a2⟩ | ⟨t1, t2, t3, t4, a1⟩ | ⟨t1, t2, t3, t4, a1, a2⟩
      · have hf := hid (hbad.out a1 (Or.inr a2))
        clear a1 a2
        go_wp2_with fail
        all_goals
          go_ret
          exact ⟨by rw [hf.out]; rfl, rfl⟩
      · by_cases h0 : k = 0
        · subst h0
          have hf := hid (hbad.out a1 (Or.inl rfl))
          clear a1 a2
          go_wp2_with fail
          go_ret
          exact ⟨by rw [hf.out]; rfl, rfl⟩
        · have hnx := hid (hdig.out h0 a2)
          have hk0 : ((k : Int) == 0) = false := by rw [beq_eq_false_iff_ne]; omega
          clear a1 a2
          go_wp2_with fail
          go_round
          case rel => exact ⟨k + 1, hkl, by go_num, hnx.out⟩
          case measure => simp [Go.RowKit.intOf]; omega
      · have hf := hid (hbad.out a1 (Or.inr a2))
        clear a1 a2
        go_wp2_with fail
        all_goals
          go_ret
          exact ⟨by rw [hf.out]; rfl, rfl⟩
      · have hnx := hid (hlow.out a1)
        clear a1
        go_wp2_with fail
        go_round
        case rel => exact ⟨k + 1, hkl, by go_num, hnx.out⟩
        case measure => simp [Go.RowKit.intOf]; omega
      · have hf := hid (hbad.out a1 (Or.inr a2))
        clear a1 a2
        go_wp2_with fail
        all_goals
          go_ret
          exact ⟨by rw [hf.out]; rfl, rfl⟩
    · obtain rfl : k = l.length := by omega
      by_cases h0 : l = []
      · subst h0
        go_wp2_with fail
        go_ret
        exact ⟨rfl, rfl⟩
      · have hpos : 0 < l.length := List.length_pos_iff.2 h0
        have t1 : decide (0 < (l.length : Int)) = true := decide_eq_true (by omega)
        have hf := hid (shape_good hpos hok.out)
        clear h0
        go_wp2_with fail
        go_ret
        exact ⟨by rw [hf.out]; rfl, rfl⟩
set_option maxHeartbeats 400000 in
theorem svalid_any (l : List UInt8) (w : World) (hl : l.length ≤ 9223372036854775807) : Calls Tryz.prog 117 #[.string ⟨l.toArray⟩] w fun e w' => e = .returned (.bool (validB l)) ∧ Below w.heap.size w w' := by
  have hs := hid (fun w => sshape_any l w hl)
  cases a1 : shape l with
  | false =>
    have hf := hid (show validB l = false by unfold validB; rw [a1]; simp)
    go_enter Tryz.func117, Tryz.ntmps117
    go_wp2_with fail
    refine (hs.out _).mono ?_
    rintro e w' ⟨rfl, rfl⟩
    go_wp2_with fail
    go_ret
    exact ⟨by rw [hf.out]; rfl, Below.refl _ _⟩
  | true =>
    by_cases h1 : l.length ≤ 8
    · have t1 : decide ((l.length : Int) ≤ 8) = true := decide_eq_true (by omega)
      have hr := hid (fun w => sreserved_any l w)
      have hf := hid (show validB l = !hasS resW l by unfold validB; rw [a1, decide_eq_true h1]; rfl)
      go_enter Tryz.func117, Tryz.ntmps117
      go_wp2_with fail
      refine (hs.out _).mono ?_
      rintro e w' ⟨rfl, rfl⟩
      go_wp2_with fail
      refine (hr.out _).mono ?_
      rintro e w1 ⟨rfl, hb⟩
      go_wp2_with fail
      go_ret
      exact ⟨by rw [hf.out]; rfl, hb⟩
    · have t1 : decide ((l.length : Int) ≤ 8) = false := decide_eq_false (by omega)
      have hf := hid (show validB l = false by unfold validB; rw [decide_eq_false h1]; rfl)
      go_enter Tryz.func117, Tryz.ntmps117
      go_wp2_with fail
      refine (hs.out _).mono ?_
      rintro e w' ⟨rfl, rfl⟩
      go_wp2_with fail
      go_ret
      exact ⟨by rw [hf.out]; rfl, Below.refl _ _⟩

end Go.Proofs.YtjglllpemhkkdaaGreatDoor.C2

/- Lists of names in ascending order: plain mathematics. -/
set_option maxRecDepth 100000
namespace Go.Proofs.YtjglllpemhkkdaaGreatDoor.Nm

/-! the program's way: sort, then leave out what stands beside its like -/
end Go.Proofs.YtjglllpemhkkdaaGreatDoor.Nm

/- Chapter 2: SortNames and Without, of the model. -/
set_option maxRecDepth 100000
namespace Go.Proofs.YtjglllpemhkkdaaGreatDoor.C2
open Go.RowKit Go.Lib Com Mem Mp Ow YtjglllpemhkkdaaGreatDoor.Nm

end Go.Proofs.YtjglllpemhkkdaaGreatDoor.C2
