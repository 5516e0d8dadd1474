/- Maps that the call itself makes: a set of strings (map[string]bool). -/
import Derived.Maps.OwnSet
import Derived.StringKeys
import Derived.Test.YtnmomlaimffonaaGreatZLhS
import Derived.Lib.SlicesCompact
import Derived.Sort.Walk0
set_option maxHeartbeats 2000000
set_option maxRecDepth 100000
namespace Go.Proofs.YtnmomlaimffonaaGreat.Mp
open Go.RowKit Go.Maps Mem
theorem keyS : Keyed Tryz.prog 9 := string_keyed Tryz.underlying9
theorem zeroB (w : World) : (zeroValue 4).run Tryz.prog w = .ok (.bool false) w := by kernel_rfl
def hasS (S : List (List UInt8)) (l : List UInt8) : Bool := S.contains l
theorem hasS_iff {S : List (List UInt8)} {l : List UInt8} : hasS S l = true ↔ l ∈ S := by simp [hasS]
theorem hasS_false {S : List (List UInt8)} {l : List UInt8} : hasS S l = false ↔ l ∉ S := by simp [hasS]
def strs (S : List (List UInt8)) : List Lit := S.map Lit.string
def setD (S : List (List UInt8)) : DataW Unit := setOf (.lit (.bool true)) (strs S)
def SetIs (w : World) (b n : Nat) (S : List (List UInt8)) : Prop := w.ownsMap (H := Unit) Tryz.prog 9 (plainElem Tryz.prog 4) b n (setD S)
theorem keys_str (S : List (List UInt8)) : ∀ x ∈ strs S, WideAt.IsKeyLit x := by
  intro x hx
  obtain ⟨l, _, rfl⟩ := List.mem_map.1 hx
  trivial
theorem sameKey_str (a b : List UInt8) : (Lit.string a).sameKey (.string b) = (a == b) := by
  by_cases h : a = b
  · subst h; rw [WideAt.sameKey_self (keys_str [a] _ (by simp [strs]))]; simp
  · rw [sameKey_ne (by simpa using h)]; simp [h]
theorem setD_snoc (S : List (List UInt8)) (l : List UInt8) : setD (S ++ [l]) = (setD S).put (.string l) (.lit (.bool true)) := by
  unfold setD strs; rw [List.map_append]; exact setOf_snoc _ _ _
theorem put_ind (S : List (List UInt8)) (l : List UInt8) : ∀ (m : DataW Unit), IsMap m → (strs S |>.foldl (fun m x => m.put x (.lit (.bool true))) m).atKey (.string l) (.lit (.bool false)) = if S.contains l then .lit (.bool true) else m.atKey (.string l) (.lit (.bool false)) := by
  induction S with
  | nil => intro m _; rfl
  | cons x r ih =>
    intro m hm
    show (List.foldl _ (m.put (.string x) _) (strs r)).atKey _ _ = _
    rw [ih _ (hm.put _ _)]
    by_cases e : l = x
    · subst e
      rw [atKey_put_same hm (keys_str [l] _ (by simp [strs]))]
      simp
    · rw [atKey_put_other (by simpa using e)]
      have : (x :: r).contains l = r.contains l := by simp [e]
      rw [this]
theorem setD_at (S : List (List UInt8)) (l : List UInt8) : (setD S).atKey (.string l) (.lit (.bool false)) = .lit (.bool (hasS S l)) := by
  have := put_ind S l _ isMap_empty
  unfold setD setOf
  rw [this]
  unfold hasS
  cases h : S.contains l
  · rfl
  · rfl
def addK (acc : List (List UInt8)) (x : List UInt8) : List (List UInt8) := if acc.contains x then acc else acc ++ [x]
def uniq (S : List (List UInt8)) : List (List UInt8) := S.foldl addK []
theorem fold_strs (S : List (List UInt8)) : ∀ L, (strs S).foldl addKey (strs L) = strs (S.foldl addK L) := by
  induction S with
  | nil => intro L; rfl
  | cons x r ih =>
    intro L
    show (strs r).foldl addKey (addKey (strs L) (.string x)) = strs (r.foldl addK (addK L x))
    rw [← ih]
    congr 1
    unfold addKey addK
    have : (strs L).any (fun y => y.sameKey (.string x)) = L.contains x := by
      rw [Bool.eq_iff_iff]
      simp only [List.any_eq_true, List.contains_iff_mem]
      constructor
      · rintro ⟨y, hy, hs⟩
        obtain ⟨l, hl, rfl⟩ := List.mem_map.1 hy
        rw [sameKey_str] at hs
        rw [← (beq_iff_eq.1 hs)]; exact hl
      · intro h
        exact ⟨_, List.mem_map.2 ⟨x, h, rfl⟩, by rw [sameKey_str]; simp⟩
    rw [this]
    split
    · rfl
    · simp [strs]
theorem setD_size (S : List (List UInt8)) : size (setD S) = (uniq S).length := by
  unfold setD
  rw [size_setOf _ _ (keys_str S)]
  have := fold_strs S []
  rw [show strs [] = [] from rfl] at this
  rw [this]; simp [strs, uniq]
section
variable {w w' : World} {b n : Nat} {S : List (List UInt8)}
theorem SetIs.kept {row : Option Nat} (h : SetIs w b n S) (hg : w.grownBy w' row) (hne : some b ≠ row) : SetIs w' b n S := World.ownsMap.kept h hg hne
theorem SetIs.made (w : World) : SetIs (w.alloc (.map #[] 0)) w.heap.size 0 [] := World.ownsMap_made w _ _ _
theorem key_at {l : List UInt8} (hl : l.length ≤ maxLen) : keyOf Tryz.prog 9 (.string ⟨l.toArray⟩) = some (.string l) := by
  have := WideMaps.keyOf_string_mk (P := Tryz.prog) Tryz.underlying9 (s := ⟨l.toArray⟩) (by simpa [ByteArray.size] using hl)
  simpa using this
theorem SetIs.look (h : SetIs w b n S) {l : List UInt8} (hl : l.length ≤ maxLen) : (Instr.lookup 135 (.map (some b)) (.string ⟨l.toArray⟩) false).run Tryz.prog w = .ok (.bool (hasS S l)) w := by
  obtain ⟨v, ps, hrun, hv⟩ := World.ownsMap.lookup h keyS Tryz.underlying135 (zeroB w) (plainElem_bool Tryz.underlying4 false) (key_at hl)
  rw [setD_at] at hv
  have : v = .bool (hasS S l) := by
    unfold plainElem at hv
    rw [Tryz.underlying4] at hv
    cases v <;> simp at hv
    rw [hv.1]
  rw [hrun, this]
theorem SetIs.put (h : SetIs w b n S) (hn : n < maxLen) {l : List UInt8} (hl : l.length ≤ maxLen) :
    ∃ w', (Instr.mapUpdate 135 (.map (some b)) (.string ⟨l.toArray⟩) (.bool true)).run Tryz.prog w = .ok () w' ∧ SetIs w' b (n + 1) (S ++ [l]) ∧ w.grownBy w' (some b) := by
  have := World.ownsMap.update (d := .lit (.bool true)) (ps := []) h keyS Tryz.underlying135 hn (key_at hl) (plainElem_bool Tryz.underlying4 true)
  obtain ⟨w', h1, h2, h3⟩ := this
  exact ⟨w', h1, by unfold SetIs; rw [setD_snoc]; exact h2, h3⟩
theorem SetIs.len (h : SetIs w b n S) (ty : TypeId) : (Builtin.len_ #[135] ty #[.map (some b)]).run Tryz.prog w = .ok (.int .i64 ((uniq S).length : Nat)) w := by
  have := World.ownsMap.len h Tryz.underlying135 ty
  rw [setD_size] at this
  exact this
end
theorem made_hint (n : Int) (w : World) : (Instr.makeMap 135 (some (.int .i64 n))).run Tryz.prog w = .ok (.map (some w.heap.size)) (w.alloc (.map #[] 0)) := by
  simp [Instr.makeMap, run_underlying Tryz.underlying135]; rfl
theorem fold_len (S : List (List UInt8)) : ∀ acc : List (List UInt8), (S.foldl addK acc).length ≤ acc.length + S.length ∧ ((S.foldl addK acc).length = acc.length + S.length ↔ S.Nodup ∧ ∀ x ∈ S, x ∉ acc) := by
  induction S with
  | nil => intro acc; simp
  | cons x r ih =>
    intro acc
    have hi := ih (addK acc x)
    rw [List.foldl_cons]
    by_cases hx : x ∈ acc
    · have e : addK acc x = acc := by unfold addK; rw [if_pos (by simpa using hx)]
      rw [e] at hi ⊢
      refine ⟨by simp only [List.length_cons]; omega, ⟨fun h => ?_, fun h => absurd hx (h.2 x (by simp))⟩⟩
      simp only [List.length_cons] at h; omega
    · have e : addK acc x = acc ++ [x] := by unfold addK; rw [if_neg (by simpa using hx)]
      rw [e] at hi ⊢
      simp only [List.length_append, List.length_cons, List.length_nil] at hi ⊢
      refine ⟨by omega, ?_⟩
      rw [show acc.length + (r.length + 1) = acc.length + (0 + 1) + r.length by omega, hi.2]
      simp only [List.nodup_cons, List.mem_append, List.mem_cons, List.not_mem_nil, or_false]
      constructor
      · rintro ⟨h1, h2⟩
        exact ⟨⟨fun hm => (h2 x hm) (Or.inr rfl), h1⟩, fun y hy => by rcases hy with rfl | hy; exact hx; exact fun hm => h2 y hy (Or.inl hm)⟩
      · rintro ⟨⟨h1, h2⟩, h3⟩
        refine ⟨h2, fun y hy hm => ?_⟩
        rcases hm with hm | rfl
        · exact h3 y (Or.inr hy) hm
        · exact h1 hy
theorem uniq_nodup (S : List (List UInt8)) : (uniq S).length = S.length ↔ S.Nodup := by
  have := (fold_len S []).2
  simp at this
  exact this
theorem wpList_put {ops : Array Oper} {rest : List Oper} {o : Oper} {a : Act} {Q : Exit → Act → World → Prop} {w : World} (hg : o.guard = none) (m x v : Operand)
    (hop : o.op = Op.insert 135 m x v ∨ o.op = Op.mapUpdate 135 m x v) (b n : Nat) (S : List (List UInt8)) (hs : SetIs w b n S) (hn : n < maxLen) (l : List UInt8) (hl : l.length ≤ maxLen)
    (hm : a.eval m = .map (some b)) (hx : a.eval x = .string ⟨l.toArray⟩) (hv : a.eval v = .bool true)
    (hK : ∀ w', SetIs w' b (n + 1) (S ++ [l]) → w.grownBy w' (some b) → wpList Tryz.prog ops Q rest (a.put o.dst undef) w') :
    wpList Tryz.prog ops Q (o :: rest) a w := by
  refine wpList_plain hg fun K' hK' => ?_
  obtain ⟨w', hrun, r1, r2⟩ := hs.put hn hl
  unfold Oper.wp
  rcases hop with hop | hop
  all_goals
    simp [execOp, hop, hm, hx, hv, hrun, Result.andThen]
    exact hK' _ _ (hK w' r1 r2)
theorem wpList_size {ops : Array Oper} {rest : List Oper} {o : Oper} {a : Act} {Q : Exit → Act → World → Prop} {w : World} (hg : o.guard = none) (m : Operand)
    (hop : o.op = Op.call { callee := Callee.builtin Builtin.len, args := #[m], argTypes := #[135] }) (b n : Nat) (S : List (List UInt8)) (hs : SetIs w b n S) (hm : a.eval m = .map (some b))
    (hK : wpList Tryz.prog ops Q rest (a.put o.dst (.int .i64 ((uniq S).length : Nat))) w) :
    wpList Tryz.prog ops Q (o :: rest) a w := by
  refine wpList_plain hg fun K' hK' => ?_
  unfold Oper.wp
  simp [execOp, hop, resolve, invoke, builtin, hm, hs.len o.type, Result.andThen]
  exact hK' _ _ hK
theorem wpList_has {ops : Array Oper} {rest : List Oper} {o : Oper} {a : Act} {Q : Exit → Act → World → Prop} {w : World} (hg : o.guard = none) (m x : Operand)
    (hop : o.op = Op.lookup 135 m x false) (b n : Nat) (S : List (List UInt8)) (hs : SetIs w b n S) (l : List UInt8) (hl : l.length ≤ maxLen) (hm : a.eval m = .map (some b)) (hx : a.eval x = .string ⟨l.toArray⟩)
    (hK : wpList Tryz.prog ops Q rest (a.put o.dst (.bool (hasS S l))) w) :
    wpList Tryz.prog ops Q (o :: rest) a w := by
  refine wpList_plain hg fun K' hK' => ?_
  unfold Oper.wp
  simp [execOp, hop, hm, hx, hs.look hl, Result.andThen]
  exact hK' _ _ hK
end Go.Proofs.YtnmomlaimffonaaGreat.Mp
set_option maxRecDepth 100000
namespace Go.Proofs.YtnmomlaimffonaaGreat.C2
open Go.RowKit Go.Lib Num Com Mem Mp Ch
def resW : List (List UInt8) := [[118, 97, 114, 115], [105, 102], [101, 108, 115, 101], [119, 104, 105, 108, 101], [101, 109, 105, 116], [97], [98], [100, 105, 102, 102], [112, 114, 101], [112, 111, 115, 116], [111, 117, 116, 112, 117, 116], [99, 111, 115, 116]]
theorem words_any (w : World) : Calls Tryz.prog 120 #[] w fun e w' => e = .returned (.map (some w.heap.size)) ∧ SetIs w' w.heap.size 12 resW ∧ Below w.heap.size w w' := by
  have hmm := @run_makeMap Tryz.prog
  have H : SetIs (w.alloc (.map #[] 0)) w.heap.size 0 [] ∧ Below w.heap.size w (w.alloc (.map #[] 0)) := ⟨SetIs.made w, (Below.refl _ _).alloc (Nat.le_refl _) _⟩
  have H := hid H
  go_enter Tryz.func120, Tryz.ntmps120
  go_wp2_with (refine wpList_put rfl _ _ _ (Or.inl rfl) _ _ _ H.out.1 (by unfold maxLen; omega) _ (by unfold maxLen; simp) rfl rfl rfl ?_; intro w1 hs1 hg1; replace H := hid (And.intro hs1 (bgb H.out.2 hg1 H.out.2.size (Nat.le_refl _))); clear hs1 hg1)
  go_ret
  exact ⟨rfl, H.out.1, H.out.2⟩
theorem reserved_any (l : List UInt8) (w : World) (hl : l.length ≤ maxLen) : Calls Tryz.prog 101 #[.string ⟨l.toArray⟩] w fun e w' => e = .returned (.bool (hasS resW l)) ∧ Below w.heap.size w w' := by
  have hl := hid hl
  go_enter Tryz.func101, Tryz.ntmps101
  go_wp2_with fail
  refine (words_any _).mono ?_
  rintro e w1 ⟨rfl, hs, hb⟩
  have hb := hid hb
  go_wp2_with (refine wpList_has rfl _ _ rfl _ _ _ hs l hl.out rfl rfl ?_)
  go_ret
  exact ⟨rfl, hb.out⟩
theorem has_any (A : Option Addr) (c : Nat) (L : List (List UInt8)) (l : List UInt8) (w : World) (B : Nat) (h : Rd w B A (L.map sv)) (hn : L.length ≤ 9223372036854775807) :
    Calls Tryz.prog 109 #[.slice A L.length c, .string ⟨l.toArray⟩] w fun e w' => e = .returned (.bool (hasS L l)) ∧ w = w' := by
  go_enter Tryz.func109, Tryz.ntmps109
  go_wp2_with fail
  go_loop [5] (fun i => ∃ k : Nat, k ≤ L.length ∧ i = .int .i64 k ∧ l ∉ L.take k) (fun i => L.length - (Go.RowKit.intOf i).toNat)
  case atStart => exact ⟨0, Nat.zero_le _, rfl, by simp⟩
  case round =>
    obtain ⟨k, hk, rfl, hs⟩ := hrel
    by_cases hlt : k < L.length
    · obtain ⟨ad, rfl, _, hc⟩ := Lh.rd_str h hlt
      by_cases he : L[k] = l
      · have hf := hid (show hasS L l = true from hasS_iff.2 (he ▸ List.getElem_mem hlt))
        have t1 : (L[k] == l) = true := by rw [he]; simp
        clear hs he h
        go_wp2_with fail
        go_ret
        exact ⟨by rw [hf.out]; rfl, rfl⟩
      · have t1 : (L[k] == l) = false := by simpa using he
        have hnx := hid (show l ∉ L.take (k + 1) by rw [List.take_succ_eq_append_getElem hlt]; simp only [List.mem_append, List.mem_singleton, not_or]; exact ⟨hs, fun e => he e.symm⟩)
        clear hs he h
        go_wp2_with fail
        go_round
        case rel => exact ⟨k + 1, hlt, by go_num, hnx.out⟩
        case measure => simp [Go.RowKit.intOf]; omega
    · obtain rfl : k = L.length := by omega
      have hf := hid (show hasS L l = false from hasS_false.2 (by rw [List.take_of_length_le (Nat.le_refl _)] at hs; exact hs))
      clear hs h
      go_wp2_with fail
      go_ret
      exact ⟨by rw [hf.out]; rfl, rfl⟩
theorem swords_any (w : World) : Calls Tryz.prog 127 #[] w fun e w' => e = .returned (.slice (some ⟨w.heap.size, 0, none⟩) 12 12) ∧ Blk w' w.heap.size 9 (resW.map sv) ∧ Below w.heap.size w w' := by
  go_enter Tryz.func127, Tryz.ntmps127
  go_wp2_with fail
  go_ret
  exact ⟨rfl, Blk.new _ _ _, (Below.refl _ _).alloc (Nat.le_refl _) _⟩
theorem sreserved_any (l : List UInt8) (w : World) : Calls Tryz.prog 108 #[.string ⟨l.toArray⟩] w fun e w' => e = .returned (.bool (hasS resW l)) ∧ Below w.heap.size w w' := by
  go_enter Tryz.func108, Tryz.ntmps108
  go_wp2_with fail
  refine (swords_any _).mono ?_
  rintro e w1 ⟨rfl, hs, hb⟩
  have hb := hid hb
  have hs := hid hs
  go_wp2_with fail
  refine (has_any _ 12 resW l _ _ hs.out.rd (by decide)).mono ?_
  rintro e w2 ⟨rfl, rfl⟩
  go_wp2_with fail
  go_ret
  exact ⟨rfl, hb.out⟩
def shape : List UInt8 → Bool
  | [] => false
  | c :: r => isLow c && r.all fun x => isLow x || isDig x
def validB (l : List UInt8) : Bool := decide (l.length ≤ 8) && (shape l && !hasS resW l)
theorem shape_bad {l : List UInt8} {k : Nat} (hk : k < l.length) (h : isLow l[k] = false) (h2 : k = 0 ∨ isDig l[k] = false) : shape l = false := by
  cases l with
  | nil => simp at hk
  | cons c r =>
    cases k with
    | zero => simp at h; simp [shape, h]
    | succ j =>
      have hd : isDig (c :: r)[j + 1] = false := by rcases h2 with h2 | h2; omega; exact h2
      simp only [shape]
      rw [Bool.and_eq_false_iff]
      refine Or.inr (List.all_eq_false.2 ⟨r[j]'(by simpa using hk), List.getElem_mem _, ?_⟩)
      simp only [List.getElem_cons_succ] at h hd
      simp [h, hd]
def okTo (l : List UInt8) (k : Nat) : Prop := ∀ j (h : j < l.length), j < k → isLow l[j] = true ∨ (j ≠ 0 ∧ isDig l[j] = true)
theorem okTo_snoc {l : List UInt8} {k : Nat} (h : okTo l k) (hk : k < l.length) (hc : isLow l[k] = true ∨ (k ≠ 0 ∧ isDig l[k] = true)) : okTo l (k + 1) := by
  intro j hj hjk
  rcases Nat.lt_or_ge j k with hlt | hge
  · exact h j hj hlt
  · obtain rfl : j = k := by omega
    exact hc
theorem shape_good {l : List UInt8} (h0 : 0 < l.length) (h : okTo l l.length) : shape l = true := by
  cases l with
  | nil => simp at h0
  | cons c r =>
    simp only [shape, Bool.and_eq_true, List.all_eq_true]
    refine ⟨?_, ?_⟩
    · rcases h 0 h0 h0 with h1 | h1
      · exact h1
      · exact absurd rfl h1.1
    · intro x hx
      obtain ⟨j, hj, rfl⟩ := List.mem_iff_getElem.1 hx
      rcases h (j + 1) (by simpa using hj) (by simpa using hj) with h1 | h1
      · simp at h1; simp [h1]
      · have := h1.2; simp at this; simp [this]
theorem syntax_any (l : List UInt8) (w : World) (hl : l.length ≤ 9223372036854775807) : Calls Tryz.prog 100 #[.string ⟨l.toArray⟩] w fun e w' => e = .returned (.bool (shape l)) ∧ w = w' := by
  by_cases h0 : l = []
  · subst h0
    go_enter Tryz.func100, Tryz.ntmps100
    go_wp2_with fail
    go_ret
    exact ⟨rfl, rfl⟩
  have he : l.isEmpty = false := by cases l <;> simp_all
  have hpos : 0 < l.length := List.length_pos_iff.2 h0
  have hc0 := hid (fun w => lower_any (({ data := l.toArray } : ByteArray)[0]'hpos) w)
  clear h0
  by_cases h1 : isLow (({ data := l.toArray } : ByteArray)[0]'hpos) = true
  · have h1' := hid (show isLow (l[0]'hpos) = true from h1)
    go_enter Tryz.func100, Tryz.ntmps100
    go_wp2_with fail
    refine (hc0.out _).mono ?_
    rintro e w' ⟨rfl, rfl⟩
    go_wp2_with fail
    go_loop [3] (fun i => ∃ k : Nat, k ≤ l.length ∧ 1 ≤ k ∧ i = .int .i64 k ∧ okTo l k) (fun i => l.length - (Go.RowKit.intOf i).toNat)
    case atStart => exact ⟨1, hpos, Nat.le_refl _, rfl, fun j hj hj1 => by obtain rfl : j = 0 := (by omega); exact Or.inl h1'.out⟩
    case round =>
      obtain ⟨k, hk, hk1, rfl, hok⟩ := hrel
      have hok := hid hok
      clear h1
      by_cases hkl : k < l.length
      · have hck := hid (fun w => lower_any (({ data := l.toArray } : ByteArray)[k]'hkl) w)
        have hdk := hid (fun w => digit_any (({ data := l.toArray } : ByteArray)[k]'hkl) w)
        cases a1 : isLow (({ data := l.toArray } : ByteArray)[k]'hkl) with
        | true =>
          have hnx := hid (okTo_snoc hok.out hkl (Or.inl a1))
          go_wp2_with fail
          refine (hck.out _).mono ?_
          rintro e w' ⟨rfl, rfl⟩
          go_wp2_with fail
          go_round
          case rel => exact ⟨k + 1, hkl, by omega, by go_num, hnx.out⟩
          case measure => simp [Go.RowKit.intOf]; omega
        | false =>
          cases a2 : isDig (({ data := l.toArray } : ByteArray)[k]'hkl) with
          | true =>
            have hnx := hid (okTo_snoc hok.out hkl (Or.inr ⟨by omega, a2⟩))
            go_wp2_with fail
            refine (hck.out _).mono ?_
            rintro e w' ⟨rfl, rfl⟩
            go_wp2_with fail
            refine (hdk.out _).mono ?_
            rintro e w' ⟨rfl, rfl⟩
            go_wp2_with fail
            go_round
            case rel => exact ⟨k + 1, hkl, by omega, by go_num, hnx.out⟩
            case measure => simp [Go.RowKit.intOf]; omega
          | false =>
            have hf := hid (shape_bad (l := l) hkl a1 (Or.inr a2))
            go_wp2_with fail
            refine (hck.out _).mono ?_
            rintro e w' ⟨rfl, rfl⟩
            go_wp2_with fail
            refine (hdk.out _).mono ?_
            rintro e w' ⟨rfl, rfl⟩
            go_wp2_with fail
            go_ret
            exact ⟨by rw [hf.out]; rfl, rfl⟩
      · obtain rfl : k = l.length := by omega
        have hf := hid (shape_good hpos hok.out)
        go_wp2_with fail
        go_ret
        exact ⟨by rw [hf.out]; rfl, rfl⟩
  · have h1 : isLow (({ data := l.toArray } : ByteArray)[0]'hpos) = false := by simpa using h1
    have hf := hid (shape_bad hpos (show isLow (l[0]'hpos) = false from h1) (Or.inl rfl))
    go_enter Tryz.func100, Tryz.ntmps100
    go_wp2_with fail
    refine (hc0.out _).mono ?_
    rintro e w' ⟨rfl, rfl⟩
    go_wp2_with fail
    go_ret
    exact ⟨by rw [hf.out]; rfl, rfl⟩
theorem valid_any (l : List UInt8) (w : World) (hl : l.length ≤ 9223372036854775807) : Calls Tryz.prog 80 #[.string ⟨l.toArray⟩] w fun e w' => e = .returned (.bool (validB l)) ∧ Below w.heap.size w w' := by
  by_cases h1 : l.length ≤ 8
  · have t1 : decide ((l.length : Int) ≤ 8) = true := decide_eq_true (by omega)
    have hs := hid (fun w => syntax_any l w hl)
    cases a1 : shape l with
    | true =>
      have hr := hid (fun w => reserved_any l w (by unfold maxLen; omega))
      have hf := hid (show validB l = !hasS resW l by unfold validB; rw [a1, decide_eq_true h1]; rfl)
      go_enter Tryz.func80, Tryz.ntmps80
      go_wp2_with fail
      refine (hs.out _).mono ?_
      rintro e w' ⟨rfl, rfl⟩
      go_wp2_with fail
      refine (hr.out _).mono ?_
      rintro e w1 ⟨rfl, hb⟩
      go_wp2_with fail
      go_ret
      exact ⟨by rw [hf.out]; rfl, hb⟩
    | false =>
      have hf := hid (show validB l = false by unfold validB; rw [a1, decide_eq_true h1]; rfl)
      go_enter Tryz.func80, Tryz.ntmps80
      go_wp2_with fail
      refine (hs.out _).mono ?_
      rintro e w' ⟨rfl, rfl⟩
      go_wp2_with fail
      go_ret
      exact ⟨by rw [hf.out]; rfl, Below.refl _ _⟩
  · have t1 : decide ((l.length : Int) ≤ 8) = false := decide_eq_false (by omega)
    have hf := hid (show validB l = false by unfold validB; rw [decide_eq_false h1]; rfl)
    go_enter Tryz.func80, Tryz.ntmps80
    go_wp2_with fail
    go_ret
    exact ⟨by rw [hf.out]; rfl, Below.refl _ _⟩
open Ow
theorem cls (c : UInt8) :
    (decide ((97 : Int) ≤ (c.toNat : Int)) = false ∧ decide ((48 : Int) ≤ (c.toNat : Int)) = false ∧ isLow c = false ∧ isDig c = false) ∨
    (decide ((97 : Int) ≤ (c.toNat : Int)) = false ∧ decide ((48 : Int) ≤ (c.toNat : Int)) = true ∧ decide ((c.toNat : Int) ≤ 57) = true ∧ isLow c = false ∧ isDig c = true) ∨
    (decide ((97 : Int) ≤ (c.toNat : Int)) = false ∧ decide ((48 : Int) ≤ (c.toNat : Int)) = true ∧ decide ((c.toNat : Int) ≤ 57) = false ∧ isLow c = false ∧ isDig c = false) ∨
    (decide ((97 : Int) ≤ (c.toNat : Int)) = true ∧ decide ((c.toNat : Int) ≤ 122) = true ∧ decide ((48 : Int) ≤ (c.toNat : Int)) = true ∧ decide ((c.toNat : Int) ≤ 57) = false ∧ isLow c = true) ∨
    (decide ((97 : Int) ≤ (c.toNat : Int)) = true ∧ decide ((c.toNat : Int) ≤ 122) = false ∧ decide ((48 : Int) ≤ (c.toNat : Int)) = true ∧ decide ((c.toNat : Int) ≤ 57) = false ∧ isLow c = false ∧ isDig c = false) := by
  simp only [isLow, isDig, decide_eq_false_iff_not, decide_eq_true_eq, Bool.and_eq_false_iff, Bool.and_eq_true]
  omega
theorem sshape_any (l : List UInt8) (w : World) (hl : l.length ≤ 9223372036854775807) : Calls Tryz.prog 107 #[.string ⟨l.toArray⟩] w fun e w' => e = .returned (.bool (shape l)) ∧ w = w' := by
  go_enter Tryz.func107, Tryz.ntmps107
  go_wp2_with fail
  go_loop [3] (fun i => ∃ k : Nat, k ≤ l.length ∧ i = .int .i64 k ∧ okTo l k) (fun i => l.length - (Go.RowKit.intOf i).toNat)
  case atStart => exact ⟨0, Nat.zero_le _, rfl, fun j _ hj => by omega⟩
  case round =>
    obtain ⟨k, hk, rfl, hok⟩ := hrel
    have hok := hid hok
    by_cases hkl : k < l.length
    · have hlow := hid (fun h => okTo_snoc hok.out hkl (Or.inl h))
      have hdig := hid (fun h1 h2 => okTo_snoc hok.out hkl (Or.inr ⟨h1, h2⟩))
      have hbad := hid (fun h1 h2 => shape_bad (l := l) hkl h1 h2)
      have hc := cls (({ data := l.toArray } : ByteArray)[k]'hkl)
      rcases hc with ⟨t1, t2, a1, a2⟩ | ⟨t1, t2, t3, a1, a2⟩ | ⟨t1, t2, t3, a1, a2⟩ | ⟨t1, t2, t3, t4, a1⟩ | ⟨t1, t2, t3, t4, a1, a2⟩
      · have hf := hid (hbad.out a1 (Or.inr a2))
        clear a1 a2
        go_wp2_with fail
        all_goals
          go_ret
          exact ⟨by rw [hf.out]; rfl, rfl⟩
      · by_cases h0 : k = 0
        · subst h0
          have hf := hid (hbad.out a1 (Or.inl rfl))
          clear a1 a2
          go_wp2_with fail
          go_ret
          exact ⟨by rw [hf.out]; rfl, rfl⟩
        · have hnx := hid (hdig.out h0 a2)
          have hk0 : ((k : Int) == 0) = false := by rw [beq_eq_false_iff_ne]; omega
          clear a1 a2
          go_wp2_with fail
          go_round
          case rel => exact ⟨k + 1, hkl, by go_num, hnx.out⟩
          case measure => simp [Go.RowKit.intOf]; omega
      · have hf := hid (hbad.out a1 (Or.inr a2))
        clear a1 a2
        go_wp2_with fail
        all_goals
          go_ret
          exact ⟨by rw [hf.out]; rfl, rfl⟩
      · have hnx := hid (hlow.out a1)
        clear a1
        go_wp2_with fail
        go_round
        case rel => exact ⟨k + 1, hkl, by go_num, hnx.out⟩
        case measure => simp [Go.RowKit.intOf]; omega
      · have hf := hid (hbad.out a1 (Or.inr a2))
        clear a1 a2
        go_wp2_with fail
        all_goals
          go_ret
          exact ⟨by rw [hf.out]; rfl, rfl⟩
    · obtain rfl : k = l.length := by omega
      by_cases h0 : l = []
      · subst h0
        go_wp2_with fail
        go_ret
        exact ⟨rfl, rfl⟩
      · have hpos : 0 < l.length := List.length_pos_iff.2 h0
        have t1 : decide (0 < (l.length : Int)) = true := decide_eq_true (by omega)
        have hf := hid (shape_good hpos hok.out)
        clear h0
        go_wp2_with fail
        go_ret
        exact ⟨by rw [hf.out]; rfl, rfl⟩
theorem svalid_any (l : List UInt8) (w : World) (hl : l.length ≤ 9223372036854775807) : Calls Tryz.prog 87 #[.string ⟨l.toArray⟩] w fun e w' => e = .returned (.bool (validB l)) ∧ Below w.heap.size w w' := by
  have hs := hid (fun w => sshape_any l w hl)
  cases a1 : shape l with
  | false =>
    have hf := hid (show validB l = false by unfold validB; rw [a1]; simp)
    go_enter Tryz.func87, Tryz.ntmps87
    go_wp2_with fail
    refine (hs.out _).mono ?_
    rintro e w' ⟨rfl, rfl⟩
    go_wp2_with fail
    go_ret
    exact ⟨by rw [hf.out]; rfl, Below.refl _ _⟩
  | true =>
    by_cases h1 : l.length ≤ 8
    · have t1 : decide ((l.length : Int) ≤ 8) = true := decide_eq_true (by omega)
      have hr := hid (fun w => sreserved_any l w)
      have hf := hid (show validB l = !hasS resW l by unfold validB; rw [a1, decide_eq_true h1]; rfl)
      go_enter Tryz.func87, Tryz.ntmps87
      go_wp2_with fail
      refine (hs.out _).mono ?_
      rintro e w' ⟨rfl, rfl⟩
      go_wp2_with fail
      refine (hr.out _).mono ?_
      rintro e w1 ⟨rfl, hb⟩
      go_wp2_with fail
      go_ret
      exact ⟨by rw [hf.out]; rfl, hb⟩
    · have t1 : decide ((l.length : Int) ≤ 8) = false := decide_eq_false (by omega)
      have hf := hid (show validB l = false by unfold validB; rw [decide_eq_false h1]; rfl)
      go_enter Tryz.func87, Tryz.ntmps87
      go_wp2_with fail
      refine (hs.out _).mono ?_
      rintro e w' ⟨rfl, rfl⟩
      go_wp2_with fail
      go_ret
      exact ⟨by rw [hf.out]; rfl, Below.refl _ _⟩
def ixOf : List (List UInt8) → List UInt8 → Int
  | [], _ => -1
  | x :: r, l => if x = l then 0 else if ixOf r l < 0 then -1 else ixOf r l + 1
theorem ixOf_none {L : List (List UInt8)} {l : List UInt8} (h : l ∉ L) : ixOf L l = -1 := by
  induction L with
  | nil => rfl
  | cons x r ih =>
    simp only [List.mem_cons, not_or] at h
    simp only [ixOf]
    rw [if_neg (fun e => h.1 e.symm), ih h.2]; rfl
theorem ixOf_at {L : List (List UInt8)} {l : List UInt8} : ∀ {k : Nat} (hk : k < L.length), L[k] = l → l ∉ L.take k → ixOf L l = k := by
  induction L with
  | nil => intro k hk; simp at hk
  | cons x r ih =>
    intro k hk h1 h2
    cases k with
    | zero => simp at h1; simp [ixOf, h1]
    | succ j =>
      simp only [List.take_succ_cons, List.mem_cons, not_or] at h2
      have := ih (k := j) (by simpa using hk) (by simpa using h1) h2.2
      simp only [ixOf]
      rw [if_neg (fun e => h2.1 e.symm), this, if_neg (by omega)]
      omega
theorem ixOf_bd (L : List (List UInt8)) (l : List UInt8) : -1 ≤ ixOf L l ∧ ixOf L l < L.length := by
  induction L with
  | nil => simp [ixOf]
  | cons x r ih =>
    simp only [ixOf, List.length_cons]
    split
    · omega
    · split <;> omega
theorem sindex_any (A : Option Addr) (c : Nat) (L : List (List UInt8)) (l : List UInt8) (w : World) (B : Nat) (h : Rd w B A (L.map sv)) (hn : L.length ≤ 9223372036854775807) :
    Calls Tryz.prog 92 #[.slice A L.length c, .string ⟨l.toArray⟩] w fun e w' => e = .returned (.int .i64 (ixOf L l)) ∧ w = w' := by
  go_enter Tryz.func92, Tryz.ntmps92
  go_wp2_with fail
  go_loop [5] (fun i => ∃ k : Nat, k ≤ L.length ∧ i = .int .i64 k ∧ l ∉ L.take k) (fun i => L.length - (Go.RowKit.intOf i).toNat)
  case atStart => exact ⟨0, Nat.zero_le _, rfl, by simp⟩
  case round =>
    obtain ⟨k, hk, rfl, hs⟩ := hrel
    by_cases hlt : k < L.length
    · obtain ⟨ad, rfl, _, hc⟩ := Lh.rd_str h hlt
      by_cases he : L[k] = l
      · have hf := hid (ixOf_at hlt he hs)
        have t1 : (L[k] == l) = true := by rw [he]; simp
        clear hs he h
        go_wp2_with fail
        go_ret
        exact ⟨by rw [hf.out]; rfl, rfl⟩
      · have t1 : (L[k] == l) = false := by simpa using he
        have hnx := hid (show l ∉ L.take (k + 1) by rw [List.take_succ_eq_append_getElem hlt]; simp only [List.mem_append, List.mem_singleton, not_or]; exact ⟨hs, fun e => he e.symm⟩)
        clear hs he h
        go_wp2_with fail
        go_round
        case rel => exact ⟨k + 1, hlt, by go_num, hnx.out⟩
        case measure => simp [Go.RowKit.intOf]; omega
    · obtain rfl : k = L.length := by omega
      have hf := hid (show ixOf L l = -1 from ixOf_none (by rw [List.take_of_length_le (Nat.le_refl _)] at hs; exact hs))
      clear hs h
      go_wp2_with fail
      go_ret
      exact ⟨by rw [hf.out]; rfl, rfl⟩
def distB (L : List (List UInt8)) : Bool := decide L.Nodup
theorem setOf_any (A : Option Addr) (c : Nat) (L : List (List UInt8)) (w : World) (h : Rd w w.heap.size A (L.map sv)) (hm : ∀ x ∈ L, x.length ≤ 9223372036854775807) (hn : L.length ≤ 9223372036854775807) :
    Calls Tryz.prog 99 #[.slice A L.length c] w fun e w' => e = .returned (.map (some w.heap.size)) ∧ SetIs w' w.heap.size L.length L ∧ Below w.heap.size w w' := by
  have hmm := fun w => made_hint (L.length : Int) w
  go_enter Tryz.func99, Tryz.ntmps99
  go_wp2_with fail
  clear hmm
  go_loopw [11] (fun i wr => ∃ k : Nat, k ≤ L.length ∧ i = .int .i64 k ∧ SetIs wr w.heap.size k (L.take k) ∧ Below w.heap.size w wr) (fun i _ => L.length - (Go.RowKit.intOf i).toNat)
  case atStart => exact ⟨0, Nat.zero_le _, rfl, SetIs.made w, (Below.refl _ _).alloc (Nat.le_refl _) _⟩
  case round =>
    obtain ⟨k, hk, rfl, hs, hb⟩ := hrel
    by_cases hlt : k < L.length
    · obtain ⟨ad, rfl, _, hc⟩ := Lh.rd_str (h.below hb) hlt
      have hml := hm _ (List.getElem_mem hlt)
      have hst := hid (List.take_succ_eq_append_getElem hlt)
      clear h
      go_wp2_with (refine wpList_put rfl _ _ _ (Or.inr rfl) w.heap.size k (L.take k) hs (by unfold maxLen; omega) L[k] (by unfold maxLen; omega) rfl rfl rfl ?_; intro w1 hs1 hg1)
      refine ⟨⟨k + 1, hlt, by go_num, by rw [hst.out]; exact hs1, hb.grown hg1 hb.size (fun j hj => by cases hj; exact Nat.le_refl _)⟩, by simp [Go.RowKit.intOf]; omega⟩
    · obtain rfl : k = L.length := by omega
      rw [List.take_of_length_le (Nat.le_refl _)] at hs
      go_wp2_with fail
      go_ret
      exact ⟨rfl, hs, hb⟩
theorem distinct_any (A : Option Addr) (c : Nat) (L : List (List UInt8)) (w : World) (h : Rd w w.heap.size A (L.map sv)) (hm : ∀ x ∈ L, x.length ≤ 9223372036854775807) (hn : L.length ≤ 9223372036854775807) :
    Calls Tryz.prog 79 #[.slice A L.length c] w fun e w' => e = .returned (.bool (distB L)) ∧ Below w.heap.size w w' := by
  have hset := hid (setOf_any A c L w h hm hn)
  have hu := uniq_nodup L
  clear h hm
  by_cases hd : L.Nodup
  · have t1 : (((uniq L).length : Int) == (L.length : Int)) = true := by rw [hu.2 hd]; exact beq_self_eq_true _
    have hf := hid (show distB L = true from decide_eq_true hd)
    clear hu hd
    go_enter Tryz.func79, Tryz.ntmps79
    go_wp2_with fail
    refine hset.out.mono ?_
    rintro e w1 ⟨rfl, hs, hb⟩
    have hb := hid hb
    go_wp2_with (refine wpList_size rfl _ rfl _ _ _ hs rfl ?_)
    go_ret
    exact ⟨by rw [hf.out]; rfl, hb.out⟩
  · have t1 : (((uniq L).length : Int) == (L.length : Int)) = false := by
      rw [beq_eq_false_iff_ne]; intro e; exact hd (hu.1 (by omega))
    have hf := hid (show distB L = false from decide_eq_false hd)
    clear hu hd
    go_enter Tryz.func79, Tryz.ntmps79
    go_wp2_with fail
    refine hset.out.mono ?_
    rintro e w1 ⟨rfl, hs, hb⟩
    have hb := hid hb
    go_wp2_with (refine wpList_size rfl _ rfl _ _ _ hs rfl ?_)
    go_ret
    exact ⟨by rw [hf.out]; rfl, hb.out⟩
theorem quietL {P : Program} {f : FuncId} {args : Array Value} {w : World} {n : Nat} {v : Value} (h : ∀ W : World, W.heap = w.heap → Calls P f args W fun e w' => e = .returned v ∧ W = w') :
    Calls P f args (w.drewN n) fun e w'' => e = .returned v ∧ ∃ m, w'' = w.drewN m := (h (w.drewN n) rfl).mono fun _ _ ⟨he, hm⟩ => ⟨he, n, hm.symm⟩
theorem nodup_take {L : List (List UInt8)} {k : Nat} (hk : k < L.length) (h : (L.take k).Nodup) (hn : L[k] ∉ L.take k) : (L.take (k + 1)).Nodup := by
  rw [List.take_succ_eq_append_getElem hk, List.nodup_append]
  refine ⟨h, by simp, ?_⟩
  rintro x hx y hy rfl
  rw [List.mem_singleton] at hy; subst hy; exact hn hx
theorem sdistinct_any (A : Option Addr) (c : Nat) (L : List (List UInt8)) (w : World) (h : Rd w w.heap.size A (L.map sv)) (hcap : L.length ≤ c) (hn : L.length ≤ 9223372036854775807) :
    Calls Tryz.prog 88 #[.slice A L.length c] w fun e w' => e = .returned (.bool (distB L)) ∧ Below w.heap.size w w' := by
  go_enter Tryz.func88, Tryz.ntmps88
  go_wp2_with fail
  go_loopw [3] (fun i wr => ∃ k : Nat, k ≤ L.length ∧ i = .int .i64 k ∧ (L.take k).Nodup ∧ Below w.heap.size w wr) (fun i _ => L.length - (Go.RowKit.intOf i).toNat)
  case atStart => exact ⟨0, Nat.zero_le _, rfl, by simp, Below.refl _ _⟩
  case round =>
    obtain ⟨k, hk, rfl, hd, hb⟩ := hrel
    by_cases hlt : k < L.length
    · have hr := h.below hb
      obtain ⟨ad, rfl, _, hc⟩ := Lh.rd_str hr hlt
      have hrk : Rd wr w.heap.size (some ad) ((L.take k).map sv) := fun hne => by
        obtain ⟨ad', e1, hB, hcs⟩ := hr (by intro e; rw [List.map_eq_nil_iff] at e; subst e; simp at hlt)
        refine ⟨ad', e1, hB, fun j u hu => hcs j u ?_⟩
        rw [List.map_take, List.getElem?_take] at hu
        split at hu
        · exact hu
        · cases hu
      have hcall := (fun (W : World) (hW : W.heap = wr.heap) => by
        have := has_any (some ad) c (L.take k) L[k] W w.heap.size (fun hne => by
          obtain ⟨ad', e1, hB, hcs⟩ := hrk hne
          exact ⟨ad', e1, hB, fun j u hu => by have := hcs j u hu; unfold World.cell? at this ⊢; rw [hW]; exact this⟩) (by rw [List.length_take]; omega)
        rwa [List.length_take, Nat.min_eq_left (by omega)] at this)
      have hq : k ≤ c := by omega
      cases hh : hasS (L.take k) L[k] with
      | true =>
        simp only [hh] at hcall
        have hcall := hid hcall
        have hf := hid (show distB L = false from decide_eq_false (fun hnd => by
          have hm := hasS_iff.1 hh
          rw [← List.take_append_drop (k + 1) L, List.take_succ_eq_append_getElem hlt] at hnd
          have := (List.nodup_append.1 (List.nodup_append.1 hnd).1).2.2 _ hm _ (List.mem_singleton.2 rfl)
          exact this rfl))
        have hd := hid hd
        clear h hr hrk
        go_wp2_with fail
        go_quiet ((go_at_call 109; exact quietL hcall.out))
        go_wp2_with fail
        go_ret
        exact ⟨by rw [hf.out]; rfl, bdr hb nq⟩
      | false =>
        simp only [hh] at hcall
        have hcall := hid hcall
        have hnx := hid (nodup_take hlt hd (hasS_false.1 hh))
        have hd := hid hd
        clear h hr hrk
        go_wp2_with fail
        go_quiet ((go_at_call 109; exact quietL hcall.out))
        go_wp2_with fail
        exact ⟨⟨k + 1, hlt, by go_num, hnx.out, bdr hb nq⟩, by simp [Go.RowKit.intOf]; omega⟩
    · obtain rfl : k = L.length := by omega
      have hf := hid (show distB L = true from decide_eq_true (by rw [List.take_of_length_le (Nat.le_refl _)] at hd; exact hd))
      clear hd h
      go_wp2_with fail
      go_ret
      exact ⟨by rw [hf.out]; rfl, hb⟩
def keepS (L R : List (List UInt8)) : List (List UInt8) := L.filter fun x => !hasS R x
theorem keep_snoc {L R : List (List UInt8)} {k : Nat} (hk : k < L.length) : keepS (L.take (k + 1)) R = keepS (L.take k) R ++ if hasS R L[k] then [] else [L[k]] := by
  unfold keepS
  rw [List.take_succ_eq_append_getElem hk, List.filter_append]
  cases h : hasS R L[k] <;> simp [h]
theorem keep_len (L R : List (List UInt8)) : (keepS L R).length ≤ L.length := List.length_filter_le _ _
theorem set_apart {e : TypeId} {w0 w : World} {v : Value} {xs : List Value} {b n : Nat} {S : List (List UInt8)} (h : Grow e w0 w v xs) (hs : SetIs w b n S) : v.ownBlock ≠ some b := by
  obtain ⟨es, clock, hx, _⟩ := hs
  rcases h.1.2 with ⟨rfl, _⟩ | ⟨g, c, cur, rfl, _, hblk, _⟩
  · simp [Value.ownBlock]
  · intro e1
    obtain rfl : g = b := by simpa [Value.ownBlock] using e1
    rw [hx] at hblk; cases hblk
theorem without_any (A1 A2 : Option Addr) (c1 c2 : Nat) (L R : List (List UInt8)) (w : World) (h1 : Rd w w.heap.size A1 (L.map sv)) (h2 : Rd w w.heap.size A2 (R.map sv)) (hmL : ∀ x ∈ L, x.length ≤ 9223372036854775807) (hmR : ∀ x ∈ R, x.length ≤ 9223372036854775807)
    (hn1 : L.length ≤ 1048576) (hn2 : R.length ≤ 9223372036854775807) :
    Calls Tryz.prog 123 #[.slice A1 L.length c1, .slice A2 R.length c2] w fun e w' => ∃ v, e = .returned v ∧ Grow 9 w w' v ((keepS L R).map sv) := by
  have hset := hid (setOf_any A2 c2 R w h2 hmR hn2)
  clear h2 hmR
  go_enter Tryz.func123, Tryz.ntmps123
  go_wp2_with fail
  refine hset.out.mono ?_
  rintro e w1 ⟨rfl, hs, hb⟩
  have hs := hid hs
  have hb := hid hb
  go_wp2_with fail
  go_loopw [6, 13] (fun o i wr => ∃ k : Nat, k ≤ L.length ∧ i = .int .i64 k ∧ Grow 9 w wr o ((keepS (L.take k) R).map sv) ∧ SetIs wr w.heap.size R.length R) (fun _ i _ => L.length - (Go.RowKit.intOf i).toNat)
  case atStart => exact ⟨0, Nat.zero_le _, rfl, Grow.nil_ _ _ hb.out, hs.out⟩
  case round =>
    obtain ⟨k, hk, rfl, hg, hs⟩ := hrel
    by_cases hlt : k < L.length
    · obtain ⟨ad, rfl, _, hc⟩ := Lh.rd_str (h1.below hg.2) hlt
      have hml := hmL _ (List.getElem_mem hlt)
      have hst := hid (keep_snoc (R := R) hlt)
      have hkl := keep_len (L.take k) R
      have hg := hid hg
      clear h1 hset
      cases hh : hasS R L[k] with
      | true =>
        rw [hh] at hst
        go_wp2_with (refine wpList_has rfl _ _ rfl w.heap.size R.length R hs L[k] (by unfold maxLen; omega) rfl rfl ?_)
        exact ⟨⟨k + 1, hlt, by go_num, by rw [hst.out]; simpa using hg.out, hs⟩, by simp [Go.RowKit.intOf]; omega⟩
      | false =>
        rw [hh] at hst
        have hkl' : ((keepS (L.take k) R).map sv).length < 1000000000000 := by rw [List.length_map]; rw [List.length_take] at hkl; omega
        have hob := hid (set_apart hg.out hs)
        go_wp2_with (first | (refine wpList_has rfl _ _ rfl w.heap.size R.length R hs L[k] (by unfold maxLen; omega) rfl rfl ?_) | (at_builtin; refine hg.out.append strT (sv L[k]) rfl hkl' rfl _ _ rfl rfl rfl ?_; intro v1 w1 hg1 hgb hv1))
        exact ⟨⟨k + 1, hlt, by go_num, by rw [hst.out, List.map_append]; exact hg1, hs.kept hgb (fun e => hob.out e.symm)⟩, by simp [Go.RowKit.intOf]; omega⟩
    · obtain rfl : k = L.length := by omega
      rw [List.take_of_length_le (Nat.le_refl _)] at hg
      go_wp2_with fail
      go_ret
      exact ⟨_, rfl, hg⟩
end Go.Proofs.YtnmomlaimffonaaGreat.C2
set_option maxRecDepth 100000
namespace Go.Proofs.YtnmomlaimffonaaGreat.Nm
abbrev Str := List UInt8
def Asc (l : List Str) : Prop := l.Pairwise (· < ·)
theorem lt_of_le_ne {a b : Str} (h : a ≤ b) (h2 : a ≠ b) : a < b :=
  Classical.byContradiction fun h3 => h2 (List.le_antisymm h h3)
theorem asc_ext : ∀ {l m : List Str}, Asc l → Asc m → (∀ x, x ∈ l ↔ x ∈ m) → l = m
  | [], [], _, _, _ => rfl
  | [], y :: m, _, _, h => absurd ((h y).2 (by simp)) (by simp)
  | x :: l, [], _, _, h => absurd ((h x).1 (by simp)) (by simp)
  | x :: l, y :: m, hl, hm, h => by
    obtain ⟨hx, hl'⟩ := List.pairwise_cons.1 hl
    obtain ⟨hy, hm'⟩ := List.pairwise_cons.1 hm
    have e : x = y := by
      rcases List.mem_cons.1 ((h x).1 (by simp)) with e | h1
      · exact e
      rcases List.mem_cons.1 ((h y).2 (by simp)) with e | h2
      · exact e.symm
      exact absurd (List.lt_trans (hy x h1) (hx y h2)) (List.lt_irrefl y)
    subst e
    congr 1
    refine asc_ext hl' hm' fun z => ⟨fun hz => ?_, fun hz => ?_⟩
    · rcases List.mem_cons.1 ((h z).1 (List.mem_cons_of_mem _ hz)) with e | h1
      · subst e; exact absurd (hx z hz) (List.lt_irrefl z)
      · exact h1
    · rcases List.mem_cons.1 ((h z).2 (List.mem_cons_of_mem _ hz)) with e | h1
      · subst e; exact absurd (hy z hz) (List.lt_irrefl z)
      · exact h1
def ins (x : Str) : List Str → List Str
  | [] => [x]
  | y :: r => if y < x then y :: ins x r else if y = x then y :: r else x :: y :: r
def sortU (L : List Str) : List Str := L.foldl (fun o x => ins x o) []
theorem mem_ins {x z : Str} {l : List Str} : z ∈ ins x l ↔ z = x ∨ z ∈ l := by
  induction l with
  | nil => simp [ins]
  | cons y r ih =>
    unfold ins
    split
    · simp only [List.mem_cons, ih]
      constructor
      · rintro (h | h | h)
        · exact Or.inr (Or.inl h)
        · exact Or.inl h
        · exact Or.inr (Or.inr h)
      · rintro (h | h | h)
        · exact Or.inr (Or.inl h)
        · exact Or.inl h
        · exact Or.inr (Or.inr h)
    · split
      · rename_i e; subst e; simp
      · simp
theorem asc_ins {x : Str} {l : List Str} (h : Asc l) : Asc (ins x l) := by
  induction l with
  | nil => simp [ins, Asc]
  | cons y r ih =>
    obtain ⟨hy, hr⟩ := List.pairwise_cons.1 h
    unfold ins
    split
    · rename_i hlt
      exact List.pairwise_cons.2 ⟨fun z hz => by rcases mem_ins.1 hz with rfl | hz; exact hlt; exact hy z hz, ih hr⟩
    · rename_i hge
      split
      · exact h
      · rename_i hne
        have hxy : x < y := lt_of_le_ne hge (fun e => hne e.symm)
        exact List.pairwise_cons.2 ⟨fun z hz => by rcases List.mem_cons.1 hz with rfl | hz; exact hxy; exact List.lt_trans hxy (hy z hz), h⟩
theorem ins_at {x : Str} : ∀ {l : List Str} {k : Nat} (hk : k ≤ l.length), (∀ j (h : j < k), l[j] < x) → (∀ h : k < l.length, ¬ l[k] < x ∧ l[k] ≠ x) → ins x l = l.take k ++ x :: l.drop k
  | [], k, hk, _, _ => by simp at hk; subst hk; rfl
  | y :: r, 0, _, _, h2 => by
    have := h2 (by simp)
    simp only [List.getElem_cons_zero] at this
    unfold ins
    rw [if_neg this.1, if_neg this.2]; rfl
  | y :: r, k + 1, hk, h1, h2 => by
    have h0 := h1 0 (by omega)
    simp only [List.getElem_cons_zero] at h0
    unfold ins
    rw [if_pos h0, ins_at (l := r) (k := k) (by simpa using hk) (fun j hj => by have := h1 (j + 1) (by omega); simpa using this) (fun h => by have := h2 (by simpa using h); simpa using this)]
    rfl
theorem ins_same {x : Str} : ∀ {l : List Str} {k : Nat} (hk : k < l.length), (∀ j (h : j < k), l[j] < x) → l[k] = x → ins x l = l
  | [], k, hk, _, _ => by simp at hk
  | y :: r, 0, _, _, h2 => by
    simp only [List.getElem_cons_zero] at h2
    subst h2
    unfold ins
    rw [if_neg (List.lt_irrefl y), if_pos rfl]
  | y :: r, k + 1, hk, h1, h2 => by
    have h0 := h1 0 (by omega)
    simp only [List.getElem_cons_zero] at h0
    unfold ins
    rw [if_pos h0, ins_same (l := r) (k := k) (by simpa using hk) (fun j hj => by have := h1 (j + 1) (by omega); simpa using this) (by simpa using h2)]
theorem fold_ins (L : List Str) : ∀ o, Asc o → Asc (L.foldl (fun o x => ins x o) o) ∧ ∀ z, z ∈ L.foldl (fun o x => ins x o) o ↔ z ∈ L ∨ z ∈ o := by
  induction L with
  | nil => intro o h; exact ⟨h, fun z => by simp⟩
  | cons x r ih =>
    intro o h
    obtain ⟨h1, h2⟩ := ih (ins x o) (asc_ins h)
    refine ⟨h1, fun z => (h2 z).trans ?_⟩
    rw [mem_ins, List.mem_cons]
    constructor
    · rintro (h | h | h)
      · exact Or.inl (Or.inr h)
      · exact Or.inl (Or.inl h)
      · exact Or.inr h
    · rintro ((h | h) | h)
      · exact Or.inr (Or.inl h)
      · exact Or.inl h
      · exact Or.inr (Or.inr h)
theorem sortU_asc (L : List Str) : Asc (sortU L) := (fold_ins L [] List.Pairwise.nil).1
theorem mem_sortU {L : List Str} {z : Str} : z ∈ sortU L ↔ z ∈ L := by
  have := (fold_ins L [] List.Pairwise.nil).2 z
  simpa [sortU] using this
theorem sortU_snoc {L : List Str} {k : Nat} (hk : k < L.length) : sortU (L.take (k + 1)) = ins L[k] (sortU (L.take k)) := by
  unfold sortU
  rw [List.take_succ_eq_append_getElem hk, List.foldl_append]; rfl
theorem ins_len (x : Str) (l : List Str) : (ins x l).length ≤ l.length + 1 := by
  induction l with
  | nil => simp [ins]
  | cons y r ih => unfold ins; split; simp; exact ih; split <;> simp
theorem sortU_len (L : List Str) : (sortU L).length ≤ L.length := by
  have : ∀ (L o : List Str), (L.foldl (fun o x => ins x o) o).length ≤ o.length + L.length := by
    intro L
    induction L with
    | nil => intro o; simp
    | cons x r ih => intro o; have := ih (ins x o); have := ins_len x o; simp only [List.foldl_cons, List.length_cons]; omega
  have := this L []
  simpa [sortU] using this
open Go.Lib Go.Sort in
theorem compact_inv (S : List Str) (hs : S.Pairwise (· ≤ ·)) : ∀ m, m ≤ S.length → Asc (compactUpTo S.toArray m) ∧ ∀ z, z ∈ compactUpTo S.toArray m ↔ z ∈ S.take m := by
  intro m
  induction m with
  | zero => intro _; simp [compactUpTo, Asc]
  | succ m ih =>
    intro hm
    obtain ⟨h1, h2⟩ := ih (by omega)
    have hlt : m < S.length := by omega
    have hget : S.toArray[m]! = S[m] := by simp [hlt]
    rw [compactUpTo_succ, hget]
    have htk : ∀ z, z ∈ S.take (m + 1) ↔ z ∈ S.take m ∨ z = S[m] := fun z => by rw [List.take_succ_eq_append_getElem hlt, List.mem_append, List.mem_singleton]
    have hle : ∀ y ∈ S.take m, y ≤ S[m] := fun y hy => by
      obtain ⟨j, hj, rfl⟩ := List.mem_iff_getElem.1 hy
      rw [List.getElem_take]
      have hjm : j < m := by rw [List.length_take] at hj; omega
      exact List.pairwise_iff_getElem.1 hs j m (by omega) hlt hjm
    cases hk : keeps S.toArray m with
    | true =>
      refine ⟨?_, fun z => by rw [if_pos rfl, List.mem_append, List.mem_singleton, htk, h2]⟩
      rw [if_pos rfl]
      refine List.pairwise_append.2 ⟨h1, List.pairwise_singleton _ _, fun a ha b hb => ?_⟩
      rw [List.mem_singleton] at hb
      subst hb
      have ha' := (h2 a).1 ha
      refine lt_of_le_ne (hle a ha') fun e => ?_
      subst e
      unfold keeps at hk
      simp only [decide_eq_true_eq] at hk
      rcases hk with rfl | hk
      · simp at ha'
      · have hm0 : 0 < m := by
          rcases Nat.eq_zero_or_pos m with h0 | h0
          · subst h0; simp at ha'
          · exact h0
        have hp : m - 1 < S.length := by omega
        have e1 : S.toArray[m - 1]! = S[m - 1] := by simp [hp]
        rw [hget, e1] at hk
        obtain ⟨j, hj, hje⟩ := List.mem_iff_getElem.1 ha'
        rw [List.getElem_take] at hje
        have hjm : j < m := by rw [List.length_take] at hj; omega
        have hle1 : S[m - 1] ≤ S[m] := List.pairwise_iff_getElem.1 hs (m - 1) m hp hlt (by omega)
        have hle2 : S[m] ≤ S[m - 1] := by
          by_cases hjm1 : j = m - 1
          · subst hjm1; rw [hje]; exact List.le_refl _
          · rw [← hje]; exact List.pairwise_iff_getElem.1 hs j (m - 1) (by omega) hp (by omega)
        exact hk (List.le_antisymm hle2 hle1)
    | false =>
      rw [if_neg (by simp), List.append_nil]
      refine ⟨h1, fun z => by
        rw [h2, htk]
        refine ⟨Or.inl, fun h => ?_⟩
        rcases h with h | rfl
        · exact h
        unfold keeps at hk
        simp only [decide_eq_false_iff_not, not_or, Decidable.not_not] at hk
        obtain ⟨hm0, he⟩ := hk
        have hp : m - 1 < S.length := by omega
        have e1 : S.toArray[m - 1]! = S[m - 1] := by simp [hp]
        rw [hget, e1] at he
        rw [he]
        exact List.mem_iff_getElem.2 ⟨m - 1, by rw [List.length_take]; omega, by rw [List.getElem_take]⟩⟩
open Go.Lib in
theorem compact_sort (L : List Str) : compact (L.mergeSort fun x y => decide (x ≤ y)) = sortU L := by
  have hs : (L.mergeSort fun x y => decide (x ≤ y)).Pairwise (· ≤ ·) := by
    have := List.pairwise_mergeSort (le := fun x y : Str => decide (x ≤ y)) (by intro a b c h1 h2; simp at *; exact List.le_trans h1 h2) (by intro a b; simp; exact List.le_total a b) L
    simpa using this
  obtain ⟨h1, h2⟩ := compact_inv _ hs _ (Nat.le_refl _)
  refine asc_ext h1 (sortU_asc L) fun z => ?_
  have := h2 z
  rw [List.take_of_length_le (Nat.le_refl _)] at this
  exact this.trans ((List.mergeSort_perm L _).mem_iff.trans mem_sortU.symm)
end Go.Proofs.YtnmomlaimffonaaGreat.Nm
set_option maxRecDepth 100000
namespace Go.Proofs.YtnmomlaimffonaaGreat.C2
open Go.RowKit Go.Lib Com Mem Mp Ow YtnmomlaimffonaaGreat.Nm
theorem swithout_any (A1 A2 : Option Addr) (c1 c2 : Nat) (L R : List (List UInt8)) (w : World) (h1 : Rd w w.heap.size A1 (L.map sv)) (h2 : Rd w w.heap.size A2 (R.map sv)) (hn1 : L.length ≤ 2000000) (hn2 : R.length ≤ 9223372036854775807) :
    Calls Tryz.prog 128 #[.slice A1 L.length c1, .slice A2 R.length c2] w fun e w' => ∃ v, e = .returned v ∧ Grow 9 w w' v ((keepS L R).map sv) := by
  go_enter Tryz.func128, Tryz.ntmps128
  go_wp2_with fail
  go_loopw [5, 6] (fun o i wr => ∃ k : Nat, k ≤ L.length ∧ i = .int .i64 k ∧ Grow 9 w wr o ((keepS (L.take k) R).map sv)) (fun _ i _ => L.length - (Go.RowKit.intOf i).toNat)
  case atStart => exact ⟨0, Nat.zero_le _, rfl, Grow.lit0 _ _⟩
  case round =>
    obtain ⟨k, hk, rfl, hg⟩ := hrel
    by_cases hlt : k < L.length
    · obtain ⟨ad, rfl, _, hc⟩ := Lh.rd_str (h1.below hg.2) hlt
      have hst := hid (keep_snoc (R := R) hlt)
      have hkl := keep_len (L.take k) R
      have hkl' : ((keepS (L.take k) R).map sv).length < 1000000000000 := by rw [List.length_map]; rw [List.length_take] at hkl; omega
      have hcall := has_any A2 c2 R L[k] wr w.heap.size (h2.below hg.2) hn2
      have hg := hid hg
      cases hh : hasS R L[k] with
      | true =>
        rw [hh] at hst hcall
        have hcall := hid hcall
        clear hkl'
        go_wp2_with fail
        refine hcall.out.mono ?_
        rintro e w' ⟨rfl, rfl⟩
        go_wp2_with fail
        exact ⟨⟨k + 1, hlt, by go_num, by rw [hst.out]; simpa using hg.out⟩, by simp [Go.RowKit.intOf]; omega⟩
      | false =>
        rw [hh] at hst hcall
        have hcall := hid hcall
        go_wp2_with fail
        refine hcall.out.mono ?_
        rintro e w' ⟨rfl, rfl⟩
        go_wp2_with (at_builtin; refine hg.out.append strT (sv L[k]) rfl hkl' rfl _ _ rfl rfl rfl ?_; intro v1 w1 hg1 hgb hv1)
        exact ⟨⟨k + 1, hlt, by go_num, by rw [hst.out, List.map_append]; exact hg1⟩, by simp [Go.RowKit.intOf]; omega⟩
    · obtain rfl : k = L.length := by omega
      rw [List.take_of_length_le (Nat.le_refl _)] at hg
      go_wp2_with fail
      go_ret
      exact ⟨_, rfl, hg⟩
theorem Grow.drewN {e : TypeId} {w0 w : World} {v : Value} {xs : List Value} (h : Grow e w0 w v xs) (n : Nat) : Grow e w0 (w.drewN n) v xs := ⟨h.1, bdr h.2 n⟩
theorem rest_rd {wr : World} {O : List Str} {g m : Nat} (_h : m < O.length) (hc : ∀ j (_ : j < O.length), wr.cell? ⟨g, j, none⟩ = some (sv O[j])) (hg : g < wr.heap.size) (n : Nat) (o : Obj) : Rd ((wr.drewN n).alloc o) wr.heap.size (some ⟨g, m, none⟩) ((O.drop m).map sv) := fun _ =>
  ⟨_, rfl, hg, fun j u hu => by
    rw [List.getElem?_map, List.getElem?_drop] at hu
    cases hq : O[m + j]? with
    | none => rw [hq] at hu; cases hu
    | some y =>
      rw [hq] at hu
      obtain ⟨hj, hy⟩ := List.getElem?_eq_some_iff.1 hq
      have e : (⟨g, m, none⟩ : Addr).add j = ⟨g, m + j, none⟩ := by unfold Addr.add; split <;> simp_all
      rw [e, ← Option.some.inj hu, ← hy, ← hc _ hj]
      exact ((Below.refl wr.heap.size (wr.drewN n)).alloc (Nat.le_refl _) o).cell (p := ⟨g, m + j, none⟩) hg⟩
theorem rest_none {wr : World} {O : List Str} {m : Nat} {A : Option Addr} (h : m ≤ O.length) (h2 : O.length ≤ m) (n : Nat) (o : Obj) : Rd ((wr.drewN n).alloc o) wr.heap.size A ((O.drop m).map sv) := by
  obtain rfl : m = O.length := by omega
  rw [List.drop_of_length_le (Nat.le_refl _)]; exact Rd.nil_
theorem all_one (l : List Str) : ∀ u ∈ l.map sv, u.oneCell' = true := fun u hu => by obtain ⟨y, _, rfl⟩ := List.mem_map.1 hu; rfl
theorem rest_keep {w1 w3 : World} {base g g2 c2 n n' e : Nat} {xs : List Value} {o : Obj} (h : w1.ownsRow base e 1 (.slice (some ⟨g2, 0, none⟩) n' c2) n xs) (h3 : (w1.drew.alloc o).grownBy w3 (some g)) (hne : g < g2) : ∀ j u, xs[j]? = some u → w3.cell? ((⟨g2, 0, none⟩ : Addr).add j) = some u := by
  have h' : (w1.drew.alloc o).ownsRow base e 1 (.slice (some ⟨g2, 0, none⟩) n' c2) n xs := h.drew.alloc o
  exact (h'.kept h3 (Or.inr (by simp [Value.ownBlock]; omega))).cells (g := g2) rfl
theorem sort_step {w w1 w3 w4 : World} {v3 v4 : Value} {g m n3 n4 : Nat} {O : List Str} {x : Str} {o : Obj} (hB : Below w.heap.size w w1) (hg : w.heap.size ≤ g) (h3 : (w1.drew.alloc o).grownBy w3 (some g)) (ho3 : w3.ownsRow w.heap.size 9 1 v3 n3 (List.map sv (O.take m) ++ [sv x])) (h4 : w3.grownBy w4 v3.ownBlock)
    (ho4 : w4.ownsRow w.heap.size 9 1 v4 n4 (List.map sv (O.take m) ++ [sv x] ++ List.map sv (O.drop m))) : v4 ≠ .slice none 0 0 ∧ Grow 9 w w4 v4 ((O.take m ++ x :: O.drop m).map sv) := by
  have hb1 : Below w.heap.size w (w1.drew.alloc o) := Below.alloc (bdr hB 1) (by have := hB.size; simpa [World.drewN] using this) o
  have hb3 := hb1.grown h3 hb1.size (fun k hk => by cases hk; exact hg)
  have hb4 := hb3.grown h4 hb3.size (fun k hk => (ho3.lt k hk).1)
  have e : List.map sv (O.take m) ++ [sv x] ++ List.map sv (O.drop m) = (O.take m ++ x :: O.drop m).map sv := by simp
  have hl := ho4.1
  refine ⟨fun hv => ?_, ?_, hb4⟩
  · subst hv
    rcases ho4.2 with ⟨_, h0⟩ | ⟨_, _, _, h0, _⟩
    · subst h0; simp at hl
    · cases h0
  · rw [e] at ho4 hl
    rw [Nat.mul_one] at hl
    rw [hl]; exact ho4
theorem ssort_any (A : Option Addr) (c : Nat) (L : List (List UInt8)) (w : World) (h : Rd w w.heap.size A (L.map sv)) (hn : L.length ≤ 2000000) :
    Calls Tryz.prog 142 #[.slice A L.length c] w fun e w' => ∃ v, e = .returned v ∧ Grow 9 w w' v ((sortU L).map sv) := by
  go_enter Tryz.func142, Tryz.ntmps142
  go_wp2_with fail
  go_loopw [3, 4] (fun o i wr => ∃ k : Nat, k ≤ L.length ∧ i = .int .i64 k ∧ o ≠ .slice none 0 0 ∧ Grow 9 w wr o ((sortU (L.take k)).map sv)) (fun _ i _ => L.length - (Go.RowKit.intOf i).toNat)
  case atStart => exact ⟨0, Nat.zero_le _, rfl, by simp, Grow.lit0 _ _⟩
  case round =>
    obtain ⟨k, hk, rfl, hnn, hg⟩ := hrel
    by_cases hlt : k < L.length
    · obtain ⟨ad, rfl, hadlt, hc⟩ := Lh.rd_str (h.below hg.2) hlt
      have hul := sortU_len (L.take k)
      rw [List.length_take] at hul
      have hst := hid (sortU_snoc hlt)
      generalize hO : sortU (L.take k) = O at *
      generalize L[k] = x at *
      obtain ⟨g, cap, cur, hv, hgb, hblk, hnc, hcm, hcz, htk⟩ := hg.some_ hnn
      rw [List.length_map] at hnc htk hv
      subst hv
      have hcell : ∀ j (hj : j < O.length), wr.cell? ⟨g, j, none⟩ = some (sv O[j]) := fun j hj => by
        have := hg.1.cells (g := g) rfl j (sv O[j]) (by simp [hj])
        have e : (⟨g, 0, none⟩ : Addr).add j = ⟨g, j, none⟩ := by unfold Addr.add; split <;> simp_all
        rwa [e] at this
      have hcell := hid hcell
      have hg := hid hg
      clear h hO
      go_wp2_with fail
      go_loopw [5] (fun a wx => ∃ m n : Nat, m ≤ O.length ∧ a = .int .i64 m ∧ (∀ j (_ : j < m) (h : j < O.length), O[j] < x) ∧ wx = wr.drewN n) (fun a _ => O.length - (Go.RowKit.intOf a).toNat)
      case atStart => exact ⟨0, 0, Nat.zero_le _, rfl, fun j hj => by omega, rfl⟩
      case round =>
        obtain ⟨m, n, hm, rfl, hall, rfl⟩ := hrel
        have hall := hid hall
        by_cases hmo : m < O.length
        · have hcm := hcell.out m hmo
          go_wp2_with fail
          go_quiet (fail)
          cases hless : Op.bytesLess O[m] x with
          | true =>
            have hx : O[m] < x := by rw [Go.Proofs.bytesLess_eq] at hless; exact of_decide_eq_true hless
            have hnx := hid (fun j (hj : j < m + 1) (h : j < O.length) => by
              rcases Nat.lt_or_ge j m with h1 | h1
              · exact hall.out j h1 h
              · obtain rfl : j = m := by omega
                exact hx)
            clear hx
            go_wp2_with fail
            exact ⟨⟨m + 1, n + nq, hmo, by go_num, hnx.out, rfl⟩, by simp [Go.RowKit.intOf]; omega⟩
          | false =>
            have hx : ¬ O[m] < x := by rw [Go.Proofs.bytesLess_eq] at hless; exact of_decide_eq_false hless
            by_cases hq : O[m] = x
            · have t1 : (O[m] == x) = true := by rw [hq]; exact beq_self_eq_true _
              have hsame := hid (ins_same hmo (fun j hj => hall.out j hj (by omega)) hq)
              have hg2 := hid (Grow.drewN hg.out (n + nq))
              clear hx hq
              go_wp2_with fail
              go_quiet (fail)
              go_wp2_with fail
              exact ⟨⟨k + 1, hlt, by go_num, hnn, by rw [hst.out, hsame.out]; exact Grow.drewN hg.out _⟩, by simp [Go.RowKit.intOf]; omega⟩
            · have t1 : (O[m] == x) = false := by simpa using hq
              have hins := hid (ins_at (k := m) hm (fun j hj => hall.out j hj (by omega)) (fun _ => ⟨hx, hq⟩))
              clear hx hq
              have hrest := hid (rest_rd hmo hcell.out (by have := (Array.getElem?_eq_some_iff.1 hblk).1; exact this))
              have hmc : m < cap := by omega
              go_wp2_with fail
              go_quiet (fail)
              go_wp2_with (at_builtin; refine (Grow.lit0 9 (wr.drewN _)).appendAll strT (some ⟨g, m, none⟩) (O.length - m) (cap - m) wr.heap.size ((O.drop m).map sv) (by simp) (fun e => by cases e) (hrest.out _ _) (all_one _) (by simp <;> omega) rfl _ _ rfl rfl rfl ?_; intro v1 w1 hg1 _ hv1)
              have hv1 : v1 ≠ .slice none 0 0 := fun e => by cases (hv1.1 e).1
              obtain ⟨g2, c2, cur2, hv2, hgb2, hblk2, hnc2, hcm2, hcz2, htk2⟩ := hg1.some_ hv1
              have hB : Below wr.heap.size wr w1 := ⟨hg1.2.os, hg1.2.tape, hg1.2.output, hg1.2.size, hg1.2.block⟩
              have ho1 := hid (hg.out.below hB (Nat.le_refl _))
              have hc1 := (hB.cell (p := ad.add k) (by rw [add_block]; have := hg.out.2.size; omega)).trans hc
              have hgw : g < wr.heap.size := (Array.getElem?_eq_some_iff.1 hblk).1
              have hrd2 := hid hg1.1
              simp only [List.nil_append, List.length_map, List.length_drop] at hv2 hnc2
              subst hv2
              have hgb2 : wr.heap.size ≤ g2 := hgb2
              have hst := hid (hst.out.trans hins.out)
              have hsz1 := hB.size
              have hws := hg.out.2.size
              have hmc' : m ≤ cap := by omega
              have hT0 := ho1.out.1
              rw [List.length_map] at hT0
              have hT1 := own_take (k := m) hT0 hm (by simp)
              have hT1 := hid (fun (o : Obj) => hT1.drew.alloc o)
              have hrd2 := hrd2.out
              rw [List.nil_append] at hrd2
              have hR := hid (fun (w3 : World) (o : Obj) (h3 : (w1.drew.alloc o).grownBy w3 (some g)) => rest_keep hrd2 (o := o) h3 (by omega))
              clear hrd2 hT0
              have hlm : (List.map sv (O.take m)).length = m := by rw [List.length_map, List.length_take]; omega
              have hlm := hid hlm
              clear hc hless t1 hins hrest hg1 hv1 hcm hall hcell hblk hblk2 htk htk2 hcz hcz2 hg
              go_wp2_with fail
              go_region_law (first | (refine step_own strT rfl (.tmp 53) (.tmp 58) rfl w.heap.size (.slice (some ⟨g, 0, none⟩) m cap) ((O.take m).map sv) rfl (by rw [hlm.out, List.map_take]; exact hT1.out _) ⟨w1.heap.size, 0, none⟩ 1 1 [sv x] rfl rfl (one_cell w1.drew (sv x) _) (one_one x) (by rw [hlm.out]; omega) (by simp <;> omega) ?_; intro v3 w3 hown3 hgb3 hnn3) | (refine step_own strT rfl (.tmp 59) (.tmp 60) rfl w.heap.size v3 ((O.take m).map sv ++ [sv x]) rfl (by rw [List.length_append]; exact hown3) ⟨g2, 0, none⟩ (O.length - m) c2 ((O.drop m).map sv) rfl (by simp) (hR.out _ _ hgb3) (all_one _) (by rw [List.length_append, hlm.out]; simp <;> omega) (by have := hgb3.size; simp at this; omega) ?_; intro v4 w4 hown4 hgb4 hnn4))
              obtain ⟨hn4, hg4⟩ := sort_step ho1.out.2 hgb hgb3 hown3 hgb4 hown4
              clear hown3 hown4 hgb3 hgb4 hnn3 hnn4
              go_wp2_with fail
              exact ⟨⟨k + 1, hlt, by go_num, hn4, by rw [hst.out]; exact hg4⟩, by simp [Go.RowKit.intOf]; omega⟩
        · have t0 : decide (m < O.length) = false := decide_eq_false hmo
          have hins := hid (ins_at (k := m) hm (fun j hj => hall.out j hj (by omega)) (fun h => absurd h hmo))
          by_cases hmc : cap = m
          · obtain rfl : m = cap := hmc.symm
            have hmc' : m ≤ m := Nat.le_refl m
            have hrest := hid (rest_none (wr := wr) hm (by omega) (A := (some ⟨g, 0, none⟩)))
            go_wp2_with fail
            go_quiet (fail)
            go_wp2_with fail
            go_quiet (fail)
            go_wp2_with (at_builtin; refine (Grow.lit0 9 (wr.drewN _)).appendAll strT (some ⟨g, 0, none⟩) 0 _ wr.heap.size ((O.drop m).map sv) (by simp <;> omega) (fun e => by cases e) (hrest.out _ _) (all_one _) (by simp <;> omega) rfl _ _ rfl rfl rfl ?_; intro v1 w1 hg1 _ hv1)
            have hv1 : v1 ≠ .slice none 0 0 := fun e => by cases (hv1.1 e).1
            obtain ⟨g2, c2, cur2, hv2, hgb2, hblk2, hnc2, hcm2, hcz2, htk2⟩ := hg1.some_ hv1
            have hB : Below wr.heap.size wr w1 := ⟨hg1.2.os, hg1.2.tape, hg1.2.output, hg1.2.size, hg1.2.block⟩
            have ho1 := hid (hg.out.below hB (Nat.le_refl _))
            have hc1 := (hB.cell (p := ad.add k) (by rw [add_block]; have := hg.out.2.size; omega)).trans hc
            have hgw : g < wr.heap.size := (Array.getElem?_eq_some_iff.1 hblk).1
            have hrd2 := hid hg1.1
            simp only [List.nil_append, List.length_map, List.length_drop, Nat.sub_eq_zero_of_le hnc] at hv2
            subst hv2
            have hgb2 : wr.heap.size ≤ g2 := hgb2
            have hst := hid (hst.out.trans hins.out)
            have hsz1 := hB.size
            have hws := hg.out.2.size
            skip
            have hT0 := ho1.out.1
            rw [List.length_map] at hT0
            have hT1 := own_take (k := m) hT0 hm (by simp)
            have hT1 := hid (fun (o : Obj) => hT1.drew.alloc o)
            have hrd2 := hrd2.out
            rw [List.nil_append] at hrd2
            have hR := hid (fun (w3 : World) (o : Obj) (h3 : (w1.drew.alloc o).grownBy w3 (some g)) => rest_keep hrd2 (o := o) h3 (by omega))
            clear hrd2 hT0
            have hlm : (List.map sv (O.take m)).length = m := by rw [List.length_map, List.length_take]; omega
            have hlm := hid hlm
            clear hc t0 hins hrest hg1 hv1 hall hcell hblk hblk2 htk htk2 hcz hcz2 hg
            go_wp2_with fail
            go_region_law (first | (refine step_own strT rfl (.tmp 53) (.tmp 58) rfl w.heap.size (.slice (some ⟨g, 0, none⟩) m m) ((O.take m).map sv) rfl (by rw [hlm.out, List.map_take]; exact hT1.out _) ⟨w1.heap.size, 0, none⟩ 1 1 [sv x] rfl rfl (one_cell w1.drew (sv x) _) (one_one x) (by rw [hlm.out]; omega) (by simp <;> omega) ?_; intro v3 w3 hown3 hgb3 hnn3) | (refine step_own strT rfl (.tmp 59) (.tmp 60) rfl w.heap.size v3 ((O.take m).map sv ++ [sv x]) rfl (by rw [List.length_append]; exact hown3) ⟨g2, 0, none⟩ 0 c2 ((O.drop m).map sv) rfl (by simp <;> omega) (hR.out _ _ hgb3) (all_one _) (by rw [List.length_append, hlm.out]; simp <;> omega) (by have := hgb3.size; simp at this; omega) ?_; intro v4 w4 hown4 hgb4 hnn4))
            obtain ⟨hn4, hg4⟩ := sort_step ho1.out.2 hgb hgb3 hown3 hgb4 hown4
            clear hown3 hown4 hgb3 hgb4 hnn3 hnn4
            go_wp2_with fail
            exact ⟨⟨k + 1, hlt, by go_num, hn4, by rw [hst.out]; exact hg4⟩, by simp [Go.RowKit.intOf]; omega⟩
          · have hmc0 : ¬ cap = m := hmc
            have hrest := hid (rest_none (wr := wr) hm (by omega) (A := (some ⟨g, m, none⟩)))
            go_wp2_with fail
            go_quiet (fail)
            go_wp2_with fail
            go_quiet (fail)
            go_wp2_with (at_builtin; refine (Grow.lit0 9 (wr.drewN _)).appendAll strT (some ⟨g, m, none⟩) (O.length - m) (cap - m) wr.heap.size ((O.drop m).map sv) (by simp) (fun e => by cases e) (hrest.out _ _) (all_one _) (by simp <;> omega) rfl _ _ rfl rfl rfl ?_; intro v1 w1 hg1 _ hv1)
            have hv1 : v1 ≠ .slice none 0 0 := fun e => by cases (hv1.1 e).1
            obtain ⟨g2, c2, cur2, hv2, hgb2, hblk2, hnc2, hcm2, hcz2, htk2⟩ := hg1.some_ hv1
            have hB : Below wr.heap.size wr w1 := ⟨hg1.2.os, hg1.2.tape, hg1.2.output, hg1.2.size, hg1.2.block⟩
            have ho1 := hid (hg.out.below hB (Nat.le_refl _))
            have hc1 := (hB.cell (p := ad.add k) (by rw [add_block]; have := hg.out.2.size; omega)).trans hc
            have hgw : g < wr.heap.size := (Array.getElem?_eq_some_iff.1 hblk).1
            have hrd2 := hid hg1.1
            simp only [List.nil_append, List.length_map, List.length_drop] at hv2 hnc2
            subst hv2
            have hgb2 : wr.heap.size ≤ g2 := hgb2
            have hst := hid (hst.out.trans hins.out)
            have hsz1 := hB.size
            have hws := hg.out.2.size
            have hmc' : m ≤ cap := by omega
            have hT0 := ho1.out.1
            rw [List.length_map] at hT0
            have hT1 := own_take (k := m) hT0 hm (by simp)
            have hT1 := hid (fun (o : Obj) => hT1.drew.alloc o)
            have hrd2 := hrd2.out
            rw [List.nil_append] at hrd2
            have hR := hid (fun (w3 : World) (o : Obj) (h3 : (w1.drew.alloc o).grownBy w3 (some g)) => rest_keep hrd2 (o := o) h3 (by omega))
            clear hrd2 hT0
            have hlm : (List.map sv (O.take m)).length = m := by rw [List.length_map, List.length_take]; omega
            have hlm := hid hlm
            clear hc t0 hins hrest hg1 hv1 hall hcell hblk hblk2 htk htk2 hcz hcz2 hg
            go_wp2_with fail
            go_region_law (first | (refine step_own strT rfl (.tmp 53) (.tmp 58) rfl w.heap.size (.slice (some ⟨g, 0, none⟩) m cap) ((O.take m).map sv) rfl (by rw [hlm.out, List.map_take]; exact hT1.out _) ⟨w1.heap.size, 0, none⟩ 1 1 [sv x] rfl rfl (one_cell w1.drew (sv x) _) (one_one x) (by rw [hlm.out]; omega) (by simp <;> omega) ?_; intro v3 w3 hown3 hgb3 hnn3) | (refine step_own strT rfl (.tmp 59) (.tmp 60) rfl w.heap.size v3 ((O.take m).map sv ++ [sv x]) rfl (by rw [List.length_append]; exact hown3) ⟨g2, 0, none⟩ (O.length - m) c2 ((O.drop m).map sv) rfl (by simp) (hR.out _ _ hgb3) (all_one _) (by rw [List.length_append, hlm.out]; simp <;> omega) (by have := hgb3.size; simp at this; omega) ?_; intro v4 w4 hown4 hgb4 hnn4))
            obtain ⟨hn4, hg4⟩ := sort_step ho1.out.2 hgb hgb3 hown3 hgb4 hown4
            clear hown3 hown4 hgb3 hgb4 hnn3 hnn4
            go_wp2_with fail
            exact ⟨⟨k + 1, hlt, by go_num, hn4, by rw [hst.out]; exact hg4⟩, by simp [Go.RowKit.intOf]; omega⟩
    · obtain rfl : k = L.length := by omega
      rw [List.take_of_length_le (Nat.le_refl _)] at hg
      go_wp2_with fail
      go_ret
      exact ⟨_, rfl, hg⟩
end Go.Proofs.YtnmomlaimffonaaGreat.C2
