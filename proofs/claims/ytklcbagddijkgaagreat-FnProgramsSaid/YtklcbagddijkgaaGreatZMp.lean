/- Maps that the call itself makes: a set of strings (map[string]bool). -/
import Derived.Test.YtklcbagddijkgaaGreatZCom
import Derived.Maps.OwnSet
import Derived.StringKeys
import Derived.Test.YtklcbagddijkgaaGreatZNum
import Derived.Test.YtklcbagddijkgaaGreatZLhS
set_option maxRecDepth 100000
namespace Go.Proofs.YtklcbagddijkgaaGreat.Mp
open Go.RowKit Go.Maps Go.Proofs.YtklcbagddijkgaaGreat.Mem

theorem keyS : Keyed Tryz.prog 9 := string_keyed Tryz.underlying9
theorem zeroB (w : World) : (zeroValue 4).run Tryz.prog w = .ok (.bool false) w := by kernel_rfl

/-- is it there? -/
def hasS (S : List (List UInt8)) (l : List UInt8) : Bool := S.contains l
theorem hasS_iff {S : List (List UInt8)} {l : List UInt8} : hasS S l = true ↔ l ∈ S := by simp [hasS]
theorem hasS_false {S : List (List UInt8)} {l : List UInt8} : hasS S l = false ↔ l ∉ S := by simp [hasS]

def strs (S : List (List UInt8)) : List Lit := S.map Lit.string
def setD (S : List (List UInt8)) : DataW Unit := setOf (.lit (.bool true)) (strs S)
/-- block b is a map of at most n entries: the set S -/
def SetIs (w : World) (b n : Nat) (S : List (List UInt8)) : Prop := w.ownsMap (H := Unit) Tryz.prog 9 (plainElem Tryz.prog 4) b n (setD S)

theorem keys_str (S : List (List UInt8)) : ∀ x ∈ strs S, WideAt.IsKeyLit x := by
  intro x hx
  obtain ⟨l, _, rfl⟩ := List.mem_map.1 hx
  trivial

theorem sameKey_str (a b : List UInt8) : (Lit.string a).sameKey (.string b) = (a == b) := by
  by_cases h : a = b
  · subst h; rw [WideAt.sameKey_self (keys_str [a] _ (by simp [strs]))]; simp
  · rw [sameKey_ne (by simpa using h)]; simp [h]

theorem setD_snoc (S : List (List UInt8)) (l : List UInt8) : setD (S ++ [l]) = (setD S).put (.string l) (.lit (.bool true)) := by
  unfold setD strs; rw [List.map_append]; exact setOf_snoc _ _ _

theorem put_ind (S : List (List UInt8)) (l : List UInt8) : ∀ (m : DataW Unit), IsMap m → (strs S |>.foldl (fun m x => m.put x (.lit (.bool true))) m).atKey (.string l) (.lit (.bool false)) = if S.contains l then .lit (.bool true) else m.atKey (.string l) (.lit (.bool false)) := by
  induction S with
  | nil => intro m _; rfl
  | cons x r ih =>
    intro m hm
    show (List.foldl _ (m.put (.string x) _) (strs r)).atKey _ _ = _
    rw [ih _ (hm.put _ _)]
    by_cases e : l = x
    · subst e
      rw [atKey_put_same hm (keys_str [l] _ (by simp [strs]))]
      simp
    · rw [atKey_put_other (by simpa using e)]
      have : (x :: r).contains l = r.contains l := by simp [e]
      rw [this]

theorem setD_at (S : List (List UInt8)) (l : List UInt8) : (setD S).atKey (.string l) (.lit (.bool false)) = .lit (.bool (hasS S l)) := by
  have := put_ind S l _ isMap_empty
  unfold setD setOf
  rw [this]
  unfold hasS
  cases h : S.contains l
  · rfl
  · rfl

/-- how many different ones -/
def addK (acc : List (List UInt8)) (x : List UInt8) : List (List UInt8) := if acc.contains x then acc else acc ++ [x]
def uniq (S : List (List UInt8)) : List (List UInt8) := S.foldl addK []

theorem fold_strs (S : List (List UInt8)) : ∀ L, (strs S).foldl addKey (strs L) = strs (S.foldl addK L) := by
  induction S with
  | nil => intro L; rfl
  | cons x r ih =>
    intro L
    show (strs r).foldl addKey (addKey (strs L) (.string x)) = strs (r.foldl addK (addK L x))
    rw [← ih]
    congr 1
    unfold addKey addK
    have : (strs L).any (fun y => y.sameKey (.string x)) = L.contains x := by
      rw [Bool.eq_iff_iff]
      simp only [List.any_eq_true, List.contains_iff_mem]
      constructor
      · rintro ⟨y, hy, hs⟩
        obtain ⟨l, hl, rfl⟩ := List.mem_map.1 hy
        rw [sameKey_str] at hs
        rw [← (beq_iff_eq.1 hs)]; exact hl
      · intro h
        exact ⟨_, List.mem_map.2 ⟨x, h, rfl⟩, by rw [sameKey_str]; simp⟩
    rw [this]
    split
    · rfl
    · simp [strs]

theorem setD_size (S : List (List UInt8)) : size (setD S) = (uniq S).length := by
  unfold setD
  rw [size_setOf _ _ (keys_str S)]
  have := fold_strs S []
  rw [show strs [] = [] from rfl] at this
  rw [this]; simp [strs, uniq]

section
variable {w w' : World} {b n : Nat} {S : List (List UInt8)}
theorem SetIs.lt (h : SetIs w b n S) : b < w.heap.size := World.ownsMap.lt h
theorem SetIs.alloc (h : SetIs w b n S) (o : Obj) : SetIs (w.alloc o) b n S := World.ownsMap.alloc h o
theorem SetIs.kept {row : Option Nat} (h : SetIs w b n S) (hg : w.grownBy w' row) (hne : some b ≠ row) : SetIs w' b n S := World.ownsMap.kept h hg hne
theorem SetIs.below {B : Nat} (h : SetIs w b n S) (hb : Below B w w') (hlt : b < B) : SetIs w' b n S := by
  obtain ⟨es, clock, hx, r⟩ := h
  exact ⟨es, clock, (hb.block b hlt).trans hx, r⟩
theorem SetIs.made (w : World) : SetIs (w.alloc (.map #[] 0)) w.heap.size 0 [] := World.ownsMap_made w _ _ _

theorem key_at {l : List UInt8} (hl : l.length ≤ maxLen) : keyOf Tryz.prog 9 (.string ⟨l.toArray⟩) = some (.string l) := by
  have := WideMaps.keyOf_string_mk (P := Tryz.prog) Tryz.underlying9 (s := ⟨l.toArray⟩) (by simpa [ByteArray.size] using hl)
  simpa using this

theorem SetIs.look (h : SetIs w b n S) {l : List UInt8} (hl : l.length ≤ maxLen) : (Instr.lookup 100 (.map (some b)) (.string ⟨l.toArray⟩) false).run Tryz.prog w = .ok (.bool (hasS S l)) w := by
  obtain ⟨v, ps, hrun, hv⟩ := World.ownsMap.lookup h keyS Tryz.underlying100 (zeroB w) (plainElem_bool Tryz.underlying4 false) (key_at hl)
  rw [setD_at] at hv
  have : v = .bool (hasS S l) := by
    unfold plainElem at hv
    rw [Tryz.underlying4] at hv
    cases v <;> simp at hv
    rw [hv.1]
  rw [hrun, this]

theorem SetIs.put (h : SetIs w b n S) (hn : n < maxLen) {l : List UInt8} (hl : l.length ≤ maxLen) :
    ∃ w', (Instr.mapUpdate 100 (.map (some b)) (.string ⟨l.toArray⟩) (.bool true)).run Tryz.prog w = .ok () w' ∧ SetIs w' b (n + 1) (S ++ [l]) ∧ w.grownBy w' (some b) := by
  have := World.ownsMap.update (d := .lit (.bool true)) (ps := []) h keyS Tryz.underlying100 hn (key_at hl) (plainElem_bool Tryz.underlying4 true)
  obtain ⟨w', h1, h2, h3⟩ := this
  exact ⟨w', h1, by unfold SetIs; rw [setD_snoc]; exact h2, h3⟩

theorem SetIs.len (h : SetIs w b n S) (ty : TypeId) : (Builtin.len_ #[100] ty #[.map (some b)]).run Tryz.prog w = .ok (.int .i64 ((uniq S).length : Nat)) w := by
  have := World.ownsMap.len h Tryz.underlying100 ty
  rw [setD_size] at this
  exact this
end

/-- make(map[string]bool, n) -/
theorem made_hint (n : Int) (w : World) : (Instr.makeMap 100 (some (.int .i64 n))).run Tryz.prog w = .ok (.map (some w.heap.size)) (w.alloc (.map #[] 0)) := by
  simp [Instr.makeMap, run_underlying Tryz.underlying100]; rfl

/-- all are different just if the set has as many -/
theorem fold_len (S : List (List UInt8)) : ∀ acc : List (List UInt8), (S.foldl addK acc).length ≤ acc.length + S.length ∧ ((S.foldl addK acc).length = acc.length + S.length ↔ S.Nodup ∧ ∀ x ∈ S, x ∉ acc) := by
  induction S with
  | nil => intro acc; simp
  | cons x r ih =>
    intro acc
    have hi := ih (addK acc x)
    rw [List.foldl_cons]
    by_cases hx : x ∈ acc
    · have e : addK acc x = acc := by unfold addK; rw [if_pos (by simpa using hx)]
      rw [e] at hi ⊢
      refine ⟨by simp only [List.length_cons]; omega, ⟨fun h => ?_, fun h => absurd hx (h.2 x (by simp))⟩⟩
      simp only [List.length_cons] at h; omega
    · have e : addK acc x = acc ++ [x] := by unfold addK; rw [if_neg (by simpa using hx)]
      rw [e] at hi ⊢
      simp only [List.length_append, List.length_cons, List.length_nil] at hi ⊢
      refine ⟨by omega, ?_⟩
      rw [show acc.length + (r.length + 1) = acc.length + (0 + 1) + r.length by omega, hi.2]
      simp only [List.nodup_cons, List.mem_append, List.mem_cons, List.not_mem_nil, or_false]
      constructor
      · rintro ⟨h1, h2⟩
        exact ⟨⟨fun hm => (h2 x hm) (Or.inr rfl), h1⟩, fun y hy => by rcases hy with rfl | hy; exact hx; exact fun hm => h2 y hy (Or.inl hm)⟩
      · rintro ⟨⟨h1, h2⟩, h3⟩
        refine ⟨h2, fun y hy hm => ?_⟩
        rcases hm with hm | rfl
        · exact h3 y (Or.inr hy) hm
        · exact h1 hy
theorem uniq_nodup (S : List (List UInt8)) : (uniq S).length = S.length ↔ S.Nodup := by
  have := (fold_len S []).2
  simp at this
  exact this

/-- the store of a map's literal, or of an assignment, in a walk -/
theorem wpList_put {ops : Array Oper} {rest : List Oper} {o : Oper} {a : Act} {Q : Exit → Act → World → Prop} {w : World} (hg : o.guard = none) (m x v : Operand)
    (hop : o.op = Op.insert 100 m x v ∨ o.op = Op.mapUpdate 100 m x v) (b n : Nat) (S : List (List UInt8)) (hs : SetIs w b n S) (hn : n < maxLen) (l : List UInt8) (hl : l.length ≤ maxLen)
    (hm : a.eval m = .map (some b)) (hx : a.eval x = .string ⟨l.toArray⟩) (hv : a.eval v = .bool true)
    (hK : ∀ w', SetIs w' b (n + 1) (S ++ [l]) → w.grownBy w' (some b) → wpList Tryz.prog ops Q rest (a.put o.dst undef) w') :
    wpList Tryz.prog ops Q (o :: rest) a w := by
  refine wpList_plain hg fun K' hK' => ?_
  obtain ⟨w', hrun, r1, r2⟩ := hs.put hn hl
  unfold Oper.wp
  rcases hop with hop | hop
  all_goals
    simp [execOp, hop, hm, hx, hv, hrun, Result.andThen]
    exact hK' _ _ (hK w' r1 r2)

/-- 'len' of the set -/
theorem wpList_size {ops : Array Oper} {rest : List Oper} {o : Oper} {a : Act} {Q : Exit → Act → World → Prop} {w : World} (hg : o.guard = none) (m : Operand)
    (hop : o.op = Op.call { callee := Callee.builtin Builtin.len, args := #[m], argTypes := #[100] }) (b n : Nat) (S : List (List UInt8)) (hs : SetIs w b n S) (hm : a.eval m = .map (some b))
    (hK : wpList Tryz.prog ops Q rest (a.put o.dst (.int .i64 ((uniq S).length : Nat))) w) :
    wpList Tryz.prog ops Q (o :: rest) a w := by
  refine wpList_plain hg fun K' hK' => ?_
  unfold Oper.wp
  simp [execOp, hop, resolve, invoke, builtin, hm, hs.len o.type, Result.andThen]
  exact hK' _ _ hK

/-- a look-up in the set -/
theorem wpList_has {ops : Array Oper} {rest : List Oper} {o : Oper} {a : Act} {Q : Exit → Act → World → Prop} {w : World} (hg : o.guard = none) (m x : Operand)
    (hop : o.op = Op.lookup 100 m x false) (b n : Nat) (S : List (List UInt8)) (hs : SetIs w b n S) (l : List UInt8) (hl : l.length ≤ maxLen) (hm : a.eval m = .map (some b)) (hx : a.eval x = .string ⟨l.toArray⟩)
    (hK : wpList Tryz.prog ops Q rest (a.put o.dst (.bool (hasS S l))) w) :
    wpList Tryz.prog ops Q (o :: rest) a w := by
  refine wpList_plain hg fun K' hK' => ?_
  unfold Oper.wp
  simp [execOp, hop, hm, hx, hs.look hl, Result.andThen]
  exact hK' _ _ hK
end Go.Proofs.YtklcbagddijkgaaGreat.Mp

/- Chapter 2: reserved words and valid names, of the program and of the model. -/
set_option maxRecDepth 100000
namespace Go.Proofs.YtklcbagddijkgaaGreat.C2
open Go.RowKit Go.Lib Go.Proofs.YtklcbagddijkgaaGreat.Num Go.Proofs.YtklcbagddijkgaaGreat.Com Go.Proofs.YtklcbagddijkgaaGreat.Mem Go.Proofs.YtklcbagddijkgaaGreat.Mp Go.Proofs.YtklcbagddijkgaaGreat.Ch

def resW : List (List UInt8) := [[118, 97, 114, 115], [105, 102], [101, 108, 115, 101], [119, 104, 105, 108, 101], [101, 109, 105, 116], [97], [98], [100, 105, 102, 102], [112, 114, 101], [112, 111, 115, 116], [111, 117, 116, 112, 117, 116], [99, 111, 115, 116]]

set_option maxHeartbeats 1000000 in
theorem words_any (w : World) : Calls Tryz.prog 81 #[] w fun e w' => e = .returned (.map (some w.heap.size)) ∧ SetIs w' w.heap.size 12 resW ∧ Below w.heap.size w w' := by
  have hmm := @run_makeMap Tryz.prog
  have H : SetIs (w.alloc (.map #[] 0)) w.heap.size 0 [] ∧ Below w.heap.size w (w.alloc (.map #[] 0)) := ⟨SetIs.made w, (Below.refl _ _).alloc (Nat.le_refl _) _⟩
  have H := hid H
  go_enter Tryz.func81, Tryz.ntmps81
  go_wp2_with (refine wpList_put rfl _ _ _ (Or.inl rfl) _ _ _ H.out.1 (by unfold maxLen; omega) _ (by unfold maxLen; simp) rfl rfl rfl ?_; intro w1 hs1 hg1; replace H := hid (And.intro hs1 (bgb H.out.2 hg1 H.out.2.size (Nat.le_refl _))); clear hs1 hg1)
  go_ret
  exact ⟨rfl, H.out.1, H.out.2⟩

set_option maxHeartbeats 400000 in
theorem reserved_any (l : List UInt8) (w : World) (hl : l.length ≤ maxLen) : Calls Tryz.prog 64 #[.string ⟨l.toArray⟩] w fun e w' => e = .returned (.bool (hasS resW l)) ∧ Below w.heap.size w w' := by
  have hl := hid hl
  go_enter Tryz.func64, Tryz.ntmps64
  go_wp2_with fail
  refine (words_any _).mono ?_
  rintro e w1 ⟨rfl, hs, hb⟩
  have hb := hid hb
  go_wp2_with (refine wpList_has rfl _ _ rfl _ _ _ hs l hl.out rfl rfl ?_)
  go_ret
  exact ⟨rfl, hb.out⟩

set_option maxHeartbeats 400000 in
theorem has_any (A : Option Addr) (c : Nat) (L : List (List UInt8)) (l : List UInt8) (w : World) (B : Nat) (h : Rd w B A (L.map sv)) (hn : L.length ≤ 9223372036854775807) :
    Calls Tryz.prog 36 #[.slice A L.length c, .string ⟨l.toArray⟩] w fun e w' => e = .returned (.bool (hasS L l)) ∧ w = w' := by
  go_enter Tryz.func36, Tryz.ntmps36
  go_wp2_with fail
  go_loop [5] (fun i => ∃ k : Nat, k ≤ L.length ∧ i = .int .i64 k ∧ l ∉ L.take k) (fun i => L.length - (Go.RowKit.intOf i).toNat)
  case atStart => exact ⟨0, Nat.zero_le _, rfl, by simp⟩
  case round =>
    obtain ⟨k, hk, rfl, hs⟩ := hrel
    by_cases hlt : k < L.length
    · obtain ⟨ad, rfl, _, hc⟩ := Lh.rd_str h hlt
      by_cases he : L[k] = l
      · have hf := hid (show hasS L l = true from hasS_iff.2 (he ▸ List.getElem_mem hlt))
        have t1 : (L[k] == l) = true := by rw [he]; simp
        clear hs he h
        go_wp2_with fail
        go_ret
        exact ⟨by rw [hf.out]; rfl, rfl⟩
      · have t1 : (L[k] == l) = false := by simpa using he
        have hnx := hid (show l ∉ L.take (k + 1) by rw [List.take_succ_eq_append_getElem hlt]; simp only [List.mem_append, List.mem_singleton, not_or]; exact ⟨hs, fun e => he e.symm⟩)
        clear hs he h
        go_wp2_with fail
        go_round
        case rel => exact ⟨k + 1, hlt, by go_num, hnx.out⟩
        case measure => simp [Go.RowKit.intOf]; omega
    · obtain rfl : k = L.length := by omega
      have hf := hid (show hasS L l = false from hasS_false.2 (by rw [List.take_of_length_le (Nat.le_refl _)] at hs; exact hs))
      clear hs h
      go_wp2_with fail
      go_ret
      exact ⟨by rw [hf.out]; rfl, rfl⟩

set_option maxHeartbeats 400000 in
theorem swords_any (w : World) : Calls Tryz.prog 86 #[] w fun e w' => e = .returned (.slice (some ⟨w.heap.size, 0, none⟩) 12 12) ∧ Blk w' w.heap.size 9 (resW.map sv) ∧ Below w.heap.size w w' := by
  go_enter Tryz.func86, Tryz.ntmps86
  go_wp2_with fail
  go_ret
  exact ⟨rfl, Blk.new _ _ _, (Below.refl _ _).alloc (Nat.le_refl _) _⟩
set_option maxHeartbeats 400000 in
theorem sreserved_any (l : List UInt8) (w : World) : Calls Tryz.prog 68 #[.string ⟨l.toArray⟩] w fun e w' => e = .returned (.bool (hasS resW l)) ∧ Below w.heap.size w w' := by
  go_enter Tryz.func68, Tryz.ntmps68
  go_wp2_with fail
  refine (swords_any _).mono ?_
  rintro e w1 ⟨rfl, hs, hb⟩
  have hb := hid hb
  have hs := hid hs
  go_wp2_with fail
  refine (has_any _ 12 resW l _ _ hs.out.rd (by decide)).mono ?_
  rintro e w2 ⟨rfl, rfl⟩
  go_wp2_with fail
  go_ret
  exact ⟨rfl, hb.out⟩

/-- the form of a name -/
def shape : List UInt8 → Bool
  | [] => false
  | c :: r => isLow c && r.all fun x => isLow x || isDig x
def validB (l : List UInt8) : Bool := decide (l.length ≤ 8) && (shape l && !hasS resW l)

theorem shape_take {l : List UInt8} (h0 : 0 < l.length) : shape l = (isLow l[0] && (l.drop 1).all fun x => isLow x || isDig x) := by
  cases l with
  | nil => simp at h0
  | cons c r => rfl
theorem shape_bad {l : List UInt8} {k : Nat} (hk : k < l.length) (h : isLow l[k] = false) (h2 : k = 0 ∨ isDig l[k] = false) : shape l = false := by
  cases l with
  | nil => simp at hk
  | cons c r =>
    cases k with
    | zero => simp at h; simp [shape, h]
    | succ j =>
      have hd : isDig (c :: r)[j + 1] = false := by rcases h2 with h2 | h2; omega; exact h2
      simp only [shape]
      rw [Bool.and_eq_false_iff]
      refine Or.inr (List.all_eq_false.2 ⟨r[j]'(by simpa using hk), List.getElem_mem _, ?_⟩)
      simp only [List.getElem_cons_succ] at h hd
      simp [h, hd]
/-- the first k bytes are fit for a name -/
def okTo (l : List UInt8) (k : Nat) : Prop := ∀ j (h : j < l.length), j < k → isLow l[j] = true ∨ (j ≠ 0 ∧ isDig l[j] = true)
theorem okTo_snoc {l : List UInt8} {k : Nat} (h : okTo l k) (hk : k < l.length) (hc : isLow l[k] = true ∨ (k ≠ 0 ∧ isDig l[k] = true)) : okTo l (k + 1) := by
  intro j hj hjk
  rcases Nat.lt_or_ge j k with hlt | hge
  · exact h j hj hlt
  · obtain rfl : j = k := by omega
    exact hc
theorem shape_good {l : List UInt8} (h0 : 0 < l.length) (h : okTo l l.length) : shape l = true := by
  cases l with
  | nil => simp at h0
  | cons c r =>
    simp only [shape, Bool.and_eq_true, List.all_eq_true]
    refine ⟨?_, ?_⟩
    · rcases h 0 h0 h0 with h1 | h1
      · exact h1
      · exact absurd rfl h1.1
    · intro x hx
      obtain ⟨j, hj, rfl⟩ := List.mem_iff_getElem.1 hx
      rcases h (j + 1) (by simpa using hj) (by simpa using hj) with h1 | h1
      · simp at h1; simp [h1]
      · have := h1.2; simp at this; simp [this]

set_option maxHeartbeats 1000000 in
theorem syntax_any (l : List UInt8) (w : World) (hl : l.length ≤ 9223372036854775807) : Calls Tryz.prog 63 #[.string ⟨l.toArray⟩] w fun e w' => e = .returned (.bool (shape l)) ∧ w = w' := by
  by_cases h0 : l = []
  · subst h0
    go_enter Tryz.func63, Tryz.ntmps63
    go_wp2_with fail
    go_ret
    exact ⟨rfl, rfl⟩
  have he : l.isEmpty = false := by cases l <;> simp_all
  have hpos : 0 < l.length := List.length_pos_iff.2 h0
  have hc0 := hid (fun w => lower_any (({ data := l.toArray } : ByteArray)[0]'hpos) w)
  clear h0
  by_cases h1 : isLow (({ data := l.toArray } : ByteArray)[0]'hpos) = true
  · have h1' := hid (show isLow (l[0]'hpos) = true from h1)
    go_enter Tryz.func63, Tryz.ntmps63
    go_wp2_with fail
    refine (hc0.out _).mono ?_
    rintro e w' ⟨rfl, rfl⟩
    go_wp2_with fail
    go_loop [3] (fun i => ∃ k : Nat, k ≤ l.length ∧ 1 ≤ k ∧ i = .int .i64 k ∧ okTo l k) (fun i => l.length - (Go.RowKit.intOf i).toNat)
    case atStart => exact ⟨1, hpos, Nat.le_refl _, rfl, fun j hj hj1 => by obtain rfl : j = 0 := (by omega); exact Or.inl h1'.out⟩
    case round =>
      obtain ⟨k, hk, hk1, rfl, hok⟩ := hrel
      have hok := hid hok
      clear h1
      by_cases hkl : k < l.length
      · have hck := hid (fun w => lower_any (({ data := l.toArray } : ByteArray)[k]'hkl) w)
        have hdk := hid (fun w => digit_any (({ data := l.toArray } : ByteArray)[k]'hkl) w)
        cases a1 : isLow (({ data := l.toArray } : ByteArray)[k]'hkl) with
        | true =>
          have hnx := hid (okTo_snoc hok.out hkl (Or.inl a1))
          go_wp2_with fail
          refine (hck.out _).mono ?_
          rintro e w' ⟨rfl, rfl⟩
          go_wp2_with fail
          go_round
          case rel => exact ⟨k + 1, hkl, by omega, by go_num, hnx.out⟩
          case measure => simp [Go.RowKit.intOf]; omega
        | false =>
          cases a2 : isDig (({ data := l.toArray } : ByteArray)[k]'hkl) with
          | true =>
            have hnx := hid (okTo_snoc hok.out hkl (Or.inr ⟨by omega, a2⟩))
            go_wp2_with fail
            refine (hck.out _).mono ?_
            rintro e w' ⟨rfl, rfl⟩
            go_wp2_with fail
            refine (hdk.out _).mono ?_
            rintro e w' ⟨rfl, rfl⟩
            go_wp2_with fail
            go_round
            case rel => exact ⟨k + 1, hkl, by omega, by go_num, hnx.out⟩
            case measure => simp [Go.RowKit.intOf]; omega
          | false =>
            have hf := hid (shape_bad (l := l) hkl a1 (Or.inr a2))
            go_wp2_with fail
            refine (hck.out _).mono ?_
            rintro e w' ⟨rfl, rfl⟩
            go_wp2_with fail
            refine (hdk.out _).mono ?_
            rintro e w' ⟨rfl, rfl⟩
            go_wp2_with fail
            go_ret
            exact ⟨by rw [hf.out]; rfl, rfl⟩
      · obtain rfl : k = l.length := by omega
        have hf := hid (shape_good hpos hok.out)
        go_wp2_with fail
        go_ret
        exact ⟨by rw [hf.out]; rfl, rfl⟩
  · have h1 : isLow (({ data := l.toArray } : ByteArray)[0]'hpos) = false := by simpa using h1
    have hf := hid (shape_bad hpos (show isLow (l[0]'hpos) = false from h1) (Or.inl rfl))
    go_enter Tryz.func63, Tryz.ntmps63
    go_wp2_with fail
    refine (hc0.out _).mono ?_
    rintro e w' ⟨rfl, rfl⟩
    go_wp2_with fail
    go_ret
    exact ⟨by rw [hf.out]; rfl, rfl⟩

set_option maxHeartbeats 400000 in
theorem valid_any (l : List UInt8) (w : World) (hl : l.length ≤ 9223372036854775807) : Calls Tryz.prog 44 #[.string ⟨l.toArray⟩] w fun e w' => e = .returned (.bool (validB l)) ∧ Below w.heap.size w w' := by
  by_cases h1 : l.length ≤ 8
  · have t1 : decide ((l.length : Int) ≤ 8) = true := decide_eq_true (by omega)
    have hs := hid (fun w => syntax_any l w hl)
    cases a1 : shape l with
    | true =>
      have hr := hid (fun w => reserved_any l w (by unfold maxLen; omega))
      have hf := hid (show validB l = !hasS resW l by unfold validB; rw [a1, decide_eq_true h1]; rfl)
      go_enter Tryz.func44, Tryz.ntmps44
      go_wp2_with fail
      refine (hs.out _).mono ?_
      rintro e w' ⟨rfl, rfl⟩
      go_wp2_with fail
      refine (hr.out _).mono ?_
      rintro e w1 ⟨rfl, hb⟩
      go_wp2_with fail
      go_ret
      exact ⟨by rw [hf.out]; rfl, hb⟩
    | false =>
      have hf := hid (show validB l = false by unfold validB; rw [a1, decide_eq_true h1]; rfl)
      go_enter Tryz.func44, Tryz.ntmps44
      go_wp2_with fail
      refine (hs.out _).mono ?_
      rintro e w' ⟨rfl, rfl⟩
      go_wp2_with fail
      go_ret
      exact ⟨by rw [hf.out]; rfl, Below.refl _ _⟩
  · have t1 : decide ((l.length : Int) ≤ 8) = false := decide_eq_false (by omega)
    have hf := hid (show validB l = false by unfold validB; rw [decide_eq_false h1]; rfl)
    go_enter Tryz.func44, Tryz.ntmps44
    go_wp2_with fail
    go_ret
    exact ⟨by rw [hf.out]; rfl, Below.refl _ _⟩
end Go.Proofs.YtklcbagddijkgaaGreat.C2

/- Chapter 2: names in lists, of the program and of the model (all but the sorting). -/
set_option maxRecDepth 100000
namespace Go.Proofs.YtklcbagddijkgaaGreat.C2
open Go.RowKit Go.Lib Go.Proofs.YtklcbagddijkgaaGreat.Num Go.Proofs.YtklcbagddijkgaaGreat.Com Go.Proofs.YtklcbagddijkgaaGreat.Mem Go.Proofs.YtklcbagddijkgaaGreat.Mp Go.Proofs.YtklcbagddijkgaaGreat.Ch Go.Proofs.YtklcbagddijkgaaGreat.Ow

theorem cls (c : UInt8) :
    (decide ((97 : Int) ≤ (c.toNat : Int)) = false ∧ decide ((48 : Int) ≤ (c.toNat : Int)) = false ∧ isLow c = false ∧ isDig c = false) ∨
    (decide ((97 : Int) ≤ (c.toNat : Int)) = false ∧ decide ((48 : Int) ≤ (c.toNat : Int)) = true ∧ decide ((c.toNat : Int) ≤ 57) = true ∧ isLow c = false ∧ isDig c = true) ∨
    (decide ((97 : Int) ≤ (c.toNat : Int)) = false ∧ decide ((48 : Int) ≤ (c.toNat : Int)) = true ∧ decide ((c.toNat : Int) ≤ 57) = false ∧ isLow c = false ∧ isDig c = false) ∨
    (decide ((97 : Int) ≤ (c.toNat : Int)) = true ∧ decide ((c.toNat : Int) ≤ 122) = true ∧ decide ((48 : Int) ≤ (c.toNat : Int)) = true ∧ decide ((c.toNat : Int) ≤ 57) = false ∧ isLow c = true) ∨
    (decide ((97 : Int) ≤ (c.toNat : Int)) = true ∧ decide ((c.toNat : Int) ≤ 122) = false ∧ decide ((48 : Int) ≤ (c.toNat : Int)) = true ∧ decide ((c.toNat : Int) ≤ 57) = false ∧ isLow c = false ∧ isDig c = false) := by
  simp only [isLow, isDig, decide_eq_false_iff_not, decide_eq_true_eq, Bool.and_eq_false_iff, Bool.and_eq_true]
  omega

set_option maxHeartbeats 1000000 in
theorem sshape_any (l : List UInt8) (w : World) (hl : l.length ≤ 9223372036854775807) : Calls Tryz.prog 67 #[.string ⟨l.toArray⟩] w fun e w' => e = .returned (.bool (shape l)) ∧ w = w' := by
  go_enter Tryz.func67, Tryz.ntmps67
  go_wp2_with fail
  go_loop [3] (fun i => ∃ k : Nat, k ≤ l.length ∧ i = .int .i64 k ∧ okTo l k) (fun i => l.length - (Go.RowKit.intOf i).toNat)
  case atStart => exact ⟨0, Nat.zero_le _, rfl, fun j _ hj => by omega⟩
  case round =>
    obtain ⟨k, hk, rfl, hok⟩ := hrel
    have hok := hid hok
    by_cases hkl : k < l.length
    · have hlow := hid (fun h => okTo_snoc hok.out hkl (Or.inl h))
      have hdig := hid (fun h1 h2 => okTo_snoc hok.out hkl (Or.inr ⟨h1, h2⟩))
      have hbad := hid (fun h1 h2 => shape_bad (l := l) hkl h1 h2)
      have hc := cls (({ data := l.toArray } : ByteArray)[k]'hkl)
      rcases hc with ⟨t1, t2, a1, a2⟩ | ⟨t1, t2, t3, a1, a2⟩ | ⟨t1, t2, t3, a1, a2⟩ | ⟨t1, t2, t3, t4, a1⟩ | ⟨t1, t2, t3, t4, a1, a2⟩
      · have hf := hid (hbad.out a1 (Or.inr a2))
        clear a1 a2
        go_wp2_with fail
        all_goals
          go_ret
          exact ⟨by rw [hf.out]; rfl, rfl⟩
      · by_cases h0 : k = 0
        · subst h0
          have hf := hid (hbad.out a1 (Or.inl rfl))
          clear a1 a2
          go_wp2_with fail
          go_ret
          exact ⟨by rw [hf.out]; rfl, rfl⟩
        · have hnx := hid (hdig.out h0 a2)
          have hk0 : ((k : Int) == 0) = false := by rw [beq_eq_false_iff_ne]; omega
          clear a1 a2
          go_wp2_with fail
          go_round
          case rel => exact ⟨k + 1, hkl, by go_num, hnx.out⟩
          case measure => simp [Go.RowKit.intOf]; omega
      · have hf := hid (hbad.out a1 (Or.inr a2))
        clear a1 a2
        go_wp2_with fail
        all_goals
          go_ret
          exact ⟨by rw [hf.out]; rfl, rfl⟩
      · have hnx := hid (hlow.out a1)
        clear a1
        go_wp2_with fail
        go_round
        case rel => exact ⟨k + 1, hkl, by go_num, hnx.out⟩
        case measure => simp [Go.RowKit.intOf]; omega
      · have hf := hid (hbad.out a1 (Or.inr a2))
        clear a1 a2
        go_wp2_with fail
        all_goals
          go_ret
          exact ⟨by rw [hf.out]; rfl, rfl⟩
    · obtain rfl : k = l.length := by omega
      by_cases h0 : l = []
      · subst h0
        go_wp2_with fail
        go_ret
        exact ⟨rfl, rfl⟩
      · have hpos : 0 < l.length := List.length_pos_iff.2 h0
        have t1 : decide (0 < (l.length : Int)) = true := decide_eq_true (by omega)
        have hf := hid (shape_good hpos hok.out)
        clear h0
        go_wp2_with fail
        go_ret
        exact ⟨by rw [hf.out]; rfl, rfl⟩
set_option maxHeartbeats 400000 in
theorem svalid_any (l : List UInt8) (w : World) (hl : l.length ≤ 9223372036854775807) : Calls Tryz.prog 47 #[.string ⟨l.toArray⟩] w fun e w' => e = .returned (.bool (validB l)) ∧ Below w.heap.size w w' := by
  have hs := hid (fun w => sshape_any l w hl)
  cases a1 : shape l with
  | false =>
    have hf := hid (show validB l = false by unfold validB; rw [a1]; simp)
    go_enter Tryz.func47, Tryz.ntmps47
    go_wp2_with fail
    refine (hs.out _).mono ?_
    rintro e w' ⟨rfl, rfl⟩
    go_wp2_with fail
    go_ret
    exact ⟨by rw [hf.out]; rfl, Below.refl _ _⟩
  | true =>
    by_cases h1 : l.length ≤ 8
    · have t1 : decide ((l.length : Int) ≤ 8) = true := decide_eq_true (by omega)
      have hr := hid (fun w => sreserved_any l w)
      have hf := hid (show validB l = !hasS resW l by unfold validB; rw [a1, decide_eq_true h1]; rfl)
      go_enter Tryz.func47, Tryz.ntmps47
      go_wp2_with fail
      refine (hs.out _).mono ?_
      rintro e w' ⟨rfl, rfl⟩
      go_wp2_with fail
      refine (hr.out _).mono ?_
      rintro e w1 ⟨rfl, hb⟩
      go_wp2_with fail
      go_ret
      exact ⟨by rw [hf.out]; rfl, hb⟩
    · have t1 : decide ((l.length : Int) ≤ 8) = false := decide_eq_false (by omega)
      have hf := hid (show validB l = false by unfold validB; rw [decide_eq_false h1]; rfl)
      go_enter Tryz.func47, Tryz.ntmps47
      go_wp2_with fail
      refine (hs.out _).mono ?_
      rintro e w' ⟨rfl, rfl⟩
      go_wp2_with fail
      go_ret
      exact ⟨by rw [hf.out]; rfl, Below.refl _ _⟩

/-- the place of the first element that is l, or -1 -/
def ixOf : List (List UInt8) → List UInt8 → Int
  | [], _ => -1
  | x :: r, l => if x = l then 0 else if ixOf r l < 0 then -1 else ixOf r l + 1
theorem ixOf_none {L : List (List UInt8)} {l : List UInt8} (h : l ∉ L) : ixOf L l = -1 := by
  induction L with
  | nil => rfl
  | cons x r ih =>
    simp only [List.mem_cons, not_or] at h
    simp only [ixOf]
    rw [if_neg (fun e => h.1 e.symm), ih h.2]; rfl
theorem ixOf_at {L : List (List UInt8)} {l : List UInt8} : ∀ {k : Nat} (hk : k < L.length), L[k] = l → l ∉ L.take k → ixOf L l = k := by
  induction L with
  | nil => intro k hk; simp at hk
  | cons x r ih =>
    intro k hk h1 h2
    cases k with
    | zero => simp at h1; simp [ixOf, h1]
    | succ j =>
      simp only [List.take_succ_cons, List.mem_cons, not_or] at h2
      have := ih (k := j) (by simpa using hk) (by simpa using h1) h2.2
      simp only [ixOf]
      rw [if_neg (fun e => h2.1 e.symm), this, if_neg (by omega)]
      omega
theorem ixOf_neg {L : List (List UInt8)} {l : List UInt8} : (ixOf L l < 0) ↔ l ∉ L := by
  induction L with
  | nil => simp [ixOf]
  | cons x r ih =>
    simp only [ixOf, List.mem_cons, not_or]
    by_cases h : x = l
    · simp [h]
    · rw [if_neg h]
      by_cases h2 : ixOf r l < 0
      · rw [if_pos h2]; exact ⟨fun _ => ⟨fun e => h e.symm, ih.1 h2⟩, fun _ => by omega⟩
      · rw [if_neg h2]; exact ⟨fun h3 => by omega, fun h3 => absurd (ih.2 h3.2) h2⟩
theorem ixOf_bd (L : List (List UInt8)) (l : List UInt8) : -1 ≤ ixOf L l ∧ ixOf L l < L.length := by
  induction L with
  | nil => simp [ixOf]
  | cons x r ih =>
    simp only [ixOf, List.length_cons]
    split
    · omega
    · split <;> omega

set_option maxHeartbeats 400000 in
theorem sindex_any (A : Option Addr) (c : Nat) (L : List (List UInt8)) (l : List UInt8) (w : World) (B : Nat) (h : Rd w B A (L.map sv)) (hn : L.length ≤ 9223372036854775807) :
    Calls Tryz.prog 70 #[.slice A L.length c, .string ⟨l.toArray⟩] w fun e w' => e = .returned (.int .i64 (ixOf L l)) ∧ w = w' := by
  go_enter Tryz.func70, Tryz.ntmps70
  go_wp2_with fail
  go_loop [5] (fun i => ∃ k : Nat, k ≤ L.length ∧ i = .int .i64 k ∧ l ∉ L.take k) (fun i => L.length - (Go.RowKit.intOf i).toNat)
  case atStart => exact ⟨0, Nat.zero_le _, rfl, by simp⟩
  case round =>
    obtain ⟨k, hk, rfl, hs⟩ := hrel
    by_cases hlt : k < L.length
    · obtain ⟨ad, rfl, _, hc⟩ := Lh.rd_str h hlt
      by_cases he : L[k] = l
      · have hf := hid (ixOf_at hlt he hs)
        have t1 : (L[k] == l) = true := by rw [he]; simp
        clear hs he h
        go_wp2_with fail
        go_ret
        exact ⟨by rw [hf.out]; rfl, rfl⟩
      · have t1 : (L[k] == l) = false := by simpa using he
        have hnx := hid (show l ∉ L.take (k + 1) by rw [List.take_succ_eq_append_getElem hlt]; simp only [List.mem_append, List.mem_singleton, not_or]; exact ⟨hs, fun e => he e.symm⟩)
        clear hs he h
        go_wp2_with fail
        go_round
        case rel => exact ⟨k + 1, hlt, by go_num, hnx.out⟩
        case measure => simp [Go.RowKit.intOf]; omega
    · obtain rfl : k = L.length := by omega
      have hf := hid (show ixOf L l = -1 from ixOf_none (by rw [List.take_of_length_le (Nat.le_refl _)] at hs; exact hs))
      clear hs h
      go_wp2_with fail
      go_ret
      exact ⟨by rw [hf.out]; rfl, rfl⟩

/-- are all different? -/
def distB (L : List (List UInt8)) : Bool := decide L.Nodup
set_option maxHeartbeats 1000000 in
theorem setOf_any (A : Option Addr) (c : Nat) (L : List (List UInt8)) (w : World) (h : Rd w w.heap.size A (L.map sv)) (hm : ∀ x ∈ L, x.length ≤ 9223372036854775807) (hn : L.length ≤ 9223372036854775807) :
    Calls Tryz.prog 62 #[.slice A L.length c] w fun e w' => e = .returned (.map (some w.heap.size)) ∧ SetIs w' w.heap.size L.length L ∧ Below w.heap.size w w' := by
  have hmm := fun w => made_hint (L.length : Int) w
  go_enter Tryz.func62, Tryz.ntmps62
  go_wp2_with fail
  clear hmm
  go_loopw [11] (fun i wr => ∃ k : Nat, k ≤ L.length ∧ i = .int .i64 k ∧ SetIs wr w.heap.size k (L.take k) ∧ Below w.heap.size w wr) (fun i _ => L.length - (Go.RowKit.intOf i).toNat)
  case atStart => exact ⟨0, Nat.zero_le _, rfl, SetIs.made w, (Below.refl _ _).alloc (Nat.le_refl _) _⟩
  case round =>
    obtain ⟨k, hk, rfl, hs, hb⟩ := hrel
    by_cases hlt : k < L.length
    · obtain ⟨ad, rfl, _, hc⟩ := Lh.rd_str (h.below hb) hlt
      have hml := hm _ (List.getElem_mem hlt)
      have hst := hid (List.take_succ_eq_append_getElem hlt)
      clear h
      go_wp2_with (refine wpList_put rfl _ _ _ (Or.inr rfl) w.heap.size k (L.take k) hs (by unfold maxLen; omega) L[k] (by unfold maxLen; omega) rfl rfl rfl ?_; intro w1 hs1 hg1)
      refine ⟨⟨k + 1, hlt, by go_num, by rw [hst.out]; exact hs1, hb.grown hg1 hb.size (fun j hj => by cases hj; exact Nat.le_refl _)⟩, by simp [Go.RowKit.intOf]; omega⟩
    · obtain rfl : k = L.length := by omega
      rw [List.take_of_length_le (Nat.le_refl _)] at hs
      go_wp2_with fail
      go_ret
      exact ⟨rfl, hs, hb⟩
set_option maxHeartbeats 400000 in
theorem distinct_any (A : Option Addr) (c : Nat) (L : List (List UInt8)) (w : World) (h : Rd w w.heap.size A (L.map sv)) (hm : ∀ x ∈ L, x.length ≤ 9223372036854775807) (hn : L.length ≤ 9223372036854775807) :
    Calls Tryz.prog 43 #[.slice A L.length c] w fun e w' => e = .returned (.bool (distB L)) ∧ Below w.heap.size w w' := by
  have hset := hid (setOf_any A c L w h hm hn)
  have hu := uniq_nodup L
  clear h hm
  by_cases hd : L.Nodup
  · have t1 : (((uniq L).length : Int) == (L.length : Int)) = true := by rw [hu.2 hd]; exact beq_self_eq_true _
    have hf := hid (show distB L = true from decide_eq_true hd)
    clear hu hd
    go_enter Tryz.func43, Tryz.ntmps43
    go_wp2_with fail
    refine hset.out.mono ?_
    rintro e w1 ⟨rfl, hs, hb⟩
    have hb := hid hb
    go_wp2_with (refine wpList_size rfl _ rfl _ _ _ hs rfl ?_)
    go_ret
    exact ⟨by rw [hf.out]; rfl, hb.out⟩
  · have t1 : (((uniq L).length : Int) == (L.length : Int)) = false := by
      rw [beq_eq_false_iff_ne]; intro e; exact hd (hu.1 (by omega))
    have hf := hid (show distB L = false from decide_eq_false hd)
    clear hu hd
    go_enter Tryz.func43, Tryz.ntmps43
    go_wp2_with fail
    refine hset.out.mono ?_
    rintro e w1 ⟨rfl, hs, hb⟩
    have hb := hid hb
    go_wp2_with (refine wpList_size rfl _ rfl _ _ _ hs rfl ?_)
    go_ret
    exact ⟨by rw [hf.out]; rfl, hb.out⟩
theorem quietL {P : Program} {f : FuncId} {args : Array Value} {w : World} {n : Nat} {v : Value} (h : ∀ W : World, W.heap = w.heap → Calls P f args W fun e w' => e = .returned v ∧ W = w') :
    Calls P f args (w.drewN n) fun e w'' => e = .returned v ∧ ∃ m, w'' = w.drewN m := (h (w.drewN n) rfl).mono fun _ _ ⟨he, hm⟩ => ⟨he, n, hm.symm⟩
theorem nodup_take {L : List (List UInt8)} {k : Nat} (hk : k < L.length) (h : (L.take k).Nodup) (hn : L[k] ∉ L.take k) : (L.take (k + 1)).Nodup := by
  rw [List.take_succ_eq_append_getElem hk, List.nodup_append]
  refine ⟨h, by simp, ?_⟩
  rintro x hx y hy rfl
  rw [List.mem_singleton] at hy; subst hy; exact hn hx
set_option maxHeartbeats 1000000 in
theorem sdistinct_any (A : Option Addr) (c : Nat) (L : List (List UInt8)) (w : World) (h : Rd w w.heap.size A (L.map sv)) (hcap : L.length ≤ c) (hn : L.length ≤ 9223372036854775807) :
    Calls Tryz.prog 48 #[.slice A L.length c] w fun e w' => e = .returned (.bool (distB L)) ∧ Below w.heap.size w w' := by
  go_enter Tryz.func48, Tryz.ntmps48
  go_wp2_with fail
  go_loopw [3] (fun i wr => ∃ k : Nat, k ≤ L.length ∧ i = .int .i64 k ∧ (L.take k).Nodup ∧ Below w.heap.size w wr) (fun i _ => L.length - (Go.RowKit.intOf i).toNat)
  case atStart => exact ⟨0, Nat.zero_le _, rfl, by simp, Below.refl _ _⟩
  case round =>
    obtain ⟨k, hk, rfl, hd, hb⟩ := hrel
    by_cases hlt : k < L.length
    · have hr := h.below hb
      obtain ⟨ad, rfl, _, hc⟩ := Lh.rd_str hr hlt
      have hrk : Rd wr w.heap.size (some ad) ((L.take k).map sv) := fun hne => by
        obtain ⟨ad', e1, hB, hcs⟩ := hr (by intro e; rw [List.map_eq_nil_iff] at e; subst e; simp at hlt)
        refine ⟨ad', e1, hB, fun j u hu => hcs j u ?_⟩
        rw [List.map_take, List.getElem?_take] at hu
        split at hu
        · exact hu
        · cases hu
      have hcall := (fun (W : World) (hW : W.heap = wr.heap) => by
        have := has_any (some ad) c (L.take k) L[k] W w.heap.size (fun hne => by
          obtain ⟨ad', e1, hB, hcs⟩ := hrk hne
          exact ⟨ad', e1, hB, fun j u hu => by have := hcs j u hu; unfold World.cell? at this ⊢; rw [hW]; exact this⟩) (by rw [List.length_take]; omega)
        rwa [List.length_take, Nat.min_eq_left (by omega)] at this)
      have hq : k ≤ c := by omega
      cases hh : hasS (L.take k) L[k] with
      | true =>
        simp only [hh] at hcall
        have hcall := hid hcall
        have hf := hid (show distB L = false from decide_eq_false (fun hnd => by
          have hm := hasS_iff.1 hh
          rw [← List.take_append_drop (k + 1) L, List.take_succ_eq_append_getElem hlt] at hnd
          have := (List.nodup_append.1 (List.nodup_append.1 hnd).1).2.2 _ hm _ (List.mem_singleton.2 rfl)
          exact this rfl))
        have hd := hid hd
        clear h hr hrk
        go_wp2_with fail
        go_quiet ((go_at_call 36; exact quietL hcall.out))
        go_wp2_with fail
        go_ret
        exact ⟨by rw [hf.out]; rfl, bdr hb nq⟩
      | false =>
        simp only [hh] at hcall
        have hcall := hid hcall
        have hnx := hid (nodup_take hlt hd (hasS_false.1 hh))
        have hd := hid hd
        clear h hr hrk
        go_wp2_with fail
        go_quiet ((go_at_call 36; exact quietL hcall.out))
        go_wp2_with fail
        exact ⟨⟨k + 1, hlt, by go_num, hnx.out, bdr hb nq⟩, by simp [Go.RowKit.intOf]; omega⟩
    · obtain rfl : k = L.length := by omega
      have hf := hid (show distB L = true from decide_eq_true (by rw [List.take_of_length_le (Nat.le_refl _)] at hd; exact hd))
      clear hd h
      go_wp2_with fail
      go_ret
      exact ⟨by rw [hf.out]; rfl, hb⟩

/-- those that are not to be removed -/
def keepS (L R : List (List UInt8)) : List (List UInt8) := L.filter fun x => !hasS R x
theorem keep_snoc {L R : List (List UInt8)} {k : Nat} (hk : k < L.length) : keepS (L.take (k + 1)) R = keepS (L.take k) R ++ if hasS R L[k] then [] else [L[k]] := by
  unfold keepS
  rw [List.take_succ_eq_append_getElem hk, List.filter_append]
  cases h : hasS R L[k] <;> simp [h]
theorem keep_len (L R : List (List UInt8)) : (keepS L R).length ≤ L.length := List.length_filter_le _ _

theorem set_apart {e : TypeId} {w0 w : World} {v : Value} {xs : List Value} {b n : Nat} {S : List (List UInt8)} (h : Grow e w0 w v xs) (hs : SetIs w b n S) : v.ownBlock ≠ some b := by
  obtain ⟨es, clock, hx, _⟩ := hs
  rcases h.1.2 with ⟨rfl, _⟩ | ⟨g, c, cur, rfl, _, hblk, _⟩
  · simp [Value.ownBlock]
  · intro e1
    obtain rfl : g = b := by simpa [Value.ownBlock] using e1
    rw [hx] at hblk; cases hblk
set_option maxHeartbeats 1000000 in
theorem without_any (A1 A2 : Option Addr) (c1 c2 : Nat) (L R : List (List UInt8)) (w : World) (h1 : Rd w w.heap.size A1 (L.map sv)) (h2 : Rd w w.heap.size A2 (R.map sv)) (hmL : ∀ x ∈ L, x.length ≤ 9223372036854775807) (hmR : ∀ x ∈ R, x.length ≤ 9223372036854775807)
    (hn1 : L.length ≤ 1048576) (hn2 : R.length ≤ 9223372036854775807) :
    Calls Tryz.prog 84 #[.slice A1 L.length c1, .slice A2 R.length c2] w fun e w' => ∃ v, e = .returned v ∧ Grow 9 w w' v ((keepS L R).map sv) := by
  have hset := hid (setOf_any A2 c2 R w h2 hmR hn2)
  clear h2 hmR
  go_enter Tryz.func84, Tryz.ntmps84
  go_wp2_with fail
  refine hset.out.mono ?_
  rintro e w1 ⟨rfl, hs, hb⟩
  have hs := hid hs
  have hb := hid hb
  go_wp2_with fail
  go_loopw [6, 13] (fun o i wr => ∃ k : Nat, k ≤ L.length ∧ i = .int .i64 k ∧ Grow 9 w wr o ((keepS (L.take k) R).map sv) ∧ SetIs wr w.heap.size R.length R) (fun _ i _ => L.length - (Go.RowKit.intOf i).toNat)
  case atStart => exact ⟨0, Nat.zero_le _, rfl, Grow.nil_ _ _ hb.out, hs.out⟩
  case round =>
    obtain ⟨k, hk, rfl, hg, hs⟩ := hrel
    by_cases hlt : k < L.length
    · obtain ⟨ad, rfl, _, hc⟩ := Lh.rd_str (h1.below hg.2) hlt
      have hml := hmL _ (List.getElem_mem hlt)
      have hst := hid (keep_snoc (R := R) hlt)
      have hkl := keep_len (L.take k) R
      have hg := hid hg
      clear h1 hset
      cases hh : hasS R L[k] with
      | true =>
        rw [hh] at hst
        go_wp2_with (refine wpList_has rfl _ _ rfl w.heap.size R.length R hs L[k] (by unfold maxLen; omega) rfl rfl ?_)
        exact ⟨⟨k + 1, hlt, by go_num, by rw [hst.out]; simpa using hg.out, hs⟩, by simp [Go.RowKit.intOf]; omega⟩
      | false =>
        rw [hh] at hst
        have hkl' : ((keepS (L.take k) R).map sv).length < 1000000000000 := by rw [List.length_map]; rw [List.length_take] at hkl; omega
        have hob := hid (set_apart hg.out hs)
        go_wp2_with (first | (refine wpList_has rfl _ _ rfl w.heap.size R.length R hs L[k] (by unfold maxLen; omega) rfl rfl ?_) | (at_builtin; refine hg.out.append strT (sv L[k]) rfl hkl' rfl _ _ rfl rfl rfl ?_; intro v1 w1 hg1 hgb hv1))
        exact ⟨⟨k + 1, hlt, by go_num, by rw [hst.out, List.map_append]; exact hg1, hs.kept hgb (fun e => hob.out e.symm)⟩, by simp [Go.RowKit.intOf]; omega⟩
    · obtain rfl : k = L.length := by omega
      rw [List.take_of_length_le (Nat.le_refl _)] at hg
      go_wp2_with fail
      go_ret
      exact ⟨_, rfl, hg⟩
end Go.Proofs.YtklcbagddijkgaaGreat.C2
