/- Maps that the call itself makes: a set of strings (map[string]bool). -/
import Derived.Test.YteglampoceponaaDoorZCom
import Derived.Maps.OwnSet
import Derived.StringKeys
set_option maxRecDepth 100000
namespace Go.Proofs.YteglampoceponaaDoor.Mp
open Go.RowKit Go.Maps Go.Proofs.YteglampoceponaaDoor.Mem

theorem keyS : Keyed Tryd.prog 9 := string_keyed Tryd.underlying9
theorem zeroB (w : World) : (zeroValue 4).run Tryd.prog w = .ok (.bool false) w := by kernel_rfl

/-- is it there? -/
def hasS (S : List (List UInt8)) (l : List UInt8) : Bool := S.contains l
theorem hasS_iff {S : List (List UInt8)} {l : List UInt8} : hasS S l = true ↔ l ∈ S := by simp [hasS]
theorem hasS_false {S : List (List UInt8)} {l : List UInt8} : hasS S l = false ↔ l ∉ S := by simp [hasS]

def strs (S : List (List UInt8)) : List Lit := S.map Lit.string
def setD (S : List (List UInt8)) : DataW Unit := setOf (.lit (.bool true)) (strs S)
/-- block b is a map of at most n entries: the set S -/
def SetIs (w : World) (b n : Nat) (S : List (List UInt8)) : Prop := w.ownsMap (H := Unit) Tryd.prog 9 (plainElem Tryd.prog 4) b n (setD S)

theorem keys_str (S : List (List UInt8)) : ∀ x ∈ strs S, WideAt.IsKeyLit x := by
  intro x hx
  obtain ⟨l, _, rfl⟩ := List.mem_map.1 hx
  trivial

theorem sameKey_str (a b : List UInt8) : (Lit.string a).sameKey (.string b) = (a == b) := by
  by_cases h : a = b
  · subst h; rw [WideAt.sameKey_self (keys_str [a] _ (by simp [strs]))]; simp
  · rw [sameKey_ne (by simpa using h)]; simp [h]

theorem setD_snoc (S : List (List UInt8)) (l : List UInt8) : setD (S ++ [l]) = (setD S).put (.string l) (.lit (.bool true)) := by
  unfold setD strs; rw [List.map_append]; exact setOf_snoc _ _ _

theorem put_ind (S : List (List UInt8)) (l : List UInt8) : ∀ (m : DataW Unit), IsMap m → (strs S |>.foldl (fun m x => m.put x (.lit (.bool true))) m).atKey (.string l) (.lit (.bool false)) = if S.contains l then .lit (.bool true) else m.atKey (.string l) (.lit (.bool false)) := by
  induction S with
  | nil => intro m _; rfl
  | cons x r ih =>
    intro m hm
    show (List.foldl _ (m.put (.string x) _) (strs r)).atKey _ _ = _
    rw [ih _ (hm.put _ _)]
    by_cases e : l = x
    · subst e
      rw [atKey_put_same hm (keys_str [l] _ (by simp [strs]))]
      simp
    · rw [atKey_put_other (by simpa using e)]
      have : (x :: r).contains l = r.contains l := by simp [e]
      rw [this]

theorem setD_at (S : List (List UInt8)) (l : List UInt8) : (setD S).atKey (.string l) (.lit (.bool false)) = .lit (.bool (hasS S l)) := by
  have := put_ind S l _ isMap_empty
  unfold setD setOf
  rw [this]
  unfold hasS
  cases h : S.contains l
  · rfl
  · rfl

/-- how many different ones -/
def addK (acc : List (List UInt8)) (x : List UInt8) : List (List UInt8) := if acc.contains x then acc else acc ++ [x]
def uniq (S : List (List UInt8)) : List (List UInt8) := S.foldl addK []

theorem fold_strs (S : List (List UInt8)) : ∀ L, (strs S).foldl addKey (strs L) = strs (S.foldl addK L) := by
  induction S with
  | nil => intro L; rfl
  | cons x r ih =>
    intro L
    show (strs r).foldl addKey (addKey (strs L) (.string x)) = strs (r.foldl addK (addK L x))
    rw [← ih]
    congr 1
    unfold addKey addK
    have : (strs L).any (fun y => y.sameKey (.string x)) = L.contains x := by
      rw [Bool.eq_iff_iff]
      simp only [List.any_eq_true, List.contains_iff_mem]
      constructor
      · rintro ⟨y, hy, hs⟩
        obtain ⟨l, hl, rfl⟩ := List.mem_map.1 hy
        rw [sameKey_str] at hs
        rw [← (beq_iff_eq.1 hs)]; exact hl
      · intro h
        exact ⟨_, List.mem_map.2 ⟨x, h, rfl⟩, by rw [sameKey_str]; simp⟩
    rw [this]
    split
    · rfl
    · simp [strs]

theorem setD_size (S : List (List UInt8)) : size (setD S) = (uniq S).length := by
  unfold setD
  rw [size_setOf _ _ (keys_str S)]
  have := fold_strs S []
  rw [show strs [] = [] from rfl] at this
  rw [this]; simp [strs, uniq]

section
variable {w w' : World} {b n : Nat} {S : List (List UInt8)}
theorem SetIs.lt (h : SetIs w b n S) : b < w.heap.size := World.ownsMap.lt h
theorem SetIs.alloc (h : SetIs w b n S) (o : Obj) : SetIs (w.alloc o) b n S := World.ownsMap.alloc h o
theorem SetIs.kept {row : Option Nat} (h : SetIs w b n S) (hg : w.grownBy w' row) (hne : some b ≠ row) : SetIs w' b n S := World.ownsMap.kept h hg hne
theorem SetIs.below {B : Nat} (h : SetIs w b n S) (hb : Below B w w') (hlt : b < B) : SetIs w' b n S := by
  obtain ⟨es, clock, hx, r⟩ := h
  exact ⟨es, clock, (hb.block b hlt).trans hx, r⟩
theorem SetIs.made (w : World) : SetIs (w.alloc (.map #[] 0)) w.heap.size 0 [] := World.ownsMap_made w _ _ _

theorem key_at {l : List UInt8} (hl : l.length ≤ maxLen) : keyOf Tryd.prog 9 (.string ⟨l.toArray⟩) = some (.string l) := by
  have := WideMaps.keyOf_string_mk (P := Tryd.prog) Tryd.underlying9 (s := ⟨l.toArray⟩) (by simpa [ByteArray.size] using hl)
  simpa using this

theorem SetIs.look (h : SetIs w b n S) {l : List UInt8} (hl : l.length ≤ maxLen) : (Instr.lookup 83 (.map (some b)) (.string ⟨l.toArray⟩) false).run Tryd.prog w = .ok (.bool (hasS S l)) w := by
  obtain ⟨v, ps, hrun, hv⟩ := World.ownsMap.lookup h keyS Tryd.underlying83 (zeroB w) (plainElem_bool Tryd.underlying4 false) (key_at hl)
  rw [setD_at] at hv
  have : v = .bool (hasS S l) := by
    unfold plainElem at hv
    rw [Tryd.underlying4] at hv
    cases v <;> simp at hv
    rw [hv.1]
  rw [hrun, this]

theorem SetIs.put (h : SetIs w b n S) (hn : n < maxLen) {l : List UInt8} (hl : l.length ≤ maxLen) :
    ∃ w', (Instr.mapUpdate 83 (.map (some b)) (.string ⟨l.toArray⟩) (.bool true)).run Tryd.prog w = .ok () w' ∧ SetIs w' b (n + 1) (S ++ [l]) ∧ w.grownBy w' (some b) := by
  have := World.ownsMap.update (d := .lit (.bool true)) (ps := []) h keyS Tryd.underlying83 hn (key_at hl) (plainElem_bool Tryd.underlying4 true)
  obtain ⟨w', h1, h2, h3⟩ := this
  exact ⟨w', h1, by unfold SetIs; rw [setD_snoc]; exact h2, h3⟩

theorem SetIs.len (h : SetIs w b n S) (ty : TypeId) : (Builtin.len_ #[83] ty #[.map (some b)]).run Tryd.prog w = .ok (.int .i64 ((uniq S).length : Nat)) w := by
  have := World.ownsMap.len h Tryd.underlying83 ty
  rw [setD_size] at this
  exact this
end

/-- make(map[string]bool, n) -/
theorem made_hint (n : Int) (w : World) : (Instr.makeMap 83 (some (.int .i64 n))).run Tryd.prog w = .ok (.map (some w.heap.size)) (w.alloc (.map #[] 0)) := by
  simp [Instr.makeMap, run_underlying Tryd.underlying83]; rfl

/-- all are different just if the set has as many -/
theorem fold_len (S : List (List UInt8)) : ∀ acc : List (List UInt8), (S.foldl addK acc).length ≤ acc.length + S.length ∧ ((S.foldl addK acc).length = acc.length + S.length ↔ S.Nodup ∧ ∀ x ∈ S, x ∉ acc) := by
  induction S with
  | nil => intro acc; simp
  | cons x r ih =>
    intro acc
    have hi := ih (addK acc x)
    rw [List.foldl_cons]
    by_cases hx : x ∈ acc
    · have e : addK acc x = acc := by unfold addK; rw [if_pos (by simpa using hx)]
      rw [e] at hi ⊢
      refine ⟨by simp only [List.length_cons]; omega, ⟨fun h => ?_, fun h => absurd hx (h.2 x (by simp))⟩⟩
      simp only [List.length_cons] at h; omega
    · have e : addK acc x = acc ++ [x] := by unfold addK; rw [if_neg (by simpa using hx)]
      rw [e] at hi ⊢
      simp only [List.length_append, List.length_cons, List.length_nil] at hi ⊢
      refine ⟨by omega, ?_⟩
      rw [show acc.length + (r.length + 1) = acc.length + (0 + 1) + r.length by omega, hi.2]
      simp only [List.nodup_cons, List.mem_append, List.mem_cons, List.not_mem_nil, or_false]
      constructor
      · rintro ⟨h1, h2⟩
        exact ⟨⟨fun hm => (h2 x hm) (Or.inr rfl), h1⟩, fun y hy => by rcases hy with rfl | hy; exact hx; exact fun hm => h2 y hy (Or.inl hm)⟩
      · rintro ⟨⟨h1, h2⟩, h3⟩
        refine ⟨h2, fun y hy hm => ?_⟩
        rcases hm with hm | rfl
        · exact h3 y (Or.inr hy) hm
        · exact h1 hy
theorem uniq_nodup (S : List (List UInt8)) : (uniq S).length = S.length ↔ S.Nodup := by
  have := (fold_len S []).2
  simp at this
  exact this

/-- the store of a map's literal, or of an assignment, in a walk -/
theorem wpList_put {ops : Array Oper} {rest : List Oper} {o : Oper} {a : Act} {Q : Exit → Act → World → Prop} {w : World} (hg : o.guard = none) (m x v : Operand)
    (hop : o.op = Op.insert 83 m x v ∨ o.op = Op.mapUpdate 83 m x v) (b n : Nat) (S : List (List UInt8)) (hs : SetIs w b n S) (hn : n < maxLen) (l : List UInt8) (hl : l.length ≤ maxLen)
    (hm : a.eval m = .map (some b)) (hx : a.eval x = .string ⟨l.toArray⟩) (hv : a.eval v = .bool true)
    (hK : ∀ w', SetIs w' b (n + 1) (S ++ [l]) → w.grownBy w' (some b) → wpList Tryd.prog ops Q rest (a.put o.dst undef) w') :
    wpList Tryd.prog ops Q (o :: rest) a w := by
  refine wpList_plain hg fun K' hK' => ?_
  obtain ⟨w', hrun, r1, r2⟩ := hs.put hn hl
  unfold Oper.wp
  rcases hop with hop | hop
  all_goals
    simp [execOp, hop, hm, hx, hv, hrun, Result.andThen]
    exact hK' _ _ (hK w' r1 r2)

/-- 'len' of the set -/
theorem wpList_size {ops : Array Oper} {rest : List Oper} {o : Oper} {a : Act} {Q : Exit → Act → World → Prop} {w : World} (hg : o.guard = none) (m : Operand)
    (hop : o.op = Op.call { callee := Callee.builtin Builtin.len, args := #[m], argTypes := #[83] }) (b n : Nat) (S : List (List UInt8)) (hs : SetIs w b n S) (hm : a.eval m = .map (some b))
    (hK : wpList Tryd.prog ops Q rest (a.put o.dst (.int .i64 ((uniq S).length : Nat))) w) :
    wpList Tryd.prog ops Q (o :: rest) a w := by
  refine wpList_plain hg fun K' hK' => ?_
  unfold Oper.wp
  simp [execOp, hop, resolve, invoke, builtin, hm, hs.len o.type, Result.andThen]
  exact hK' _ _ hK

/-- a look-up in the set -/
theorem wpList_has {ops : Array Oper} {rest : List Oper} {o : Oper} {a : Act} {Q : Exit → Act → World → Prop} {w : World} (hg : o.guard = none) (m x : Operand)
    (hop : o.op = Op.lookup 83 m x false) (b n : Nat) (S : List (List UInt8)) (hs : SetIs w b n S) (l : List UInt8) (hl : l.length ≤ maxLen) (hm : a.eval m = .map (some b)) (hx : a.eval x = .string ⟨l.toArray⟩)
    (hK : wpList Tryd.prog ops Q rest (a.put o.dst (.bool (hasS S l))) w) :
    wpList Tryd.prog ops Q (o :: rest) a w := by
  refine wpList_plain hg fun K' hK' => ?_
  unfold Oper.wp
  simp [execOp, hop, hm, hx, hs.look hl, Result.andThen]
  exact hK' _ _ hK
end Go.Proofs.YteglampoceponaaDoor.Mp
