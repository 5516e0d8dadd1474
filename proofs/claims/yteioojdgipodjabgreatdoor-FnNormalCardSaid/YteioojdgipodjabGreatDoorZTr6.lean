/- Expressions as trees: their variables, by the model. -/
import Derived.Test.YteioojdgipodjabGreatDoorZTr
import Derived.Test.YteioojdgipodjabGreatDoorZNm
import Derived.Test.YteioojdgipodjabGreatDoorZLhS
set_option maxRecDepth 100000
namespace Go.Proofs.YteioojdgipodjabGreatDoor.Tr
open Go.RowKit Go.Lib Go.Sort Go.Proofs.YteioojdgipodjabGreatDoor.Com Go.Proofs.YteioojdgipodjabGreatDoor.Mem Go.Proofs.YteioojdgipodjabGreatDoor.Ow Go.Proofs.YteioojdgipodjabGreatDoor.Os Go.Proofs.YteioojdgipodjabGreatDoor.Nm Go.Proofs.YteioojdgipodjabGreatDoor.C2

/-- the names of the variables, as they are met -/
def varsT : T → List (List UInt8)
  | .mk k _ s ks => (if k = 2 then [s] else []) ++ (ks.attach.map fun ⟨a, _⟩ => varsT a).flatten
termination_by t => SizeOf.sizeOf t
decreasing_by have := List.sizeOf_lt_of_mem ‹_›; simp only [T.mk.sizeOf_spec]; omega
def varsK (ks : List T) : List (List UInt8) := (ks.map varsT).flatten
theorem varsT_mk (k n : Int) (s : List UInt8) (ks : List T) : varsT (.mk k n s ks) = (if k = 2 then [s] else []) ++ varsK ks := by
  rw [varsT]; simp [varsK]
theorem varsK_take {ks : List T} {m : Nat} (h : m < ks.length) : varsK (ks.take (m + 1)) = varsK (ks.take m) ++ varsT ks[m] := by
  unfold varsK
  rw [List.take_succ_eq_append_getElem h, List.map_append, List.flatten_append]; simp
theorem varsK_len (ks : List T) (h : ∀ a ∈ ks, (varsT a).length ≤ cntT a) : (varsK ks).length ≤ cntK ks := by
  induction ks with
  | nil => simp [varsK, cntK]
  | cons a r ih =>
    have h1 := ih fun x hx => h x (by simp [hx])
    have h2 := h a (by simp)
    simp only [varsK, cntK, List.map_cons, List.flatten_cons, List.length_append, List.sum_cons] at *
    omega
theorem varsT_len (t : T) : (varsT t).length ≤ cntT t := by
  induction t using T.ind with
  | h k n s ks ih =>
    have := varsK_len ks ih
    rw [varsT_mk, cntT_mk, List.length_append]
    split <;> simp <;> omega

/-- rows of another kind than the strings' are as they were -/
structure KeepS (ty : TypeId) (w w' : World) : Prop where
  size : w.heap.size ≤ w'.heap.size
  block : ∀ (k : Nat) (c : Array Value) (t : TypeId) (fr : Nat × Nat), w.heap[k]? = some (Obj.cells c t fr) → t ≠ ty → w'.heap[k]? = w.heap[k]?
theorem KeepS.refl (ty : TypeId) (w : World) : KeepS ty w w := ⟨Nat.le_refl _, fun _ _ _ _ _ _ => rfl⟩
theorem KeepS.trans {ty : TypeId} {a b c : World} (h : KeepS ty a b) (k : KeepS ty b c) : KeepS ty a c :=
  ⟨Nat.le_trans h.size k.size, fun i cs t fr hi ht => by
    have h1 := h.block i cs t fr hi ht
    rw [← h1]
    exact k.block i cs t fr (h1.trans hi) ht⟩
theorem KeepS.of_below {ty : TypeId} {w w' : World} (h : Below w.heap.size w w') : KeepS ty w w' :=
  ⟨h.size, fun k c t fr hk _ => h.block k (by
    rcases Nat.lt_or_ge k w.heap.size with hl | hl
    · exact hl
    · rw [Array.getElem?_eq_none hl] at hk; cases hk)⟩
theorem KeepS.of_grow {ty : TypeId} {w0 w w' : World} {v : Value} {xs : List Value} (hg : Grow ty w0 w v xs) (h : w.grownBy w' v.ownBlock) : KeepS ty w w' :=
  ⟨h.size, fun k c t fr hk ht => by
    have hlt : k < w.heap.size := by
      rcases Nat.lt_or_ge k w.heap.size with hl | hl
      · exact hl
      · rw [Array.getElem?_eq_none hl] at hk; cases hk
    refine h.block k hlt fun e => ?_
    obtain ⟨_, _, cs, hb⟩ := (Own.of_grow hg).block_ e.symm
    unfold Blk at hb
    rw [hk] at hb
    injection hb with h1; injection h1 with _ h2 _
    exact ht h2⟩
theorem KeepS.blk {ty t : TypeId} {w w' : World} {g : Nat} {cs : List Value} (h : KeepS ty w w') (hb : Blk w g t cs) (ht : t ≠ ty) : Blk w' g t cs := (h.block g _ t _ hb ht).trans hb

end Go.Proofs.YteioojdgipodjabGreatDoor.Tr
