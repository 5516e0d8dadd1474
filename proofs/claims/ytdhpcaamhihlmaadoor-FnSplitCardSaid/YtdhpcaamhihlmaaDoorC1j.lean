/- Join: the program's and the model's. -/
import Derived.Test.YtdhpcaamhihlmaaDoorLhS
import Derived.Test.YtdhpcaamhihlmaaDoorShelf
namespace Go.Proofs.YtdhpcaamhihlmaaDoor.C1j
open Go.RowKit Go.Lib Go.Proofs.YtdhpcaamhihlmaaDoor.Com Go.Proofs.YtdhpcaamhihlmaaDoor.Mem Go.Proofs.YtdhpcaamhihlmaaDoor.Lh

/-- Join, said by recursion -/
def jl (sep : List UInt8) : List (List UInt8) → List UInt8
  | [] => []
  | [x] => x
  | x :: y :: r => x ++ sep ++ jl sep (y :: r)
theorem join_jl (sep : List UInt8) : ∀ l : List (List UInt8), Lib.join l sep = jl sep l
  | [] => rfl
  | [x] => by simp [Lib.join, jl, List.intercalate]
  | x :: y :: r => by
    have h := join_jl sep (y :: r)
    unfold Lib.join at h ⊢
    simp only [jl, ← h, List.intercalate, List.intersperse_cons_cons, List.flatten_cons, List.append_assoc]
theorem jl_len (sep : List UInt8) : ∀ l : List (List UInt8), (jl sep l).length ≤ (l.map List.length).sum + l.length * sep.length
  | [] => by simp [jl]
  | [x] => by simp [jl]
  | x :: y :: r => by
    have := jl_len sep (y :: r)
    simp only [jl, List.length_append, List.map_cons, List.sum_cons, List.length_cons, Nat.add_mul, Nat.one_mul] at *
    omega
theorem jl_snoc (sep x : List UInt8) : ∀ l : List (List UInt8), l ≠ [] → jl sep (l ++ [x]) = jl sep l ++ sep ++ x
  | [], h => absurd rfl h
  | [y], _ => by simp [jl]
  | y :: z :: r, _ => by
    have := jl_snoc sep x (z :: r) (by simp)
    simp only [List.cons_append, jl] at this ⊢
    rw [this]; simp

set_option maxHeartbeats 400000 in
theorem implJoin (g c : Nat) (l : List (List UInt8)) (sep : List UInt8) (w : World) (h : Blk w g 9 (l.map sv)) (hl : l.length ≤ 140737488355328) (hc : l.length ≤ c) (hj : (Lib.join l sep).length ≤ 140737488355328) :
    Calls Tryd.prog 17 #[.slice (some ⟨g, 0, none⟩) l.length c, .string ⟨sep.toArray⟩] w fun e w' => e = .returned (.string ⟨(Lib.join l sep).toArray⟩) ∧ Below w.heap.size w w' := by
  have hmap : (l.map fun x : List UInt8 => (⟨x.toArray⟩ : ByteArray)).map (·.data.toList) = l := by
    rw [List.map_map]; conv => rhs; rw [← List.map_id l]
    exact List.map_congr_left fun x _ => rfl
  have hcall := Tryd.strings_Join g 0 c (l.map fun x => ⟨x.toArray⟩) ⟨sep.toArray⟩ w (fun j x hx => by
    rw [Nat.zero_add, h.cell, List.getElem?_map]
    rw [List.getElem?_map] at hx
    cases hq : l[j]? with
    | none => rw [hq] at hx; cases hx
    | some y => rw [hq] at hx; cases hx; rfl) h.lt (by simpa using hl) (by simpa using hc) (by rw [hmap]; exact hj)
  rw [hmap, List.length_map] at hcall
  have hcall := hid hcall
  clear hmap
  go_enter Tryd.func17, Tryd.ntmps17
  go_wp2_with fail
  refine hcall.out.mono ?_
  rintro e w' ⟨rfl, hb⟩
  go_wp2_with fail
  go_ret
  exact ⟨rfl, hb⟩

/-- what has been laid after k rounds -/
def jn (sep : List UInt8) (l : List (List UInt8)) (k : Nat) : List UInt8 := jl sep (l.take k)
theorem jn_zero {sep : List UInt8} {l : List (List UInt8)} (hk : 0 < l.length) : jn sep l (0 + 1) = l[0] := by
  unfold jn
  rw [List.take_succ_eq_append_getElem hk]; simp [jl]
theorem jn_succ {sep : List UInt8} {l : List (List UInt8)} {k : Nat} (hk : k < l.length) (h0 : k ≠ 0) : jn sep l (k + 1) = jn sep l k ++ sep ++ l[k] := by
  unfold jn
  rw [List.take_succ_eq_append_getElem hk]
  exact jl_snoc sep _ _ (by intro e; have := congrArg List.length e; rw [List.length_take, List.length_nil] at this; omega)
theorem cells_app (x y : List UInt8) : byteCells x ++ strCells ⟨y.toArray⟩ = byteCells (x ++ y) := by simp [byteCells, strCells]

theorem byteInfo : (Tryd.prog.info? 5).map (fun i => (i.zero, i.size, i.bytes)) = some (some (.int .u8 0), 1, 1) := by kernel_rfl

end Go.Proofs.YtdhpcaamhihlmaaDoor.C1j
