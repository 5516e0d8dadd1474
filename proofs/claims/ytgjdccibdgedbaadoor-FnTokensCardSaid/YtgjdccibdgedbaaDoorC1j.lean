/- Join: the program's and the model's. -/
import Derived.Test.YtgjdccibdgedbaaDoorLhS
import Derived.Test.YtgjdccibdgedbaaDoorShelf
set_option maxRecDepth 100000
namespace Go.Proofs.YtgjdccibdgedbaaDoor.C1j
open Go.RowKit Go.Lib Go.Proofs.YtgjdccibdgedbaaDoor.Com Go.Proofs.YtgjdccibdgedbaaDoor.Mem Go.Proofs.YtgjdccibdgedbaaDoor.Lh

/-- Join, said by recursion -/
def jl (sep : List UInt8) : List (List UInt8) → List UInt8
  | [] => []
  | [x] => x
  | x :: y :: r => x ++ sep ++ jl sep (y :: r)
theorem join_jl (sep : List UInt8) : ∀ l : List (List UInt8), Lib.join l sep = jl sep l
  | [] => rfl
  | [x] => by simp [Lib.join, jl, List.intercalate]
  | x :: y :: r => by
    have h := join_jl sep (y :: r)
    unfold Lib.join at h ⊢
    simp only [jl, ← h, List.intercalate, List.intersperse_cons_cons, List.flatten_cons, List.append_assoc]
theorem jl_len (sep : List UInt8) : ∀ l : List (List UInt8), (jl sep l).length ≤ (l.map List.length).sum + l.length * sep.length
  | [] => by simp [jl]
  | [x] => by simp [jl]
  | x :: y :: r => by
    have := jl_len sep (y :: r)
    simp only [jl, List.length_append, List.map_cons, List.sum_cons, List.length_cons, Nat.add_mul, Nat.one_mul] at *
    omega
theorem jl_snoc (sep x : List UInt8) : ∀ l : List (List UInt8), l ≠ [] → jl sep (l ++ [x]) = jl sep l ++ sep ++ x
  | [], h => absurd rfl h
  | [y], _ => by simp [jl]
  | y :: z :: r, _ => by
    have := jl_snoc sep x (z :: r) (by simp)
    simp only [List.cons_append, jl] at this ⊢
    rw [this]; simp

set_option maxHeartbeats 400000 in
theorem implJoin (g c : Nat) (l : List (List UInt8)) (sep : List UInt8) (w : World) (h : Blk w g 9 (l.map sv)) (hl : l.length ≤ 140737488355328) (hc : l.length ≤ c) (hj : (Lib.join l sep).length ≤ 140737488355328) :
    Calls Tryd.prog 24 #[.slice (some ⟨g, 0, none⟩) l.length c, .string ⟨sep.toArray⟩] w fun e w' => e = .returned (.string ⟨(Lib.join l sep).toArray⟩) ∧ Below w.heap.size w w' := by
  have hmap : (l.map fun x : List UInt8 => (⟨x.toArray⟩ : ByteArray)).map (·.data.toList) = l := by
    rw [List.map_map]; conv => rhs; rw [← List.map_id l]
    exact List.map_congr_left fun x _ => rfl
  have hcall := Tryd.strings_Join g 0 c (l.map fun x => ⟨x.toArray⟩) ⟨sep.toArray⟩ w (fun j x hx => by
    rw [Nat.zero_add, h.cell, List.getElem?_map]
    rw [List.getElem?_map] at hx
    cases hq : l[j]? with
    | none => rw [hq] at hx; cases hx
    | some y => rw [hq] at hx; cases hx; rfl) h.lt (by simpa using hl) (by simpa using hc) (by rw [hmap]; exact hj)
  rw [hmap, List.length_map] at hcall
  have hcall := hid hcall
  clear hmap
  go_enter Tryd.func24, Tryd.ntmps24
  go_wp2_with fail
  refine hcall.out.mono ?_
  rintro e w' ⟨rfl, hb⟩
  go_wp2_with fail
  go_ret
  exact ⟨rfl, hb⟩

/-- what has been laid after k rounds -/
def jn (sep : List UInt8) (l : List (List UInt8)) (k : Nat) : List UInt8 := jl sep (l.take k)
theorem jn_zero {sep : List UInt8} {l : List (List UInt8)} (hk : 0 < l.length) : jn sep l (0 + 1) = l[0] := by
  unfold jn
  rw [List.take_succ_eq_append_getElem hk]; simp [jl]
theorem jn_succ {sep : List UInt8} {l : List (List UInt8)} {k : Nat} (hk : k < l.length) (h0 : k ≠ 0) : jn sep l (k + 1) = jn sep l k ++ sep ++ l[k] := by
  unfold jn
  rw [List.take_succ_eq_append_getElem hk]
  exact jl_snoc sep _ _ (by intro e; have := congrArg List.length e; rw [List.length_take, List.length_nil] at this; omega)
theorem cells_app (x y : List UInt8) : byteCells x ++ strCells ⟨y.toArray⟩ = byteCells (x ++ y) := by simp [byteCells, strCells]

theorem byteInfo : (Tryd.prog.info? 5).map (fun i => (i.zero, i.size, i.bytes)) = some (some (.int .u8 0), 1, 1) := by kernel_rfl

set_option maxHeartbeats 1000000 in
theorem specJoin (A : Option Addr) (c : Nat) (l : List (List UInt8)) (sep : List UInt8) (w : World) (h : Rd w w.heap.size A (l.map sv)) (hl : l.length ≤ 1048576) (hj : ∀ k, k ≤ l.length → (jn sep l k).length + sep.length ≤ 140737488355328) :
    Calls Tryd.prog 27 #[.slice A l.length c, .string ⟨sep.toArray⟩] w fun e w' => e = .returned (.string ⟨(Lib.join l sep).toArray⟩) ∧ Below w.heap.size w w' := by
  obtain ⟨i0, hi, hz0, hz1, hz2⟩ := info_parts byteInfo
  go_enter Tryd.func27, Tryd.ntmps27
  go_wp2_with fail
  go_loopw [5, 6] (fun o i wr => ∃ (k : Nat), k ≤ l.length ∧ i = .int .i64 k ∧ wr.ownsRow w.heap.size 5 1 o (jn sep l k).length (byteCells (jn sep l k)) ∧ o ≠ .slice none 0 0 ∧ Below w.heap.size w wr) (fun _ i _ => l.length - (Go.RowKit.intOf i).toNat)
  case atStart =>
    exact ⟨0, Nat.zero_le _, rfl, World.ownsRow_lit w #[] 0 (Nat.le_refl _) (by decide) rfl, (by intro e; cases e), (Below.refl _ _).alloc (Nat.le_refl _) _⟩
  case round =>
    obtain ⟨k, hk, rfl, hown, hnn, hb⟩ := hrel
    have hnn := hid hnn
    by_cases hlt : k < l.length
    · obtain ⟨ad, rfl, _, hc⟩ := rd_str (h.below hb) hlt
      have hj1 := hj (k + 1) hlt
      have hj0 := hj k hk
      have hsz : ∀ x : List UInt8, (⟨x.toArray⟩ : ByteArray).size = x.length := fun x => by simp [ByteArray.size]
      have hcl := rd_at (h.below hb) hlt
      by_cases hk0 : k = 0
      · subst hk0
        have hnx := hid (jn_zero (sep := sep) hlt)
        have e0 := hid (show jn sep l 0 = [] from rfl)
        have b1 : (jn sep l 0).length + (⟨(l[0]).toArray⟩ : ByteArray).size ≤ 140737488355328 := by rw [hsz, ← hnx.out, e0.out]; simp only [List.length_nil]; omega
        have b2 : (jn sep l 0).length + (⟨(l[0]).toArray⟩ : ByteArray).size ≤ maxLen := by unfold maxLen; omega
        have b3 := hb.size
        have hcl0 : wr.cell? ad = some (.string ⟨(l[0]).toArray⟩) := by have := hcl; rwa [show ad.add 0 = ad from rfl] at this
        clear hj hj1 hj0 hcl hc
        have hsz := hid hsz
        go_wp2_with (first
          | (at_builtin; refine wpList_append_own_string _ rfl (.tmp 19) (.tmp 23) 22 9 rfl w.heap.size 5 i0 Tryd.underlying22 Tryd.underlying9 hi hz0 hz1 hz2 u5 _ _ rfl hown ⟨(l[0]).toArray⟩ rfl b2 b1 b3 ?_; intro v1 w1 hown1 hg1 hn1; have hnn1 := hid (fun e => hnn.out (hn1.1 e).1); clear hn1; have hb1 : Below w.heap.size w w1 := hb.grown hg1 hb.size (fun g hg => (hown.lt g hg).1)))
        refine ⟨⟨1, hlt, by go_num, ?_, hnn1.out, hb1⟩, by simp [Go.RowKit.intOf]; omega⟩
        rw [cells_app, hsz.out, e0.out] at hown1
        simp only [List.length_nil, Nat.zero_add, List.nil_append, ← hnx.out] at hown1
        exact hown1
      · have t0 : decide (0 < (k : Int)) = true := decide_eq_true (by omega)
        have hnx := hid (jn_succ (sep := sep) hlt hk0)
        have hln : (jn sep l k).length + sep.length + (l[k]).length ≤ 140737488355328 := by rw [hnx.out, List.length_append, List.length_append] at hj1; omega
        have b1 : (jn sep l k).length + (⟨sep.toArray⟩ : ByteArray).size ≤ 140737488355328 := by rw [hsz]; omega
        have b2 : (jn sep l k).length + (⟨sep.toArray⟩ : ByteArray).size ≤ maxLen := by unfold maxLen; omega
        have b3 := hb.size
        have b4 : (jn sep l k).length + (⟨sep.toArray⟩ : ByteArray).size + (⟨(l[k]).toArray⟩ : ByteArray).size ≤ 140737488355328 := by rw [hsz, hsz]; omega
        have b5 : (jn sep l k).length + (⟨sep.toArray⟩ : ByteArray).size + (⟨(l[k]).toArray⟩ : ByteArray).size ≤ maxLen := by unfold maxLen; omega
        clear hj hj1 hj0 hln
        have hsz := hid hsz
        go_wp2_with (first
          | (at_builtin; refine wpList_append_own_string _ rfl (.tmp 16) (.tmp 17) 22 9 rfl w.heap.size 5 i0 Tryd.underlying22 Tryd.underlying9 hi hz0 hz1 hz2 u5 _ _ rfl hown ⟨(sep).toArray⟩ rfl b2 b1 b3 ?_; intro v1 w1 hown1 hg1 hn1; have hnn1 := hid (fun e => hnn.out (hn1.1 e).1); clear hn1; have hb1 : Below w.heap.size w w1 := hb.grown hg1 hb.size (fun g hg => (hown.lt g hg).1); have hc1 := rd_at (h.below hb1) hlt; have hb1s := hb1.size)
          | (at_builtin; refine wpList_append_own_string _ rfl (.tmp 19) (.tmp 23) 22 9 rfl w.heap.size 5 i0 Tryd.underlying22 Tryd.underlying9 hi hz0 hz1 hz2 v1 _ _ rfl hown1 ⟨(l[k]).toArray⟩ rfl b5 b4 hb1s ?_; intro v2 w2 hown2 hg2 hn2; have hnn2 := hid (fun e => hnn1.out (hn2.1 e).1); clear hn2; have hb2 : Below w.heap.size w w2 := hb1.grown hg2 hb1.size (fun g hg => (hown1.lt g hg).1)))
        refine ⟨⟨k + 1, hlt, by go_num, ?_, hnn2.out, hb2⟩, by simp [Go.RowKit.intOf]; omega⟩
        rw [cells_app, cells_app, hsz.out, hsz.out, ← List.length_append, ← List.length_append, ← hnx.out] at hown2
        exact hown2
    · obtain rfl : k = l.length := by omega
      have hfin := hid (show Lib.join l sep = jn sep l l.length by unfold jn; rw [List.take_of_length_le (Nat.le_refl _)]; exact join_jl sep l)
      obtain ⟨_, ⟨rfl, _⟩ | ⟨g, cap, cur, rfl, hg, hblk, hn, hcap, hcur, htake⟩⟩ := id hown
      · exact absurd rfl hnn.out
      · have hcv := run_convert_bytes_back (P := Tryd.prog) (l := jn sep l l.length) wr 22 9 5 ⟨g, 0, none⟩ cap Tryd.underlying22 Tryd.underlying5 Tryd.underlying9 (fun j hj => by
          have := hown.cells (g := g) rfl j (.int .u8 ((jn sep l l.length)[j].toNat)) (by unfold byteCells; rw [List.getElem?_map, List.getElem?_eq_getElem hj]; rfl)
          exact this)
        go_wp2_with fail
        go_ret
        exact ⟨by rw [hfin.out]; rfl, hb⟩
end Go.Proofs.YtgjdccibdgedbaaDoor.C1j
