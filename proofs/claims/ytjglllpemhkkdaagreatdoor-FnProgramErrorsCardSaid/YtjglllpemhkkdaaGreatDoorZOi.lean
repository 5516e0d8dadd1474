/- Slices of integers of the call's own as the laws handle them: compared, marked, looked at again. -/
import Derived.Test.YtjglllpemhkkdaaGreatDoorZCom
import Derived.Lib.QuietBelow
import Derived.Test.YtjglllpemhkkdaaGreatDoorZC3a
import Derived.Test.YtjglllpemhkkdaaGreatDoorZLhS
import Derived.Test.YtjglllpemhkkdaaGreatDoorZMp
import Derived.Test.YtjglllpemhkkdaaGreatDoorZShelf
import Derived.Sort.OwnSorted
import Derived.Lib.RowBridge
set_option maxRecDepth 100000
namespace Go.Proofs.YtjglllpemhkkdaaGreatDoor.Os
open Go.RowKit Go.Lib Com Mem Ow

abbrev iv (x : Int) : Value := .int .i64 x
abbrev OwnI (lo hi : Nat) (w : World) (v : Value) (l : List Int) : Prop := Own 3 lo hi w v (l.map iv)
theorem OwnI.read_ {lo hi : Nat} {w : World} {v : Value} {l : List Int} (h : OwnI lo hi w v l) : ∃ A c, v = .slice A l.length c ∧ Rd w w.heap.size A (l.map iv) ∧ l.length ≤ c ∧ c ≤ maxLen ∧ (A = none → c = 0) ∧ ∀ ad, A = some ad → ad = ⟨ad.block, 0, none⟩ := by
  have := h.read
  rwa [List.length_map] at this


end Go.Proofs.YtjglllpemhkkdaaGreatDoor.Os

/- The levels of operators; the model's table of them. -/
set_option maxRecDepth 100000
namespace Go.Proofs.YtjglllpemhkkdaaGreatDoor.Tk
open Go.RowKit Go.Lib Go.Sort Com Mem YtjglllpemhkkdaaGreatDoor.Os

def opsOf : Nat → List Int
  | 1 => [8]
  | 2 => [7]
  | 3 => [5, 6]
  | 4 => [1, 2]
  | 5 => [3, 4]
  | _ => []
theorem opsOf_few (l : Nat) : (opsOf l).length ≤ 8 := by
  unfold opsOf
  split <;> simp
theorem lev7 (w : World) (I J : TypeId) (o0 : Obj) (r1 r2 r3 r4 r5 top : List Value) {W : World} (hW : W = ((((((w.alloc o0).alloc (.cells r1.toArray I)).alloc (.cells r2.toArray I)).alloc (.cells r3.toArray I)).alloc (.cells r4.toArray I)).alloc (.cells r5.toArray I)).alloc (.cells top.toArray J)) :
    Below w.heap.size w W ∧ Blk W (w.heap.size + 1) I r1 ∧ Blk W (w.heap.size + 1 + 1) I r2 ∧ Blk W (w.heap.size + 1 + 1 + 1) I r3 ∧ Blk W (w.heap.size + 1 + 1 + 1 + 1) I r4 ∧ Blk W (w.heap.size + 1 + 1 + 1 + 1 + 1) I r5 ∧ Blk W (w.heap.size + 1 + 1 + 1 + 1 + 1 + 1) J top := by
  subst hW
  have e1 := Blk.new (w.alloc o0) I r1
  have e2 := Blk.new ((w.alloc o0).alloc (.cells r1.toArray I)) I r2
  have e3 := Blk.new (((w.alloc o0).alloc (.cells r1.toArray I)).alloc (.cells r2.toArray I)) I r3
  have e4 := Blk.new ((((w.alloc o0).alloc (.cells r1.toArray I)).alloc (.cells r2.toArray I)).alloc (.cells r3.toArray I)) I r4
  have e5 := Blk.new (((((w.alloc o0).alloc (.cells r1.toArray I)).alloc (.cells r2.toArray I)).alloc (.cells r3.toArray I)).alloc (.cells r4.toArray I)) I r5
  have e6 := Blk.new ((((((w.alloc o0).alloc (.cells r1.toArray I)).alloc (.cells r2.toArray I)).alloc (.cells r3.toArray I)).alloc (.cells r4.toArray I)).alloc (.cells r5.toArray I)) J top
  simp only [size_alloc'] at e1 e2 e3 e4 e5 e6
  refine ⟨?_, ((((e1.alloc _).alloc _).alloc _).alloc _).alloc _, (((e2.alloc _).alloc _).alloc _).alloc _, ((e3.alloc _).alloc _).alloc _, (e4.alloc _).alloc _, e5.alloc _, e6⟩
  have g := fun (v : World) (o : Obj) (h : Below w.heap.size w v) => h.alloc h.size o
  exact g _ _ (g _ _ (g _ _ (g _ _ (g _ _ (g _ _ (g _ _ (Below.refl _ _)))))))
theorem levs_any (w : World) : Calls Tryz.prog 196 #[] w fun e w' => ∃ B, e = .returned (.slice (some ⟨B, 0, none⟩) 6 6) ∧ Below w.heap.size w w' ∧
    ∀ l, 1 ≤ l → l ≤ 5 → ∃ b, w'.cell? ⟨B, l, none⟩ = some (.slice (some ⟨b, 0, none⟩) (opsOf l).length (opsOf l).length) ∧ Rd w' w'.heap.size (some ⟨b, 0, none⟩) ((opsOf l).map (Value.int .i64)) ∧ w.heap.size ≤ b := by
  go_enter Tryz.func196, Tryz.ntmps196
  go_wp2_with fail
  go_ret
  obtain ⟨hb, e1, e2, e3, e4, e5, e6⟩ := lev7 w 3 141 (.cells #[] 3) [.int .i64 8] [.int .i64 7] [.int .i64 5, .int .i64 6] [.int .i64 1, .int .i64 2] [.int .i64 3, .int .i64 4]
    [.slice (some ⟨w.heap.size, 0, none⟩) 0 0, .slice (some ⟨w.heap.size + 1, 0, none⟩) 1 1, .slice (some ⟨w.heap.size + 1 + 1, 0, none⟩) 1 1, .slice (some ⟨w.heap.size + 1 + 1 + 1, 0, none⟩) 2 2, .slice (some ⟨w.heap.size + 1 + 1 + 1 + 1, 0, none⟩) 2 2, .slice (some ⟨w.heap.size + 1 + 1 + 1 + 1 + 1, 0, none⟩) 2 2] rfl
  refine ⟨_, rfl, hb, fun l h1 h2 => ?_⟩
  have hl : l = 1 ∨ l = 2 ∨ l = 3 ∨ l = 4 ∨ l = 5 := by omega
  rcases hl with rfl | rfl | rfl | rfl | rfl
  · exact ⟨_, e6.cell 1, e1.rd.more e1.lt, by omega⟩
  · exact ⟨_, e6.cell 2, e2.rd.more e2.lt, by omega⟩
  · exact ⟨_, e6.cell 3, e3.rd.more e3.lt, by omega⟩
  · exact ⟨_, e6.cell 4, e4.rd.more e4.lt, by omega⟩
  · exact ⟨_, e6.cell 5, e5.rd.more e5.lt, by omega⟩
end Go.Proofs.YtjglllpemhkkdaaGreatDoor.Tk

/- Expressions as trees: their values, by the model. -/
set_option maxRecDepth 100000
namespace Go.Proofs.YtjglllpemhkkdaaGreatDoor.Tr
open Go.RowKit Go.Lib Go.Sort Com Mem YtjglllpemhkkdaaGreatDoor.Os C2 C3

theorem node_cases {k n : Int} {s : List UInt8} {ks : List T} (h : nodeB k n s ks.length = true) : k = 1 ∨ k = 2 ∨ (k = 3 ∧ ∃ a b, ks = [a, b]) ∨ (k = 4 ∧ ∃ a, ks = [a]) := by
  unfold nodeB at h
  by_cases h1 : k = 1
  · exact Or.inl h1
  by_cases h2 : k = 2
  · exact Or.inr (Or.inl h2)
  by_cases h3 : k = 3
  · rw [if_neg h1, if_neg h2, if_pos h3] at h
    simp only [Bool.and_eq_true, beq_iff_eq] at h
    match ks, h with
    | [a, b], _ => exact Or.inr (Or.inr (Or.inl ⟨h3, a, b, rfl⟩))
    | [], h => simp at h
    | [a], h => simp at h
    | a :: b :: c :: r, h => have := h.2.2; simp at this; omega
  by_cases h4 : k = 4
  · rw [if_neg h1, if_neg h2, if_neg h3, if_pos h4] at h
    simp only [Bool.and_eq_true, beq_iff_eq] at h
    match ks, h with
    | [a], _ => exact Or.inr (Or.inr (Or.inr ⟨h4, a, rfl⟩))
    | [], h => simp at h
    | a :: b :: r, h => have := h.2.2; simp at this; omega
  rw [if_neg h1, if_neg h2, if_neg h3, if_neg h4] at h
  cases h
theorem allT_1 {k n : Int} {s : List UInt8} {a : T} (h : allT (.mk k n s [a]) = true) : allT a = true := by
  rw [allT_mk] at h; simp at h; exact h.1
theorem allT_2 {k n : Int} {s : List UInt8} {a b : T} (h : allT (.mk k n s [a, b]) = true) : allT a = true ∧ allT b = true := by
  rw [allT_mk] at h; simp at h; exact h.1
end Go.Proofs.YtjglllpemhkkdaaGreatDoor.Tr

/- Chapter 2: SortNames, of the program. -/
set_option maxRecDepth 100000
namespace Go.Proofs.YtjglllpemhkkdaaGreatDoor.C2
open Go.RowKit Go.Lib Go.Sort Com Mem Ow YtjglllpemhkkdaaGreatDoor.Nm

theorem own_compact {w : World} {base g cap q : Nat} {e : TypeId} {cur : Array Value} {zs ts : List (List UInt8)} (hl : ts.length ≤ zs.length) (hbase : base ≤ g) (hb : w.heap[g]? = some (.cells cur e (0, 0))) (h1 : zs.length ≤ cap) (h2 : cap ≤ maxLen) (h3 : cur.size = cap * 1) :
    (putRow encStr (Sort.ahead w q) g 0 (ts ++ List.replicate (zs.length - ts.length) []).toArray).ownsRow base e 1 (.slice (some ⟨g, 0, none⟩) ts.length cap) ts.length (ts.map sv) := by
  have h := ownsRow_sorted (n := q) (os := #[]) (ss := zs) (ts := ts ++ List.replicate (zs.length - ts.length) []) (by simp; omega) hbase hb h1 h2 h3
  rw [grow_empty] at h
  have h' := own_take (k := ts.length) h hl (by simp)
  have e1 : ((ts ++ List.replicate (zs.length - ts.length) []).map encStr).take ts.length = ts.map sv := by
    rw [List.map_append, List.take_append_of_le_length (by simp), List.take_of_length_le (by simp)]
  rw [e1] at h'; exact h'

set_option maxHeartbeats 1000000 in
theorem sort_any (A : Option Addr) (c : Nat) (L : List (List UInt8)) (w : World) (h : Rd w w.heap.size A (L.map sv)) (hA : A = none → c = 0) (hn : L.length ≤ 2000000) :
    Calls Tryz.prog 264 #[.slice A L.length c] w fun e w' => ∃ v, e = .returned v ∧ Grow 9 w w' v ((sortU L).map sv) := by
  have hA' : A = none → L.length = 0 ∧ c = 0 := fun hx => by
    refine ⟨?_, hA hx⟩
    subst hx
    cases L with
    | nil => rfl
    | cons x r => obtain ⟨ad, e, _⟩ := h (by simp); cases e
  have hgr := hid (Grow.nil_ (w := w) w 9 (Below.refl _ _))
  have hone := hid (show ∀ u ∈ L.map sv, u.oneCell' = true from fun u hu => by obtain ⟨l, _, rfl⟩ := List.mem_map.1 hu; rfl)
  have hcs := compact_sort L
  have hlen := List.length_mergeSort (le := fun x y : List UInt8 => decide (x ≤ y)) L
  have hul := sortU_len L
  generalize hM : (L.mergeSort fun x y => decide (x ≤ y)) = M at *
  by_cases h0 : L = []
  · subst h0
    go_enter Tryz.func264, Tryz.ntmps264
    go_wp2_with (at_builtin; refine hgr.out.appendAll strT A 0 c w.heap.size [] rfl (fun e => ⟨rfl, hA e⟩) Rd.nil_ hone.out (by simp) rfl _ _ rfl rfl rfl ?_; intro v1 w1 hg1 _ hv1; obtain rfl : v1 = .slice none 0 0 := hv1.2 ⟨rfl, rfl⟩; have hg1 := hid hg1)
    refine (Tryz.slices_Sort_string_none none 0 _).mono ?_
    rintro e w2 ⟨rfl, rfl⟩
    go_wp2_with fail
    refine (Tryz.slices_Compact_string_empty none 0 _).mono ?_
    rintro e w2 ⟨rfl, rfl⟩
    go_wp2_with fail
    go_ret
    exact ⟨_, rfl, hg1.out⟩
  · have hpos : 0 < L.length := List.length_pos_iff.2 h0
    have hrd := hid h
    have hA' := hid hA'
    have hcs := hid hcs
    have hlen := hid hlen
    clear h hA
    go_enter Tryz.func264, Tryz.ntmps264
    go_wp2_with (at_builtin; refine hgr.out.appendAll strT A L.length c w.heap.size (L.map sv) (by simp) hA'.out hrd.out hone.out (by simp; omega) rfl _ _ rfl rfl rfl ?_; intro v1 w1 hg1 _ hv1; have hg1 := hid hg1; obtain ⟨g, cap, cur, rfl, hb, hblk, hnc, hcm, hsz, htk⟩ := hg1.out.some_ (fun e => by have := (hv1.1 e).2; omega); clear hv1)
    simp only [List.nil_append, List.length_map] at hnc htk
    have hgl : g < w1.heap.size := (Array.getElem?_eq_some_iff.1 hblk).1
    have hblk2 := fun n os => heap_sorted (n := n) (os := os) M.toArray hblk
    have hH := hid (holds_of_block hblk (by simpa using htk))
    have hcm := hid hcm
    go_wp2_with fail
    refine (Tryz.slices_Sort_string g 0 cap L w1 hH.out hgl (by omega)).mono ?_
    rintro e w2 ⟨rfl, n, os, rfl⟩
    rw [hM]
    have hb2 := hid (hg1.out.2.grown (grownBy_sorted (n := n) (os := os) M.toArray) hg1.out.2.size (fun j hj => by cases hj; exact hb))
    have hblk2 := hblk2 n os
    have hH2 := hid (holds_of_block (ss := M) hblk2 (take_putCells cur M (by rw [hlen.out]; omega)))
    generalize grow (putRow encStr (Sort.ahead w1 n) g 0 M.toArray) os = w2 at *
    have hsz2 : (putCells encStr 0 M.toArray cur).size = cap * 1 := by simp [putCells]; omega
    have hfin := hid (fun q => own_compact (q := q) (ts := compact M) (compact_length_le M) hb hblk2 (by rw [hlen.out]; exact hnc) hcm.out hsz2)
    have hgb := hid (fun q (d : List (List UInt8)) => by have := grownBy_sorted (w := w2) (g := g) (n := q) (os := #[]) d.toArray; rwa [grow_empty] at this)
    clear hblk2 hblk htk hsz hsz2 hH hgr
    have hcp := hid (Tryz.slices_Compact_string g 0 cap M w2 hH2.out (by rw [hlen.out]; omega) (by rw [hlen.out]; exact hnc))
    rw [hlen.out] at hcp
    go_wp2_with fail
    refine hcp.out.mono ?_
    rintro e w3 ⟨rfl, q, rfl⟩
    have h3 := hid (hb2.out.grown (hgb.out q (compact M ++ List.replicate (L.length - (compact M).length) [])) hb2.out.size (fun j hj => by cases hj; exact hb))
    have h4 := hfin.out q
    rw [hlen.out] at h4
    have h4 := hid h4
    generalize putRow encStr (Sort.ahead w2 q) g 0 (compact M ++ List.replicate (L.length - (compact M).length) []).toArray = w3 at *
    go_wp2_with fail
    go_ret
    rw [← hcs.out]
    exact ⟨_, rfl, by simpa using h4.out, h3.out⟩
end Go.Proofs.YtjglllpemhkkdaaGreatDoor.C2
