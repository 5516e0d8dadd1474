/- The model's EqualProgram. -/
import Derived.Test.YtnmomlaimffonaaGreatZSt1
import Derived.Test.YtnmomlaimffonaaGreatZShelf
import Derived.Sort.OwnSorted
import Derived.Lib.RowBridge
set_option maxHeartbeats 1000000
set_option maxRecDepth 100000
namespace Go.Proofs.YtnmomlaimffonaaGreat.Gd
open Go.RowKit Go.Lib Go.Sort Com Mem YtnmomlaimffonaaGreat.Os Tr
mutual
def sameSt : St → St → Bool
  | .mk k s e bs es, .mk k' s' e' bs' es' => (k == k') && ((s == s') && (eqT e e' && (sameSL bs bs' && sameSL es es')))
def sameSL : List St → List St → Bool
  | [], [] => true
  | a :: r, b :: q => sameSt a b && sameSL r q
  | [], _ :: _ => false
  | _ :: _, [] => false
end
theorem sameSt_mk (k k' : Int) (s s' : List UInt8) (e e' : T) (bs bs' es es' : List St) : sameSt (.mk k s e bs es) (.mk k' s' e' bs' es') = ((k == k') && ((s == s') && (eqT e e' && (sameSL bs bs' && sameSL es es')))) := by rw [sameSt]
open Ow YtnmomlaimffonaaGreat.Nm C2
end Go.Proofs.YtnmomlaimffonaaGreat.Gd
set_option maxRecDepth 100000
namespace Go.Proofs.YtnmomlaimffonaaGreat.C2
open Go.RowKit Go.Lib Go.Sort Com Mem Ow YtnmomlaimffonaaGreat.Nm
theorem own_compact {w : World} {base g cap q : Nat} {e : TypeId} {cur : Array Value} {zs ts : List (List UInt8)} (hl : ts.length ≤ zs.length) (hbase : base ≤ g) (hb : w.heap[g]? = some (.cells cur e (0, 0))) (h1 : zs.length ≤ cap) (h2 : cap ≤ maxLen) (h3 : cur.size = cap * 1) :
    (putRow encStr (Sort.ahead w q) g 0 (ts ++ List.replicate (zs.length - ts.length) []).toArray).ownsRow base e 1 (.slice (some ⟨g, 0, none⟩) ts.length cap) ts.length (ts.map sv) := by
  have h := ownsRow_sorted (n := q) (os := #[]) (ss := zs) (ts := ts ++ List.replicate (zs.length - ts.length) []) (by simp; omega) hbase hb h1 h2 h3
  rw [grow_empty] at h
  have h' := own_take (k := ts.length) h hl (by simp)
  have e1 : ((ts ++ List.replicate (zs.length - ts.length) []).map encStr).take ts.length = ts.map sv := by
    rw [List.map_append, List.take_append_of_le_length (by simp), List.take_of_length_le (by simp)]
  rw [e1] at h'; exact h'
theorem sort_any (A : Option Addr) (c : Nat) (L : List (List UInt8)) (w : World) (h : Rd w w.heap.size A (L.map sv)) (hA : A = none → c = 0) (hn : L.length ≤ 2000000) :
    Calls Tryz.prog 136 #[.slice A L.length c] w fun e w' => ∃ v, e = .returned v ∧ Grow 9 w w' v ((sortU L).map sv) := by
  have hA' : A = none → L.length = 0 ∧ c = 0 := fun hx => by
    refine ⟨?_, hA hx⟩
    subst hx
    cases L with
    | nil => rfl
    | cons x r => obtain ⟨ad, e, _⟩ := h (by simp); cases e
  have hgr := hid (Grow.nil_ (w := w) w 9 (Below.refl _ _))
  have hone := hid (show ∀ u ∈ L.map sv, u.oneCell' = true from fun u hu => by obtain ⟨l, _, rfl⟩ := List.mem_map.1 hu; rfl)
  have hcs := compact_sort L
  have hlen := List.length_mergeSort (le := fun x y : List UInt8 => decide (x ≤ y)) L
  have hul := sortU_len L
  generalize hM : (L.mergeSort fun x y => decide (x ≤ y)) = M at *
  by_cases h0 : L = []
  · subst h0
    go_enter Tryz.func136, Tryz.ntmps136
    go_wp2_with (at_builtin; refine hgr.out.appendAll strT A 0 c w.heap.size [] rfl (fun e => ⟨rfl, hA e⟩) Rd.nil_ hone.out (by simp) rfl _ _ rfl rfl rfl ?_; intro v1 w1 hg1 _ hv1; obtain rfl : v1 = .slice none 0 0 := hv1.2 ⟨rfl, rfl⟩; have hg1 := hid hg1)
    refine (Tryz.slices_Sort_string_none none 0 _).mono ?_
    rintro e w2 ⟨rfl, rfl⟩
    go_wp2_with fail
    refine (Tryz.slices_Compact_string_empty none 0 _).mono ?_
    rintro e w2 ⟨rfl, rfl⟩
    go_wp2_with fail
    go_ret
    exact ⟨_, rfl, hg1.out⟩
  · have hpos : 0 < L.length := List.length_pos_iff.2 h0
    have hrd := hid h
    have hA' := hid hA'
    have hcs := hid hcs
    have hlen := hid hlen
    clear h hA
    go_enter Tryz.func136, Tryz.ntmps136
    go_wp2_with (at_builtin; refine hgr.out.appendAll strT A L.length c w.heap.size (L.map sv) (by simp) hA'.out hrd.out hone.out (by simp; omega) rfl _ _ rfl rfl rfl ?_; intro v1 w1 hg1 _ hv1; have hg1 := hid hg1; obtain ⟨g, cap, cur, rfl, hb, hblk, hnc, hcm, hsz, htk⟩ := hg1.out.some_ (fun e => by have := (hv1.1 e).2; omega); clear hv1)
    simp only [List.nil_append, List.length_map] at hnc htk
    have hgl : g < w1.heap.size := (Array.getElem?_eq_some_iff.1 hblk).1
    have hblk2 := fun n os => heap_sorted (n := n) (os := os) M.toArray hblk
    have hH := hid (holds_of_block hblk (by simpa using htk))
    have hcm := hid hcm
    go_wp2_with fail
    refine (Tryz.slices_Sort_string g 0 cap L w1 hH.out hgl (by omega)).mono ?_
    rintro e w2 ⟨rfl, n, os, rfl⟩
    rw [hM]
    have hb2 := hid (hg1.out.2.grown (grownBy_sorted (n := n) (os := os) M.toArray) hg1.out.2.size (fun j hj => by cases hj; exact hb))
    have hblk2 := hblk2 n os
    have hH2 := hid (holds_of_block (ss := M) hblk2 (take_putCells cur M (by rw [hlen.out]; omega)))
    generalize grow (putRow encStr (Sort.ahead w1 n) g 0 M.toArray) os = w2 at *
    have hsz2 : (putCells encStr 0 M.toArray cur).size = cap * 1 := by simp [putCells]; omega
    have hfin := hid (fun q => own_compact (q := q) (ts := compact M) (compact_length_le M) hb hblk2 (by rw [hlen.out]; exact hnc) hcm.out hsz2)
    have hgb := hid (fun q (d : List (List UInt8)) => by have := grownBy_sorted (w := w2) (g := g) (n := q) (os := #[]) d.toArray; rwa [grow_empty] at this)
    clear hblk2 hblk htk hsz hsz2 hH hgr
    have hcp := hid (Tryz.slices_Compact_string g 0 cap M w2 hH2.out (by rw [hlen.out]; omega) (by rw [hlen.out]; exact hnc))
    rw [hlen.out] at hcp
    go_wp2_with fail
    refine hcp.out.mono ?_
    rintro e w3 ⟨rfl, q, rfl⟩
    have h3 := hid (hb2.out.grown (hgb.out q (compact M ++ List.replicate (L.length - (compact M).length) [])) hb2.out.size (fun j hj => by cases hj; exact hb))
    have h4 := hfin.out q
    rw [hlen.out] at h4
    have h4 := hid h4
    generalize putRow encStr (Sort.ahead w2 q) g 0 (compact M ++ List.replicate (L.length - (compact M).length) []).toArray = w3 at *
    go_wp2_with fail
    go_ret
    rw [← hcs.out]
    exact ⟨_, rfl, by simpa using h4.out, h3.out⟩
end Go.Proofs.YtnmomlaimffonaaGreat.C2
