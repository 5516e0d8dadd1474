/- Slices of integers of the call's own as the laws handle them: compared, marked, looked at again. -/
import Derived.Test.YtnmomlaimffonaaGreatZC3a
set_option maxHeartbeats 4000000
set_option maxRecDepth 100000
namespace Go.Proofs.YtnmomlaimffonaaGreat.Os
open Go.RowKit Go.Lib Com Mem Ow
abbrev iv (x : Int) : Value := .int .i64 x
theorem rd_int {w : World} {B : Nat} {A : Option Addr} {l : List Int} (h : Rd w B A (l.map iv)) {k : Nat} (hk : k < l.length) : ∃ ad, A = some ad ∧ ad.block < B ∧ w.cell? (ad.add k) = some (.int .i64 l[k]) := by
  obtain ⟨ad, e, hb, hc⟩ := h.at_ (k := k) (by simpa using hk)
  exact ⟨ad, e, hb, by rw [hc]; simp⟩
abbrev OwnI (lo hi : Nat) (w : World) (v : Value) (l : List Int) : Prop := Own 3 lo hi w v (l.map iv)
theorem OwnI.read_ {lo hi : Nat} {w : World} {v : Value} {l : List Int} (h : OwnI lo hi w v l) : ∃ A c, v = .slice A l.length c ∧ Rd w w.heap.size A (l.map iv) ∧ l.length ≤ c ∧ c ≤ maxLen ∧ (A = none → c = 0) ∧ ∀ ad, A = some ad → ad = ⟨ad.block, 0, none⟩ := by
  have := h.read
  rwa [List.length_map] at this
end Go.Proofs.YtnmomlaimffonaaGreat.Os
set_option maxRecDepth 100000
namespace Go.Proofs.YtnmomlaimffonaaGreat.Tr
open Go.RowKit Go.Lib Go.Sort Com Mem YtnmomlaimffonaaGreat.Os C2 C3
def readV (L : List (List UInt8)) (S : List Int) (s : List UInt8) : Int := if inB (ixOf L s) 0 ((S.length : Int) - 1) = true then S.getD (ixOf L s).toNat 0 % 4 else 0
theorem sread (AV AS : Option Addr) (cV cS : Nat) (L : List (List UInt8)) (S : List Int) (s : List UInt8) (w : World) (hV : Rd w w.heap.size AV (L.map sv)) (hS : Rd w w.heap.size AS (S.map iv)) (hn : L.length ≤ 9223372036854775807) (hm : S.length ≤ 9223372036854775807) :
    Calls Tryz.prog 144 #[sv s, .slice AV L.length cV, .slice AS S.length cS] w fun e w' => e = .returned (.int .i64 (readV L S s)) ∧ w = w' := by
  have h1 := hid (sindex_any AV cV L s w w.heap.size hV hn)
  have h2 := hid (l1In_any (ixOf L s) 0 ((S.length : Int) - 1) w)
  cases ht : inB (ixOf L s) 0 ((S.length : Int) - 1)
  · rw [ht] at h2
    have hf := hid (show readV L S s = 0 by unfold readV; rw [ht]; rfl)
    go_enter Tryz.func144, Tryz.ntmps144
    go_wp2_with fail
    refine h1.out.mono ?_
    rintro e w' ⟨rfl, rfl⟩
    go_wp2_with fail
    refine h2.out.mono ?_
    rintro e w' ⟨rfl, rfl⟩
    go_wp2_with fail
    go_ret
    exact ⟨by rw [hf.out]; rfl, rfl⟩
  · rw [ht] at h2
    have hin : 0 ≤ ixOf L s ∧ ixOf L s ≤ (S.length : Int) - 1 := by simpa [inB] using ht
    obtain ⟨k, hk⟩ : ∃ k : Nat, ixOf L s = k := ⟨(ixOf L s).toNat, by omega⟩
    have hlt : k < S.length := by omega
    have hf := hid (show readV L S s = S[k] % 4 by
      unfold readV; rw [ht, hk]; simp [List.getD_eq_getElem?_getD, List.getElem?_eq_getElem hlt])
    obtain ⟨ad, rfl, _, hc⟩ := rd_int hS hlt
    have h3 := hid (swrap_any S[k] w)
    rw [hk] at h1 h2
    clear ht hin hk
    go_enter Tryz.func144, Tryz.ntmps144
    go_wp2_with fail
    refine h1.out.mono ?_
    rintro e w' ⟨rfl, rfl⟩
    go_wp2_with fail
    refine h2.out.mono ?_
    rintro e w' ⟨rfl, rfl⟩
    go_wp2_with fail
    refine h3.out.mono ?_
    rintro e w' ⟨rfl, rfl⟩
    go_wp2_with fail
    go_ret
    exact ⟨by rw [hf.out]; rfl, rfl⟩
def evalT (L : List (List UInt8)) (S : List Int) : T → Int × Bool
  | .mk k n s ks =>
    if k = 1 then (n, true) else if k = 2 then (readV L S s, true) else
      match ks with
      | [a] => if (evalT L S a).2 = true then (bit ((evalT L S a).1 == 0), true) else (0, false)
      | [a, b] => if (evalT L S a).2 = true ∧ (evalT L S b).2 = true then (appV n (evalT L S a).1 (evalT L S b).1, appOk n (evalT L S b).1) else (0, false)
      | _ => (0, false)
termination_by t => SizeOf.sizeOf t
theorem node_cases {k n : Int} {s : List UInt8} {ks : List T} (h : nodeB k n s ks.length = true) : k = 1 ∨ k = 2 ∨ (k = 3 ∧ ∃ a b, ks = [a, b]) ∨ (k = 4 ∧ ∃ a, ks = [a]) := by
  unfold nodeB at h
  by_cases h1 : k = 1
  · exact Or.inl h1
  by_cases h2 : k = 2
  · exact Or.inr (Or.inl h2)
  by_cases h3 : k = 3
  · rw [if_neg h1, if_neg h2, if_pos h3] at h
    simp only [Bool.and_eq_true, beq_iff_eq] at h
    match ks, h with
    | [a, b], _ => exact Or.inr (Or.inr (Or.inl ⟨h3, a, b, rfl⟩))
    | [], h => simp at h
    | [a], h => simp at h
    | a :: b :: c :: r, h => have := h.2.2; simp at this; omega
  by_cases h4 : k = 4
  · rw [if_neg h1, if_neg h2, if_neg h3, if_pos h4] at h
    simp only [Bool.and_eq_true, beq_iff_eq] at h
    match ks, h with
    | [a], _ => exact Or.inr (Or.inr (Or.inr ⟨h4, a, rfl⟩))
    | [], h => simp at h
    | a :: b :: r, h => have := h.2.2; simp at this; omega
  rw [if_neg h1, if_neg h2, if_neg h3, if_neg h4] at h
  cases h
theorem evalT_1 (L : List (List UInt8)) (S : List Int) (n : Int) (s : List UInt8) (ks : List T) : evalT L S (.mk 1 n s ks) = (n, true) := by unfold evalT; rfl
theorem evalT_2 (L : List (List UInt8)) (S : List Int) (n : Int) (s : List UInt8) (ks : List T) : evalT L S (.mk 2 n s ks) = (readV L S s, true) := by unfold evalT; rfl
theorem evalT_4 (L : List (List UInt8)) (S : List Int) (n : Int) (s : List UInt8) (a : T) : evalT L S (.mk 4 n s [a]) = if (evalT L S a).2 = true then (bit ((evalT L S a).1 == 0), true) else (0, false) := by rw [evalT]; rfl
theorem evalT_3 (L : List (List UInt8)) (S : List Int) (n : Int) (s : List UInt8) (a b : T) : evalT L S (.mk 3 n s [a, b]) = if (evalT L S a).2 = true ∧ (evalT L S b).2 = true then (appV n (evalT L S a).1 (evalT L S b).1, appOk n (evalT L S b).1) else (0, false) := by rw [evalT]; rfl
theorem allT_1 {k n : Int} {s : List UInt8} {a : T} (h : allT (.mk k n s [a]) = true) : allT a = true := by
  rw [allT_mk] at h; simp at h; exact h.1
theorem allT_2 {k n : Int} {s : List UInt8} {a b : T} (h : allT (.mk k n s [a, b]) = true) : allT a = true ∧ allT b = true := by
  rw [allT_mk] at h; simp at h; exact h.1
def EvS (L : List (List UInt8)) (S : List Int) (t : T) : Prop := ∀ (v : Value) (AV AS : Option Addr) (cV cS : Nat) (w : World), allT t = true → Ex w w.heap.size v t → Rd w w.heap.size AV (L.map sv) → Rd w w.heap.size AS (S.map iv) →
  Calls Tryz.prog 130 #[v, .slice AV L.length cV, .slice AS S.length cS] w fun e w' => e = .returned (.tuple #[.int .i64 (evalT L S t).1, .bool (evalT L S t).2]) ∧ Below w.heap.size w w'
theorem rd_go {w w' : World} {A : Option Addr} {xs : List Value} (h : Rd w w.heap.size A xs) (hb : Below w.heap.size w w') : Rd w' w'.heap.size A xs := (h.below hb).more hb.size
theorem seval3 (L : List (List UInt8)) (S : List Int) (n : Int) (s : List UInt8) (a b : T) (iha : EvS L S a) (ihb : EvS L S b) (ha : allT a = true) (hb : allT b = true) (A AV AS : Option Addr) (c cV cS : Nat) (vs : Nat → Value) (w : World) (hk : Kids w w.heap.size A [a, b] vs) (hV : Rd w w.heap.size AV (L.map sv)) (hS : Rd w w.heap.size AS (S.map iv)) :
    Calls Tryz.prog 130 #[nv 3 n s A 2 c, .slice AV L.length cV, .slice AS S.length cS] w fun e w' => e = .returned (.tuple #[.int .i64 (evalT L S (.mk 3 n s [a, b])).1, .bool (evalT L S (.mk 3 n s [a, b])).2]) ∧ Below w.heap.size w w' := by
  have hb1 := box_below w (.cells #[.int .i64 3, .int .i64 n, sv s, .slice A 2 c] 92)
  have hblk := hid (box_blk w 3 n s A 2 c 92)
  have hk1 := hk.go hb1
  have hV1 := hid (rd_go hV hb1)
  have hS1 := hid (rd_go hS hb1)
  replace hb1 := hid hb1
  have hf := hid (evalT_3 L S n s a b)
  obtain ⟨ad, hA, _, c0, c1, c2, c3, e0, k0, k1, k2, k3⟩ := hk1.cell 0 (by simp)
  subst hA
  have x0 := hk1.kid 0 a rfl
  rw [e0] at x0
  have p0 : (w.alloc (.cells #[.int .i64 3, .int .i64 n, sv s, .slice (some ad) 2 c] 92)).cell? ad = some c0 := k0
  have p1 : (w.alloc (.cells #[.int .i64 3, .int .i64 n, sv s, .slice (some ad) 2 c] 92)).cell? ⟨ad.block, ad.off + 1, none⟩ = some c1 := k1
  have p2 : (w.alloc (.cells #[.int .i64 3, .int .i64 n, sv s, .slice (some ad) 2 c] 92)).cell? ⟨ad.block, ad.off + 2, none⟩ = some c2 := k2
  have p3 : (w.alloc (.cells #[.int .i64 3, .int .i64 n, sv s, .slice (some ad) 2 c] 92)).cell? ⟨ad.block, ad.off + 3, none⟩ = some c3 := k3
  have hcl := hid (iha _ AV AS cV cS _ ha x0 hV1.out hS1.out)
  have hk1 := hid hk1
  have hihb := hid ihb
  clear hk hV hS e0 x0 k0 k1 k2 k3
  go_enter Tryz.func130, Tryz.ntmps130
  go_wp2_with fail
  refine hcl.out.mono ?_
  rintro e w2 ⟨rfl, hb2⟩
  have hblk2 := hid (hblk.out.below hb2 hblk.out.lt)
  have b3 : w2.cell? ⟨w.heap.size, 3, none⟩ = some (.slice (some ad) 2 c) := hblk2.out.cell 3
  have hk2 := hk1.out.go hb2
  obtain ⟨ad', hA', _, d0, d1, d2, d3, e1, l0, l1, l2, l3⟩ := hk2.cell 1 (by simp)
  obtain rfl : ad = ad' := Option.some.inj hA'
  have x1 := hk2.kid 1 b rfl
  rw [e1] at x1
  have p0 : w2.cell? ⟨ad.block, ad.off + 4, none⟩ = some d0 := l0
  have p1 : w2.cell? ⟨ad.block, ad.off + 4 + 1, none⟩ = some d1 := l1
  have p2 : w2.cell? ⟨ad.block, ad.off + 4 + 2, none⟩ = some d2 := l2
  have p3 : w2.cell? ⟨ad.block, ad.off + 4 + 3, none⟩ = some d3 := l3
  have hcl2 := hid (hihb.out _ AV AS cV cS _ hb x1 (rd_go hV1.out hb2) (rd_go hS1.out hb2))
  replace hb2 := hid (hb1.out.trans (hb2.mono hb1.out.size))
  clear hk2 hA' e1 x1 l0 l1 l2 l3 hcl
  generalize evalT L S a = ra at *
  generalize evalT L S b = rb at *
  obtain ⟨xa, oa⟩ := ra
  obtain ⟨xb, ob⟩ := rb
  go_wp2_with fail
  refine hcl2.out.mono ?_
  rintro e w3 ⟨rfl, hb3⟩
  have b1 : w3.cell? ⟨w.heap.size, 1, none⟩ = some (.int .i64 n) := (hblk2.out.below hb3 hblk2.out.lt).cell 1
  replace hb3 := hid (hb2.out.trans (hb3.mono hb2.out.size))
  clear b3 p0 p1 p2 p3 hcl2
  cases oa
  · have hf := hid (hf.out.trans (if_neg (by simp)))
    go_wp2_with fail
    go_ret2
    exact ⟨by rw [hf.out]; rfl, hb3.out⟩
  · cases ob
    · have hf := hid (hf.out.trans (if_neg (by simp)))
      go_wp2_with fail
      go_ret2
      exact ⟨by rw [hf.out]; rfl, hb3.out⟩
    · have hf := hid (hf.out.trans (if_pos (by simp)))
      have hap := hid (sapply_any n xa xb w3)
      go_wp2_with fail
      refine hap.out.mono ?_
      rintro e w4 ⟨rfl, rfl⟩
      go_wp2_with fail
      go_ret2
      exact ⟨by rw [hf.out]; rfl, hb3.out⟩
theorem seval4 (L : List (List UInt8)) (S : List Int) (n : Int) (s : List UInt8) (a : T) (iha : EvS L S a) (ha : allT a = true) (A AV AS : Option Addr) (c cV cS : Nat) (vs : Nat → Value) (w : World) (hk : Kids w w.heap.size A [a] vs) (hV : Rd w w.heap.size AV (L.map sv)) (hS : Rd w w.heap.size AS (S.map iv)) :
    Calls Tryz.prog 130 #[nv 4 n s A 1 c, .slice AV L.length cV, .slice AS S.length cS] w fun e w' => e = .returned (.tuple #[.int .i64 (evalT L S (.mk 4 n s [a])).1, .bool (evalT L S (.mk 4 n s [a])).2]) ∧ Below w.heap.size w w' := by
  have hb1 := box_below w (.cells #[.int .i64 4, .int .i64 n, sv s, .slice A 1 c] 92)
  have hk1 := hk.go hb1
  have hV1 := hid (rd_go hV hb1)
  have hS1 := hid (rd_go hS hb1)
  replace hb1 := hid hb1
  have hf := hid (evalT_4 L S n s a)
  obtain ⟨ad, hA, _, c0, c1, c2, c3, e0, k0, k1, k2, k3⟩ := hk1.cell 0 (by simp)
  subst hA
  have x0 := hk1.kid 0 a rfl
  rw [e0] at x0
  have p0 : (w.alloc (.cells #[.int .i64 4, .int .i64 n, sv s, .slice (some ad) 1 c] 92)).cell? ad = some c0 := k0
  have p1 : (w.alloc (.cells #[.int .i64 4, .int .i64 n, sv s, .slice (some ad) 1 c] 92)).cell? ⟨ad.block, ad.off + 1, none⟩ = some c1 := k1
  have p2 : (w.alloc (.cells #[.int .i64 4, .int .i64 n, sv s, .slice (some ad) 1 c] 92)).cell? ⟨ad.block, ad.off + 2, none⟩ = some c2 := k2
  have p3 : (w.alloc (.cells #[.int .i64 4, .int .i64 n, sv s, .slice (some ad) 1 c] 92)).cell? ⟨ad.block, ad.off + 3, none⟩ = some c3 := k3
  have hcl := hid (iha _ AV AS cV cS _ ha x0 hV1.out hS1.out)
  clear hk hV hS e0 x0 k0 k1 k2 k3 hk1 hV1 hS1
  go_enter Tryz.func130, Tryz.ntmps130
  go_wp2_with fail
  refine hcl.out.mono ?_
  rintro e w2 ⟨rfl, hb2⟩
  replace hb2 := hid (hb1.out.trans (hb2.mono hb1.out.size))
  clear hcl p0 p1 p2 p3
  generalize evalT L S a = ra at *
  obtain ⟨xa, oa⟩ := ra
  cases oa
  · have hf := hid (hf.out.trans (if_neg (by simp)))
    go_wp2_with fail
    go_ret2
    exact ⟨by rw [hf.out]; rfl, hb2.out⟩
  · have hf := hid (hf.out.trans (if_pos (by simp)))
    have hap := hid (sbit_any (xa == 0) w2)
    go_wp2_with fail
    refine hap.out.mono ?_
    rintro e w4 ⟨rfl, rfl⟩
    go_wp2_with fail
    go_ret2
    exact ⟨by rw [hf.out]; rfl, hb2.out⟩
theorem seval (L : List (List UInt8)) (S : List Int) (hn : L.length ≤ 9223372036854775807) (hm : S.length ≤ 9223372036854775807) (t : T) : EvS L S t := by
  induction t using T.ind with
  | h k n s ks ih =>
    intro v AV AS cV cS w hall hv hV hS
    obtain ⟨A, c, vs, rfl, hs, hl, hk⟩ := hv.kids
    have hnode : nodeB k n s ks.length = true := by rw [allT_mk, Bool.and_eq_true] at hall; exact hall.2
    rcases node_cases hnode with rfl | rfl | ⟨rfl, a, b, rfl⟩ | ⟨rfl, a, rfl⟩
    · have hb1 := hid (box_below w (.cells #[.int .i64 1, .int .i64 n, sv s, .slice A ks.length c] 92))
      have hf := hid (evalT_1 L S n s ks)
      clear hk hV hS hv hall hnode
      go_enter Tryz.func130, Tryz.ntmps130
      go_wp2_with fail
      go_ret2
      exact ⟨by rw [hf.out]; rfl, hb1.out⟩
    · have hb1 := box_below w (.cells #[.int .i64 2, .int .i64 n, sv s, .slice A ks.length c] 92)
      have hf := hid (evalT_2 L S n s ks)
      have h1 := hid (sread AV AS cV cS L S s _ (rd_go hV hb1) (rd_go hS hb1) hn hm)
      replace hb1 := hid hb1
      clear hk hV hS hv hall hnode
      go_enter Tryz.func130, Tryz.ntmps130
      go_wp2_with fail
      refine h1.out.mono ?_
      rintro e w' ⟨rfl, rfl⟩
      go_wp2_with fail
      go_ret2
      exact ⟨by rw [hf.out]; rfl, hb1.out⟩
    · exact seval3 L S n s a b (ih a (by simp)) (ih b (by simp)) (allT_2 hall).1 (allT_2 hall).2 A AV AS c cV cS vs w hk hV hS
    · exact seval4 L S n s a (ih a (by simp)) (allT_1 hall) A AV AS c cV cS vs w hk hV hS
def evT (L : List (List UInt8)) (S : List Int) (t : T) : Int × Bool := if okT t = true then evalT L S t else (0, false)
theorem sevalOf (L : List (List UInt8)) (S : List Int) (hn : L.length ≤ 9223372036854775807) (hm : S.length ≤ 9223372036854775807) (t : T) (v : Value) (AV AS : Option Addr) (cV cS : Nat) (w : World) (hv : Ex w w.heap.size v t) (hbd : cntT t ≤ 2000000) (hV : Rd w w.heap.size AV (L.map sv)) (hS : Rd w w.heap.size AS (S.map iv)) :
    Calls Tryz.prog 111 #[v, .slice AV L.length cV, .slice AS S.length cS] w fun e w' => e = .returned (.tuple #[.int .i64 (evT L S t).1, .bool (evT L S t).2]) ∧ Below w.heap.size w w' := by
  obtain ⟨k, n, s, ks⟩ := t
  obtain ⟨A, c, vs, rfl, hs, hl, hk⟩ := hv.kids
  have hb1 := box_below w (.cells #[.int .i64 k, .int .i64 n, sv s, .slice A ks.length c] 92)
  have hblk := hid (box_blk w k n s A ks.length c 92)
  have hv1 := hid (hv.go hb1)
  have hV1 := hid (rd_go hV hb1)
  have hS1 := hid (rd_go hS hb1)
  replace hb1 := hid hb1
  generalize hT : T.mk k n s ks = t at *
  have c1 := svalidE t _ _ hv1.out hbd
  have hall := hid (fun (h : okT t = true) => show allT t = true by unfold okT at h; simp only [Bool.and_eq_true] at h; exact h.2.2)
  clear hk hv hV hS
  cases hok : okT t with
  | true =>
    rw [hok] at c1
    have c1 := hid c1
    have hf := hid (show evT L S t = evalT L S t by unfold evT; rw [if_pos hok])
    have hall := hall.out hok
    clear hok
    go_enter Tryz.func111, Tryz.ntmps111
    go_wp2_with fail
    refine c1.out.mono ?_
    rintro e w2 ⟨rfl, hb2⟩
    have hblk2 := hblk.out.below hb2 hblk.out.lt
    have b0 : w2.cell? ⟨w.heap.size, 0, none⟩ = some (.int .i64 k) := hblk2.cell 0
    have b1 : w2.cell? ⟨w.heap.size, 1, none⟩ = some (.int .i64 n) := hblk2.cell 1
    have b2 : w2.cell? ⟨w.heap.size, 2, none⟩ = some (sv s) := hblk2.cell 2
    have b3 : w2.cell? ⟨w.heap.size, 3, none⟩ = some (.slice A ks.length c) := hblk2.cell 3
    have c2 := hid (seval L S hn hm t _ AV AS cV cS w2 hall (hv1.out.go hb2) (rd_go hV1.out hb2) (rd_go hS1.out hb2))
    replace hb2 := hid (hb1.out.trans (hb2.mono hb1.out.size))
    clear hblk2 hall
    go_wp2_with fail
    refine c2.out.mono ?_
    rintro e w3 ⟨rfl, hb3⟩
    replace hb3 := hid (hb2.out.trans (hb3.mono hb2.out.size))
    go_wp2_with fail
    go_ret2
    exact ⟨by rw [hf.out]; rfl, hb3.out⟩
  | false =>
    rw [hok] at c1
    have c1 := hid c1
    have hf := hid (show evT L S t = (0, false) by unfold evT; rw [if_neg (by rw [hok]; simp)])
    clear hok
    go_enter Tryz.func111, Tryz.ntmps111
    go_wp2_with fail
    refine c1.out.mono ?_
    rintro e w2 ⟨rfl, hb2⟩
    replace hb2 := hid (hb1.out.trans (hb2.mono hb1.out.size))
    go_wp2_with fail
    go_ret2
    exact ⟨by rw [hf.out]; rfl, hb2.out⟩
end Go.Proofs.YtnmomlaimffonaaGreat.Tr
