/- Slices of integers of the call's own as the laws handle them: compared, marked, looked at again. -/
import Derived.Test.YtiogceepjffmkaaGreatDoorQC3a
set_option maxHeartbeats 4000000
set_option maxRecDepth 100000
namespace Go.Proofs.YtiogceepjffmkaaGreatDoor.Os
open Go.RowKit Go.Lib Com Mem Ow
abbrev iv (x : Int) : Value := .int .i64 x
abbrev OwnI (lo hi : Nat) (w : World) (v : Value) (l : List Int) : Prop := Own 3 lo hi w v (l.map iv)
theorem OwnI.read_ {lo hi : Nat} {w : World} {v : Value} {l : List Int} (h : OwnI lo hi w v l) : ∃ A c, v = .slice A l.length c ∧ Rd w w.heap.size A (l.map iv) ∧ l.length ≤ c ∧ c ≤ maxLen ∧ (A = none → c = 0) ∧ ∀ ad, A = some ad → ad = ⟨ad.block, 0, none⟩ := by
 have := h.read
 rwa [List.length_map] at this
end Go.Proofs.YtiogceepjffmkaaGreatDoor.Os
set_option maxRecDepth 100000
namespace Go.Proofs.YtiogceepjffmkaaGreatDoor.Tr
open Go.RowKit Go.Lib Go.Sort Com Mem Ow YtiogceepjffmkaaGreatDoor.Os YtiogceepjffmkaaGreatDoor.Nm C2
def varsT : T → List (List UInt8)
 | .mk k _ s ks => (if k = 2 then [s] else []) ++ (ks.attach.map fun ⟨a, _⟩ => varsT a).flatten
termination_by t => SizeOf.sizeOf t
decreasing_by have := List.sizeOf_lt_of_mem ‹_›; simp only [T.mk.sizeOf_spec]; omega
def varsK (ks : List T) : List (List UInt8) := (ks.map varsT).flatten
theorem varsT_mk (k n : Int) (s : List UInt8) (ks : List T) : varsT (.mk k n s ks) = (if k = 2 then [s] else []) ++ varsK ks := by
 rw [varsT]; simp [varsK]
theorem varsK_take {ks : List T} {m : Nat} (h : m < ks.length) : varsK (ks.take (m + 1)) = varsK (ks.take m) ++ varsT ks[m] := by
 unfold varsK
 rw [List.take_succ_eq_append_getElem h, List.map_append, List.flatten_append]; simp
theorem varsK_len (ks : List T) (h : ∀ a ∈ ks, (varsT a).length ≤ cntT a) : (varsK ks).length ≤ cntK ks := by
 induction ks with
 | nil => simp [varsK, cntK]
 | cons a r ih =>
  have h1 := ih fun x hx => h x (by simp [hx])
  have h2 := h a (by simp)
  simp only [varsK, cntK, List.map_cons, List.flatten_cons, List.length_append, List.sum_cons] at *
  omega
theorem varsT_len (t : T) : (varsT t).length ≤ cntT t := by
 induction t using T.ind with
 | h k n s ks ih =>
  have := varsK_len ks ih
  rw [varsT_mk, cntT_mk, List.length_append]
  split <;> simp <;> omega
structure KeepS (ty : TypeId) (w w' : World) : Prop where
 size : w.heap.size ≤ w'.heap.size
 block : ∀ (k : Nat) (c : Array Value) (t : TypeId) (fr : Nat × Nat), w.heap[k]? = some (Obj.cells c t fr) → t ≠ ty → w'.heap[k]? = w.heap[k]?
theorem KeepS.refl (ty : TypeId) (w : World) : KeepS ty w w := ⟨Nat.le_refl _, fun _ _ _ _ _ _ => rfl⟩
theorem KeepS.trans {ty : TypeId} {a b c : World} (h : KeepS ty a b) (k : KeepS ty b c) : KeepS ty a c :=
 ⟨Nat.le_trans h.size k.size, fun i cs t fr hi ht => by
  have h1 := h.block i cs t fr hi ht
  rw [← h1]
  exact k.block i cs t fr (h1.trans hi) ht⟩
theorem KeepS.of_below {ty : TypeId} {w w' : World} (h : Below w.heap.size w w') : KeepS ty w w' :=
 ⟨h.size, fun k c t fr hk _ => h.block k (by
  rcases Nat.lt_or_ge k w.heap.size with hl | hl
  ·exact hl
  ·rw [Array.getElem?_eq_none hl] at hk; cases hk)⟩
theorem KeepS.of_grow {ty : TypeId} {w0 w w' : World} {v : Value} {xs : List Value} (hg : Grow ty w0 w v xs) (h : w.grownBy w' v.ownBlock) : KeepS ty w w' :=
 ⟨h.size, fun k c t fr hk ht => by
  have hlt : k < w.heap.size := by
   rcases Nat.lt_or_ge k w.heap.size with hl | hl
   ·exact hl
   ·rw [Array.getElem?_eq_none hl] at hk; cases hk
  refine h.block k hlt fun e => ?_
  obtain ⟨_, _, cs, hb⟩ := (Own.of_grow hg).block_ e.symm
  unfold Blk at hb
  rw [hk] at hb
  injection hb with h1; injection h1 with _ h2 _
  exact ht h2⟩
theorem KeepS.blk {ty t : TypeId} {w w' : World} {g : Nat} {cs : List Value} (h : KeepS ty w w') (hb : Blk w g t cs) (ht : t ≠ ty) : Blk w' g t cs := (h.block g _ t _ hb ht).trans hb
theorem svars (t : T) : ∀ (v lv : Value) (w0 w : World) (L : List (List UInt8)), Ex w0 w0.heap.size v t → Grow 9 w0 w lv (L.map sv) → L.length + cntT t ≤ 4000000 →
  Calls Tryz.prog 178 #[v, lv] w fun e w' => ∃ lv', e = .returned lv' ∧ Grow 9 w0 w' lv' ((L ++ varsT t).map sv) ∧ KeepS 9 w w' := by
 induction t using T.ind with
 | h k n s ks ih =>
  intro v lv w0 w L hv hg hbd
  obtain ⟨A, c, vs, rfl, hs, hl, hk⟩ := hv.kids
  have hb1 := box_below w (.cells #[.int .i64 k, .int .i64 n, sv s, .slice A ks.length c] 58)
  have hblk := hid (box_blk w k n s A ks.length c 58)
  have hg1 := hid (hg.below hb1 (Nat.le_refl _))
  have hk1 := hid (KeepS.of_below (ty := 9) hb1)
  have hmk := hid (varsT_mk k n s ks)
  rw [cntT_mk] at hbd
  have h0 := hid (show varsK (ks.take 0) = [] by simp [varsK])
  clear hv hb1
  generalize hL : ks.length = N at *
  go_enter Tryz.func178, Tryz.ntmps178
  by_cases h2 : k = 2
  ·subst h2
   have hmk' := hid (show varsT (.mk 2 n s ks) = [s] ++ varsK ks from hmk.out)
   clear hmk
   go_wp2_with (at_builtin; refine hg1.out.append strT (sv s) rfl (by simp; omega) rfl _ _ rfl rfl (congrArg (fun n => Value.slice (some ⟨n, 0, none⟩) 1 1) (size_alloc' w _).symm) ?_; intro v1 w1 hg2 hgb _; have hg2 := hid hg2; have hk2 := hid (hk1.out.trans (KeepS.of_grow hg1.out hgb)); have hblk2 := hid ((KeepS.of_grow hg1.out hgb).blk hblk.out (by decide)); clear hgb hg hg1 hk1 hblk)
   go_loopw [1, 5] (fun a i wr => ∃ m : Nat, m ≤ N ∧ i = .int .i64 m ∧ Grow 9 w0 wr a (((L ++ [s]) ++ varsK (ks.take m)).map sv) ∧ KeepS 9 w1 wr) (fun _ i _ => N - (Go.RowKit.intOf i).toNat)
   case atStart => exact ⟨0, Nat.zero_le _, rfl, by rw [h0.out, List.append_nil]; simpa using hg2.out, KeepS.refl _ _⟩
   case round =>
    obtain ⟨m, hm, rfl, hga, hkw⟩ := hrel
    have b3 : wr.cell? ⟨w.heap.size, 3, none⟩ = some (.slice A N c) := (hkw.blk hblk2.out (by decide)).cell 3
    by_cases hlt : m < N
    ·obtain ⟨ad, rfl, hadb, c0, c1, c2, c3, e, k0, k1, k2, k3⟩ := hk.cell m (by omega)
     have hkid := hk.kid m _ (List.getElem?_eq_getElem (by omega))
     have hbw := hga.2
     have adb : (ad.add (m * 4)).block < w0.heap.size := by rw [add_block]; exact hadb
     replace k0 := (hbw.cell (p := ad.add (m * 4)) adb).trans k0
     replace k1 := (hbw.cell (p := ⟨(ad.add (m * 4)).block, (ad.add (m * 4)).off + 1, none⟩) adb).trans k1
     replace k2 := (hbw.cell (p := ⟨(ad.add (m * 4)).block, (ad.add (m * 4)).off + 2, none⟩) adb).trans k2
     replace k3 := (hbw.cell (p := ⟨(ad.add (m * 4)).block, (ad.add (m * 4)).off + 3, none⟩) adb).trans k3
     have hlen : (varsK (ks.take m)).length + cntT ks[m] ≤ cntK ks := by
      have h1 := varsK_len (ks.take m) fun a _ => varsT_len a
      have h2 := cntK_le ks (m + 1)
      rw [cntK_take (by omega)] at h2
      omega
     have hst := hid (varsK_take (ks := ks) (m := m) (by omega))
     have hck := hid (ih ks[m] (List.getElem_mem _) _ _ w0 wr _ hkid hga (by simp only [List.length_append, List.length_singleton]; omega))
     rw [e] at hck
     have hkw := hid hkw
     clear hkid e hbw hga hlen
     go_wp2_with fail
     refine hck.out.mono ?_
     rintro e w2 ⟨lv', rfl, hg', hkw2⟩
     have hg' := hid hg'
     have hkw2 := hid (hkw.out.trans hkw2)
     go_wp2_with fail
     exact ⟨⟨m + 1, hlt, by go_num, by rw [hst.out, ← List.append_assoc]; exact hg'.out, hkw2.out⟩, by simp [Go.RowKit.intOf]; omega⟩
    ·obtain rfl : m = N := by omega
     have hf := hid (show (L ++ [s]) ++ varsK (ks.take m) = L ++ varsT (.mk 2 n s ks) by
      rw [List.take_of_length_le (by omega), hmk'.out, List.append_assoc])
     have hga := hid hga
     have hkw := hid hkw
     go_wp2_with fail
     go_ret
     exact ⟨_, rfl, by rw [← hf.out]; exact hga.out, hk2.out.trans hkw.out⟩
  ·have e2 : (k == 2) = false := beq_false_of_ne h2
   have hmk' := hid (show varsT (.mk k n s ks) = varsK ks by rw [hmk.out, if_neg h2, List.nil_append])
   clear hmk h2 hg
   go_wp2_with fail
   generalize (w.alloc (.cells #[.int .i64 k, .int .i64 n, sv s, .slice A N c] 58)) = w1 at *
   go_loopw [1, 5] (fun a i wr => ∃ m : Nat, m ≤ N ∧ i = .int .i64 m ∧ Grow 9 w0 wr a ((L ++ varsK (ks.take m)).map sv) ∧ KeepS 9 w1 wr) (fun _ i _ => N - (Go.RowKit.intOf i).toNat)
   case atStart => exact ⟨0, Nat.zero_le _, rfl, by rw [h0.out, List.append_nil]; simpa using hg1.out, KeepS.refl _ _⟩
   case round =>
    obtain ⟨m, hm, rfl, hga, hkw⟩ := hrel
    have b3 : wr.cell? ⟨w.heap.size, 3, none⟩ = some (.slice A N c) := (hkw.blk hblk.out (by decide)).cell 3
    by_cases hlt : m < N
    ·obtain ⟨ad, rfl, hadb, c0, c1, c2, c3, e, k0, k1, k2, k3⟩ := hk.cell m (by omega)
     have hkid := hk.kid m _ (List.getElem?_eq_getElem (by omega))
     have hbw := hga.2
     have adb : (ad.add (m * 4)).block < w0.heap.size := by rw [add_block]; exact hadb
     replace k0 := (hbw.cell (p := ad.add (m * 4)) adb).trans k0
     replace k1 := (hbw.cell (p := ⟨(ad.add (m * 4)).block, (ad.add (m * 4)).off + 1, none⟩) adb).trans k1
     replace k2 := (hbw.cell (p := ⟨(ad.add (m * 4)).block, (ad.add (m * 4)).off + 2, none⟩) adb).trans k2
     replace k3 := (hbw.cell (p := ⟨(ad.add (m * 4)).block, (ad.add (m * 4)).off + 3, none⟩) adb).trans k3
     have hlen : (varsK (ks.take m)).length + cntT ks[m] ≤ cntK ks := by
      have h1 := varsK_len (ks.take m) fun a _ => varsT_len a
      have h2 := cntK_le ks (m + 1)
      rw [cntK_take (by omega)] at h2
      omega
     have hst := hid (varsK_take (ks := ks) (m := m) (by omega))
     have hck := hid (ih ks[m] (List.getElem_mem _) _ _ w0 wr _ hkid hga (by simp only [List.length_append]; omega))
     rw [e] at hck
     have hkw := hid hkw
     clear hkid e hbw hga hlen
     go_wp2_with fail
     refine hck.out.mono ?_
     rintro e w2 ⟨lv', rfl, hg', hkw2⟩
     have hg' := hid hg'
     have hkw2 := hid (hkw.out.trans hkw2)
     go_wp2_with fail
     exact ⟨⟨m + 1, hlt, by go_num, by rw [hst.out, ← List.append_assoc]; exact hg'.out, hkw2.out⟩, by simp [Go.RowKit.intOf]; omega⟩
    ·obtain rfl : m = N := by omega
     have hf := hid (show L ++ varsK (ks.take m) = L ++ varsT (.mk k n s ks) by
      rw [List.take_of_length_le (by omega), hmk'.out])
     have hga := hid hga
     have hkw := hid hkw
     go_wp2_with fail
     go_ret
     exact ⟨_, rfl, by rw [← hf.out]; exact hga.out, hk1.out.trans hkw.out⟩
theorem svarsOf (t : T) (v : Value) (w : World) (hv : Ex w w.heap.size v t) (hbd : cntT t ≤ 2000000) :
  Calls Tryz.prog 140 #[v] w fun e w' => ∃ r, e = .returned r ∧ OwnS w.heap.size w'.heap.size w' r (sortU (varsT t)) ∧ Below w.heap.size w w' := by
 obtain ⟨k, n, s, ks⟩ := t
 obtain ⟨A, c, vs, rfl, hs, hl, hk⟩ := hv.kids
 have hb1 := box_below w (.cells #[.int .i64 k, .int .i64 n, sv s, .slice A ks.length c] 58)
 have s1 := size_alloc' w (.cells #[.int .i64 k, .int .i64 n, sv s, .slice A ks.length c] 58)
 have hg := Grow.lit0 9 (w.alloc (.cells #[.int .i64 k, .int .i64 n, sv s, .slice A ks.length c] 58))
 have hcl := svars (.mk k n s ks) _ _ _ _ [] (hv.go hb1) hg (by simp; omega)
 rw [s1] at hcl
 have hcl := hid hcl
 have hlen := hid (varsT_len (.mk k n s ks))
 have hb1 := hid hb1
 generalize hT : T.mk k n s ks = t at *
 clear hg hk hv
 go_enter Tryz.func140, Tryz.ntmps140
 go_wp2_with fail
 refine hcl.out.mono ?_
 rintro e w2 ⟨lv, rfl, hg, _⟩
 rw [List.nil_append] at hg
 have hb2 := hid (hb1.out.trans (hg.2.mono (by omega)))
 obtain ⟨A2, c2, rfl, _, _, hrd, _⟩ := hg.len
 rw [List.length_map]
 have hso := hid (ssort_any A2 c2 (varsT t) w2 hrd (by have := hlen.out; omega))
 clear hg hrd hcl
 go_wp2_with fail
 refine hso.out.mono ?_
 rintro e w3 ⟨r, rfl, hg3⟩
 have hg3 := hid hg3
 go_wp2_with fail
 go_ret
 exact ⟨_, rfl, (Own.of_grow hg3.out).mono hb2.out.size (Nat.le_refl _), hb2.out.trans (hg3.out.2.mono hb2.out.size)⟩
open C3
theorem node_cases {k n : Int} {s : List UInt8} {ks : List T} (h : nodeB k n s ks.length = true) : k = 1 ∨ k = 2 ∨ (k = 3 ∧ ∃ a b, ks = [a, b]) ∨ (k = 4 ∧ ∃ a, ks = [a]) := by
 unfold nodeB at h
 by_cases h1 : k = 1
 ·exact Or.inl h1
 by_cases h2 : k = 2
 ·exact Or.inr (Or.inl h2)
 by_cases h3 : k = 3
 ·rw [if_neg h1, if_neg h2, if_pos h3] at h
  simp only [Bool.and_eq_true, beq_iff_eq] at h
  match ks, h with
  | [a, b], _ => exact Or.inr (Or.inr (Or.inl ⟨h3, a, b, rfl⟩))
  | [], h => simp at h
  | [a], h => simp at h
  | a :: b :: c :: r, h => have := h.2.2; simp at this; omega
 by_cases h4 : k = 4
 ·rw [if_neg h1, if_neg h2, if_neg h3, if_pos h4] at h
  simp only [Bool.and_eq_true, beq_iff_eq] at h
  match ks, h with
  | [a], _ => exact Or.inr (Or.inr (Or.inr ⟨h4, a, rfl⟩))
  | [], h => simp at h
  | a :: b :: r, h => have := h.2.2; simp at this; omega
 rw [if_neg h1, if_neg h2, if_neg h3, if_neg h4] at h
 cases h
theorem allT_1 {k n : Int} {s : List UInt8} {a : T} (h : allT (.mk k n s [a]) = true) : allT a = true := by
 rw [allT_mk] at h; simp at h; exact h.1
theorem allT_2 {k n : Int} {s : List UInt8} {a b : T} (h : allT (.mk k n s [a, b]) = true) : allT a = true ∧ allT b = true := by
 rw [allT_mk] at h; simp at h; exact h.1
end Go.Proofs.YtiogceepjffmkaaGreatDoor.Tr
set_option maxRecDepth 100000
namespace Go.Proofs.YtiogceepjffmkaaGreatDoor.C1
open Go.RowKit Go.Lib Num Com
theorem rfl0 : itoa 0 = [48] := by unfold itoa; rw [if_neg (by omega)]; exact decDigits_one (by omega)
theorem fmt_zero (w : World) : Calls Tryz.prog 173 #[.int .i64 0] w fun e w' => e = .returned (.string ⟨(itoa 0).toArray⟩) ∧ Below w.heap.size w w' := by
 rw [show itoa 0 = [48] from rfl0]
 go_enter Tryz.func173, Tryz.ntmps173
 go_wp2
 go_ret
 exact ⟨rfl, Below.refl _ _⟩
theorem fmt_pos (n : Nat) (h0 : 0 < n) (h1 : n ≤ 9223372036854775807) (w : World) : Calls Tryz.prog 173 #[.int .i64 n] w fun e w' => e = .returned (.string ⟨(decDigits n).toArray⟩) ∧ Below w.heap.size w w' := by
 have hn0 : ((n : Int) == 0) = false := beq_eq_false_iff_ne.2 (by omega)
 have hlt : decide ((n : Int) < 0) = false := by simp
 go_enter Tryz.func173, Tryz.ntmps173
 go_wp2
 go_loopw [0, 4] (fun a o wr => ∃ (k : Nat) (l : List UInt8), k ≤ n ∧ a = .int .i64 k ∧ o = .string ⟨l.toArray⟩ ∧ digs k ++ l = digs n ∧ Below w.heap.size w wr) (fun a _ _ => (Go.RowKit.intOf a).toNat)
 case atStart => exact ⟨n, [], Nat.le_refl _, rfl, rfl, List.append_nil _, Below.refl _ _⟩
 case round =>
  obtain ⟨k, l, hk, rfl, rfl, hl, hb⟩ := hrel
  by_cases hk0 : k = 0
  ·subst hk0
   go_wp2
   go_ret
   exact ⟨by simp [digs] at hl; rw [if_neg (by omega)] at hl; simp [hl], hb⟩
  ·have hkne : ((k : Int) != 0) = true := by rw [bne_iff_ne]; omega
   have hm : decide ((k : Int) % 10 < 0) = false := by simp; omega
   have hcv := run_str1 wr (48 + (k : Int) % 10) (by omega) (by omega)
   have hsz : l.length ≤ 20 := by
    have := congrArg List.length hl
    rw [List.length_append, digs_len n (by omega)] at this
    have := nDigits_le20 n (by omega)
    omega
   go_wp2
   refine ⟨⟨k / 10, UInt8.ofNat (48 + k % 10) :: l, by omega, by go_num, str_cons _ _, ?_, hb.alloc hb.size _⟩, by simp [Go.RowKit.intOf]; omega⟩
   rw [← hl, digs_step hk0]; simp
theorem fmt_neg (n : Nat) (h0 : 0 < n) (h1 : n ≤ 9223372036854775808) (w : World) : Calls Tryz.prog 173 #[.int .i64 (-(n : Int))] w fun e w' => e = .returned (.string ⟨(45 :: decDigits n).toArray⟩) ∧ Below w.heap.size w w' := by
 have hn0 : ((-(n : Int)) == 0) = false := beq_eq_false_iff_ne.2 (by omega)
 have hlt : decide (-(n : Int) < 0) = true := by simp; omega
 go_enter Tryz.func173, Tryz.ntmps173
 go_wp2
 go_loopw [0, 4] (fun a o wr => ∃ (k : Nat) (l : List UInt8), k ≤ n ∧ a = .int .i64 (-(k : Int)) ∧ o = .string ⟨l.toArray⟩ ∧ digs k ++ l = digs n ∧ Below w.heap.size w wr) (fun a _ _ => (- Go.RowKit.intOf a).toNat)
 case atStart => exact ⟨n, [], Nat.le_refl _, rfl, rfl, List.append_nil _, Below.refl _ _⟩
 case round =>
  obtain ⟨k, l, hk, rfl, rfl, hl, hb⟩ := hrel
  have hsz : l.length ≤ 20 := by
   have := congrArg List.length hl
   rw [List.length_append, digs_len n (by omega)] at this
   have := nDigits_le20 n (by omega)
   omega
  by_cases hk0 : k = 0
  ·subst hk0
   go_wp2
   go_ret
   refine ⟨congrArg Ending.returned (congrArg Value.string ((ByteArray.mk_append_mk [45] l).trans ?_)), hb⟩
   simp [digs] at hl; rw [if_neg (by omega)] at hl; rw [hl]; rfl
  ·have hkne : ((-(k : Int)) != 0) = true := by rw [bne_iff_ne]; omega
   have hm : (-(k : Int)).tmod 10 = -((k % 10 : Nat) : Int) := by rw [Int.neg_tmod, Int.tmod_eq_emod_of_nonneg (by omega)]; omega
   have hq : (-(k : Int)).tdiv 10 = -((k / 10 : Nat) : Int) := by rw [Int.neg_tdiv, Int.tdiv_eq_ediv_of_nonneg (by omega)]; omega
   have hst : digs (k / 10) ++ UInt8.ofNat (48 + k % 10) :: l = digs n := by rw [← hl, digs_step hk0]; simp
   by_cases hz : k % 10 = 0
   ·have hcv := run_str1 wr 48 (by omega) (by omega)
    have hst := hid hst
    go_wp2
    refine ⟨⟨k / 10, UInt8.ofNat (48 + k % 10) :: l, by omega, by go_num, ?_, hst.out, hb.alloc hb.size _⟩, by simp [Go.RowKit.intOf]; omega⟩
    rw [hz]; exact str_cons 0 l
   ·have hcv := run_str1 wr (48 + (k : Int) % 10) (by omega) (by omega)
    have hpos : 0 < (k : Int) % 10 := by omega
    have hst := hid hst
    go_wp2
    refine ⟨⟨k / 10, UInt8.ofNat (48 + k % 10) :: l, by omega, by go_num, str_cons _ _, hst.out, hb.alloc hb.size _⟩, by simp [Go.RowKit.intOf]; omega⟩
theorem fmt_any (n : Int) (h0 : -9223372036854775808 ≤ n) (h1 : n ≤ 9223372036854775807) (w : World) : Calls Tryz.prog 173 #[.int .i64 n] w fun e w' => e = .returned (.string ⟨(itoa n).toArray⟩) ∧ Below w.heap.size w w' := by
 rcases Int.lt_trichotomy n 0 with h | h | h
 ·obtain ⟨k, rfl⟩ : ∃ k : Nat, n = -(k : Int) := ⟨n.natAbs, by omega⟩
  have e : itoa (-(k : Int)) = 45 :: decDigits k := by unfold itoa; rw [if_pos h, Int.natAbs_neg, Int.natAbs_natCast]
  rw [e]; exact fmt_neg k (by omega) (by omega) w
 ·subst h; exact fmt_zero w
 ·obtain ⟨k, rfl⟩ : ∃ k : Nat, n = (k : Int) := ⟨n.toNat, by omega⟩
  have e : itoa (k : Int) = decDigits k := by unfold itoa; rw [if_neg (by omega), Int.toNat_natCast]
  rw [e]; exact fmt_pos k (by omega) (by omega) w
end Go.Proofs.YtiogceepjffmkaaGreatDoor.C1
