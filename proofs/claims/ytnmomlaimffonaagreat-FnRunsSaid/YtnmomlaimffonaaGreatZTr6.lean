/- Expressions as trees: their variables, by the model. -/
import Derived.Test.YtnmomlaimffonaaGreatZTr
import Derived.Test.YtnmomlaimffonaaGreatZMp
set_option maxHeartbeats 4000000
set_option maxRecDepth 100000
namespace Go.Proofs.YtnmomlaimffonaaGreat.Tr
open Go.RowKit Go.Lib Go.Sort Com Mem Ow YtnmomlaimffonaaGreat.Os YtnmomlaimffonaaGreat.Nm C2
def varsT : T → List (List UInt8)
  | .mk k _ s ks => (if k = 2 then [s] else []) ++ (ks.attach.map fun ⟨a, _⟩ => varsT a).flatten
termination_by t => SizeOf.sizeOf t
decreasing_by have := List.sizeOf_lt_of_mem ‹_›; simp only [T.mk.sizeOf_spec]; omega
def varsK (ks : List T) : List (List UInt8) := (ks.map varsT).flatten
theorem varsT_mk (k n : Int) (s : List UInt8) (ks : List T) : varsT (.mk k n s ks) = (if k = 2 then [s] else []) ++ varsK ks := by
  rw [varsT]; simp [varsK]
theorem varsK_take {ks : List T} {m : Nat} (h : m < ks.length) : varsK (ks.take (m + 1)) = varsK (ks.take m) ++ varsT ks[m] := by
  unfold varsK
  rw [List.take_succ_eq_append_getElem h, List.map_append, List.flatten_append]; simp
theorem varsK_len (ks : List T) (h : ∀ a ∈ ks, (varsT a).length ≤ cntT a) : (varsK ks).length ≤ cntK ks := by
  induction ks with
  | nil => simp [varsK, cntK]
  | cons a r ih =>
    have h1 := ih fun x hx => h x (by simp [hx])
    have h2 := h a (by simp)
    simp only [varsK, cntK, List.map_cons, List.flatten_cons, List.length_append, List.sum_cons] at *
    omega
theorem varsT_len (t : T) : (varsT t).length ≤ cntT t := by
  induction t using T.ind with
  | h k n s ks ih =>
    have := varsK_len ks ih
    rw [varsT_mk, cntT_mk, List.length_append]
    split <;> simp <;> omega
structure KeepS (ty : TypeId) (w w' : World) : Prop where
  size : w.heap.size ≤ w'.heap.size
  block : ∀ (k : Nat) (c : Array Value) (t : TypeId) (fr : Nat × Nat), w.heap[k]? = some (Obj.cells c t fr) → t ≠ ty → w'.heap[k]? = w.heap[k]?
theorem KeepS.refl (ty : TypeId) (w : World) : KeepS ty w w := ⟨Nat.le_refl _, fun _ _ _ _ _ _ => rfl⟩
theorem KeepS.trans {ty : TypeId} {a b c : World} (h : KeepS ty a b) (k : KeepS ty b c) : KeepS ty a c :=
  ⟨Nat.le_trans h.size k.size, fun i cs t fr hi ht => by
    have h1 := h.block i cs t fr hi ht
    rw [← h1]
    exact k.block i cs t fr (h1.trans hi) ht⟩
theorem KeepS.of_below {ty : TypeId} {w w' : World} (h : Below w.heap.size w w') : KeepS ty w w' :=
  ⟨h.size, fun k c t fr hk _ => h.block k (by
    rcases Nat.lt_or_ge k w.heap.size with hl | hl
    · exact hl
    · rw [Array.getElem?_eq_none hl] at hk; cases hk)⟩
theorem KeepS.of_grow {ty : TypeId} {w0 w w' : World} {v : Value} {xs : List Value} (hg : Grow ty w0 w v xs) (h : w.grownBy w' v.ownBlock) : KeepS ty w w' :=
  ⟨h.size, fun k c t fr hk ht => by
    have hlt : k < w.heap.size := by
      rcases Nat.lt_or_ge k w.heap.size with hl | hl
      · exact hl
      · rw [Array.getElem?_eq_none hl] at hk; cases hk
    refine h.block k hlt fun e => ?_
    obtain ⟨_, _, cs, hb⟩ := (Own.of_grow hg).block_ e.symm
    unfold Blk at hb
    rw [hk] at hb
    injection hb with h1; injection h1 with _ h2 _
    exact ht h2⟩
theorem KeepS.blk {ty t : TypeId} {w w' : World} {g : Nat} {cs : List Value} (h : KeepS ty w w') (hb : Blk w g t cs) (ht : t ≠ ty) : Blk w' g t cs := (h.block g _ t _ hb ht).trans hb
theorem svars (t : T) : ∀ (v lv : Value) (w0 w : World) (L : List (List UInt8)), Ex w0 w0.heap.size v t → Grow 9 w0 w lv (L.map sv) → L.length + cntT t ≤ 4000000 →
    Calls Tryz.prog 143 #[v, lv] w fun e w' => ∃ lv', e = .returned lv' ∧ Grow 9 w0 w' lv' ((L ++ varsT t).map sv) ∧ KeepS 9 w w' := by
  induction t using T.ind with
  | h k n s ks ih =>
    intro v lv w0 w L hv hg hbd
    obtain ⟨A, c, vs, rfl, hs, hl, hk⟩ := hv.kids
    have hb1 := box_below w (.cells #[.int .i64 k, .int .i64 n, sv s, .slice A ks.length c] 92)
    have hblk := hid (box_blk w k n s A ks.length c 92)
    have hg1 := hid (hg.below hb1 (Nat.le_refl _))
    have hk1 := hid (KeepS.of_below (ty := 9) hb1)
    have hmk := hid (varsT_mk k n s ks)
    rw [cntT_mk] at hbd
    have h0 := hid (show varsK (ks.take 0) = [] by simp [varsK])
    clear hv hb1
    generalize hL : ks.length = N at *
    go_enter Tryz.func143, Tryz.ntmps143
    by_cases h2 : k = 2
    · subst h2
      have hmk' := hid (show varsT (.mk 2 n s ks) = [s] ++ varsK ks from hmk.out)
      clear hmk
      go_wp2_with (at_builtin; refine hg1.out.append strT (sv s) rfl (by simp; omega) rfl _ _ rfl rfl (congrArg (fun n => Value.slice (some ⟨n, 0, none⟩) 1 1) (size_alloc' w _).symm) ?_; intro v1 w1 hg2 hgb _; have hg2 := hid hg2; have hk2 := hid (hk1.out.trans (KeepS.of_grow hg1.out hgb)); have hblk2 := hid ((KeepS.of_grow hg1.out hgb).blk hblk.out (by decide)); clear hgb hg hg1 hk1 hblk)
      go_loopw [1, 5] (fun a i wr => ∃ m : Nat, m ≤ N ∧ i = .int .i64 m ∧ Grow 9 w0 wr a (((L ++ [s]) ++ varsK (ks.take m)).map sv) ∧ KeepS 9 w1 wr) (fun _ i _ => N - (Go.RowKit.intOf i).toNat)
      case atStart => exact ⟨0, Nat.zero_le _, rfl, by rw [h0.out, List.append_nil]; simpa using hg2.out, KeepS.refl _ _⟩
      case round =>
        obtain ⟨m, hm, rfl, hga, hkw⟩ := hrel
        have b3 : wr.cell? ⟨w.heap.size, 3, none⟩ = some (.slice A N c) := (hkw.blk hblk2.out (by decide)).cell 3
        by_cases hlt : m < N
        · obtain ⟨ad, rfl, hadb, c0, c1, c2, c3, e, k0, k1, k2, k3⟩ := hk.cell m (by omega)
          have hkid := hk.kid m _ (List.getElem?_eq_getElem (by omega))
          have hbw := hga.2
          have adb : (ad.add (m * 4)).block < w0.heap.size := by rw [add_block]; exact hadb
          replace k0 := (hbw.cell (p := ad.add (m * 4)) adb).trans k0
          replace k1 := (hbw.cell (p := ⟨(ad.add (m * 4)).block, (ad.add (m * 4)).off + 1, none⟩) adb).trans k1
          replace k2 := (hbw.cell (p := ⟨(ad.add (m * 4)).block, (ad.add (m * 4)).off + 2, none⟩) adb).trans k2
          replace k3 := (hbw.cell (p := ⟨(ad.add (m * 4)).block, (ad.add (m * 4)).off + 3, none⟩) adb).trans k3
          have hlen : (varsK (ks.take m)).length + cntT ks[m] ≤ cntK ks := by
            have h1 := varsK_len (ks.take m) fun a _ => varsT_len a
            have h2 := cntK_le ks (m + 1)
            rw [cntK_take (by omega)] at h2
            omega
          have hst := hid (varsK_take (ks := ks) (m := m) (by omega))
          have hck := hid (ih ks[m] (List.getElem_mem _) _ _ w0 wr _ hkid hga (by simp only [List.length_append, List.length_singleton]; omega))
          rw [e] at hck
          have hkw := hid hkw
          clear hkid e hbw hga hlen
          go_wp2_with fail
          refine hck.out.mono ?_
          rintro e w2 ⟨lv', rfl, hg', hkw2⟩
          have hg' := hid hg'
          have hkw2 := hid (hkw.out.trans hkw2)
          go_wp2_with fail
          exact ⟨⟨m + 1, hlt, by go_num, by rw [hst.out, ← List.append_assoc]; exact hg'.out, hkw2.out⟩, by simp [Go.RowKit.intOf]; omega⟩
        · obtain rfl : m = N := by omega
          have hf := hid (show (L ++ [s]) ++ varsK (ks.take m) = L ++ varsT (.mk 2 n s ks) by
            rw [List.take_of_length_le (by omega), hmk'.out, List.append_assoc])
          have hga := hid hga
          have hkw := hid hkw
          go_wp2_with fail
          go_ret
          exact ⟨_, rfl, by rw [← hf.out]; exact hga.out, hk2.out.trans hkw.out⟩
    · have e2 : (k == 2) = false := beq_false_of_ne h2
      have hmk' := hid (show varsT (.mk k n s ks) = varsK ks by rw [hmk.out, if_neg h2, List.nil_append])
      clear hmk h2 hg
      go_wp2_with fail
      generalize (w.alloc (.cells #[.int .i64 k, .int .i64 n, sv s, .slice A N c] 92)) = w1 at *
      go_loopw [1, 5] (fun a i wr => ∃ m : Nat, m ≤ N ∧ i = .int .i64 m ∧ Grow 9 w0 wr a ((L ++ varsK (ks.take m)).map sv) ∧ KeepS 9 w1 wr) (fun _ i _ => N - (Go.RowKit.intOf i).toNat)
      case atStart => exact ⟨0, Nat.zero_le _, rfl, by rw [h0.out, List.append_nil]; simpa using hg1.out, KeepS.refl _ _⟩
      case round =>
        obtain ⟨m, hm, rfl, hga, hkw⟩ := hrel
        have b3 : wr.cell? ⟨w.heap.size, 3, none⟩ = some (.slice A N c) := (hkw.blk hblk.out (by decide)).cell 3
        by_cases hlt : m < N
        · obtain ⟨ad, rfl, hadb, c0, c1, c2, c3, e, k0, k1, k2, k3⟩ := hk.cell m (by omega)
          have hkid := hk.kid m _ (List.getElem?_eq_getElem (by omega))
          have hbw := hga.2
          have adb : (ad.add (m * 4)).block < w0.heap.size := by rw [add_block]; exact hadb
          replace k0 := (hbw.cell (p := ad.add (m * 4)) adb).trans k0
          replace k1 := (hbw.cell (p := ⟨(ad.add (m * 4)).block, (ad.add (m * 4)).off + 1, none⟩) adb).trans k1
          replace k2 := (hbw.cell (p := ⟨(ad.add (m * 4)).block, (ad.add (m * 4)).off + 2, none⟩) adb).trans k2
          replace k3 := (hbw.cell (p := ⟨(ad.add (m * 4)).block, (ad.add (m * 4)).off + 3, none⟩) adb).trans k3
          have hlen : (varsK (ks.take m)).length + cntT ks[m] ≤ cntK ks := by
            have h1 := varsK_len (ks.take m) fun a _ => varsT_len a
            have h2 := cntK_le ks (m + 1)
            rw [cntK_take (by omega)] at h2
            omega
          have hst := hid (varsK_take (ks := ks) (m := m) (by omega))
          have hck := hid (ih ks[m] (List.getElem_mem _) _ _ w0 wr _ hkid hga (by simp only [List.length_append]; omega))
          rw [e] at hck
          have hkw := hid hkw
          clear hkid e hbw hga hlen
          go_wp2_with fail
          refine hck.out.mono ?_
          rintro e w2 ⟨lv', rfl, hg', hkw2⟩
          have hg' := hid hg'
          have hkw2 := hid (hkw.out.trans hkw2)
          go_wp2_with fail
          exact ⟨⟨m + 1, hlt, by go_num, by rw [hst.out, ← List.append_assoc]; exact hg'.out, hkw2.out⟩, by simp [Go.RowKit.intOf]; omega⟩
        · obtain rfl : m = N := by omega
          have hf := hid (show L ++ varsK (ks.take m) = L ++ varsT (.mk k n s ks) by
            rw [List.take_of_length_le (by omega), hmk'.out])
          have hga := hid hga
          have hkw := hid hkw
          go_wp2_with fail
          go_ret
          exact ⟨_, rfl, by rw [← hf.out]; exact hga.out, hk1.out.trans hkw.out⟩
theorem svarsOf (t : T) (v : Value) (w : World) (hv : Ex w w.heap.size v t) (hbd : cntT t ≤ 2000000) :
    Calls Tryz.prog 129 #[v] w fun e w' => ∃ r, e = .returned r ∧ OwnS w.heap.size w'.heap.size w' r (sortU (varsT t)) ∧ Below w.heap.size w w' := by
  obtain ⟨k, n, s, ks⟩ := t
  obtain ⟨A, c, vs, rfl, hs, hl, hk⟩ := hv.kids
  have hb1 := box_below w (.cells #[.int .i64 k, .int .i64 n, sv s, .slice A ks.length c] 92)
  have s1 := size_alloc' w (.cells #[.int .i64 k, .int .i64 n, sv s, .slice A ks.length c] 92)
  have hg := Grow.lit0 9 (w.alloc (.cells #[.int .i64 k, .int .i64 n, sv s, .slice A ks.length c] 92))
  have hcl := svars (.mk k n s ks) _ _ _ _ [] (hv.go hb1) hg (by simp; omega)
  rw [s1] at hcl
  have hcl := hid hcl
  have hlen := hid (varsT_len (.mk k n s ks))
  have hb1 := hid hb1
  generalize hT : T.mk k n s ks = t at *
  clear hg hk hv
  go_enter Tryz.func129, Tryz.ntmps129
  go_wp2_with fail
  refine hcl.out.mono ?_
  rintro e w2 ⟨lv, rfl, hg, _⟩
  rw [List.nil_append] at hg
  have hb2 := hid (hb1.out.trans (hg.2.mono (by omega)))
  obtain ⟨A2, c2, rfl, _, _, hrd, _⟩ := hg.len
  rw [List.length_map]
  have hso := hid (ssort_any A2 c2 (varsT t) w2 hrd (by have := hlen.out; omega))
  clear hg hrd hcl
  go_wp2_with fail
  refine hso.out.mono ?_
  rintro e w3 ⟨r, rfl, hg3⟩
  have hg3 := hid hg3
  go_wp2_with fail
  go_ret
  exact ⟨_, rfl, (Own.of_grow hg3.out).mono hb2.out.size (Nat.le_refl _), hb2.out.trans (hg3.out.2.mono hb2.out.size)⟩
end Go.Proofs.YtnmomlaimffonaaGreat.Tr
