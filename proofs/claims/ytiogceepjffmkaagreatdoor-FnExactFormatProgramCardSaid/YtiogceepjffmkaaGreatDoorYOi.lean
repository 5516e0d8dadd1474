/- Slices of integers of the call's own as the laws handle them: compared, marked, looked at again. -/
import Derived.Test.YtiogceepjffmkaaGreatDoorYC3a
import Derived.Test.YtiogceepjffmkaaGreatDoorYIm
set_option maxHeartbeats 4000000
set_option maxRecDepth 100000
namespace Go.Proofs.YtiogceepjffmkaaGreatDoor.Os
open Go.RowKit Go.Lib Com Mem Ow
abbrev iv (x : Int) : Value := .int .i64 x
abbrev OwnI (lo hi : Nat) (w : World) (v : Value) (l : List Int) : Prop := Own 3 lo hi w v (l.map iv)
theorem OwnI.read_ {lo hi : Nat} {w : World} {v : Value} {l : List Int} (h : OwnI lo hi w v l) : ∃ A c, v = .slice A l.length c ∧ Rd w w.heap.size A (l.map iv) ∧ l.length ≤ c ∧ c ≤ maxLen ∧ (A = none → c = 0) ∧ ∀ ad, A = some ad → ad = ⟨ad.block, 0, none⟩ := by
  have := h.read
  rwa [List.length_map] at this
end Go.Proofs.YtiogceepjffmkaaGreatDoor.Os
set_option maxRecDepth 100000
namespace Go.Proofs.YtiogceepjffmkaaGreatDoor.Tr
open Go.RowKit Go.Lib Go.Sort Com Mem Ow YtiogceepjffmkaaGreatDoor.Os YtiogceepjffmkaaGreatDoor.Nm C2
def varsT : T → List (List UInt8)
  | .mk k _ s ks => (if k = 2 then [s] else []) ++ (ks.attach.map fun ⟨a, _⟩ => varsT a).flatten
termination_by t => SizeOf.sizeOf t
decreasing_by have := List.sizeOf_lt_of_mem ‹_›; simp only [T.mk.sizeOf_spec]; omega
def varsK (ks : List T) : List (List UInt8) := (ks.map varsT).flatten
theorem varsT_mk (k n : Int) (s : List UInt8) (ks : List T) : varsT (.mk k n s ks) = (if k = 2 then [s] else []) ++ varsK ks := by
  rw [varsT]; simp [varsK]
theorem varsK_take {ks : List T} {m : Nat} (h : m < ks.length) : varsK (ks.take (m + 1)) = varsK (ks.take m) ++ varsT ks[m] := by
  unfold varsK
  rw [List.take_succ_eq_append_getElem h, List.map_append, List.flatten_append]; simp
theorem varsK_len (ks : List T) (h : ∀ a ∈ ks, (varsT a).length ≤ cntT a) : (varsK ks).length ≤ cntK ks := by
  induction ks with
  | nil => simp [varsK, cntK]
  | cons a r ih =>
    have h1 := ih fun x hx => h x (by simp [hx])
    have h2 := h a (by simp)
    simp only [varsK, cntK, List.map_cons, List.flatten_cons, List.length_append, List.sum_cons] at *
    omega
theorem varsT_len (t : T) : (varsT t).length ≤ cntT t := by
  induction t using T.ind with
  | h k n s ks ih =>
    have := varsK_len ks ih
    rw [varsT_mk, cntT_mk, List.length_append]
    split <;> simp <;> omega
structure KeepS (ty : TypeId) (w w' : World) : Prop where
  size : w.heap.size ≤ w'.heap.size
  block : ∀ (k : Nat) (c : Array Value) (t : TypeId) (fr : Nat × Nat), w.heap[k]? = some (Obj.cells c t fr) → t ≠ ty → w'.heap[k]? = w.heap[k]?
theorem KeepS.refl (ty : TypeId) (w : World) : KeepS ty w w := ⟨Nat.le_refl _, fun _ _ _ _ _ _ => rfl⟩
theorem KeepS.trans {ty : TypeId} {a b c : World} (h : KeepS ty a b) (k : KeepS ty b c) : KeepS ty a c :=
  ⟨Nat.le_trans h.size k.size, fun i cs t fr hi ht => by
    have h1 := h.block i cs t fr hi ht
    rw [← h1]
    exact k.block i cs t fr (h1.trans hi) ht⟩
theorem KeepS.of_below {ty : TypeId} {w w' : World} (h : Below w.heap.size w w') : KeepS ty w w' :=
  ⟨h.size, fun k c t fr hk _ => h.block k (by
    rcases Nat.lt_or_ge k w.heap.size with hl | hl
    · exact hl
    · rw [Array.getElem?_eq_none hl] at hk; cases hk)⟩
theorem KeepS.of_grow {ty : TypeId} {w0 w w' : World} {v : Value} {xs : List Value} (hg : Grow ty w0 w v xs) (h : w.grownBy w' v.ownBlock) : KeepS ty w w' :=
  ⟨h.size, fun k c t fr hk ht => by
    have hlt : k < w.heap.size := by
      rcases Nat.lt_or_ge k w.heap.size with hl | hl
      · exact hl
      · rw [Array.getElem?_eq_none hl] at hk; cases hk
    refine h.block k hlt fun e => ?_
    obtain ⟨_, _, cs, hb⟩ := (Own.of_grow hg).block_ e.symm
    unfold Blk at hb
    rw [hk] at hb
    injection hb with h1; injection h1 with _ h2 _
    exact ht h2⟩
theorem KeepS.blk {ty t : TypeId} {w w' : World} {g : Nat} {cs : List Value} (h : KeepS ty w w') (hb : Blk w g t cs) (ht : t ≠ ty) : Blk w' g t cs := (h.block g _ t _ hb ht).trans hb
theorem svars (t : T) : ∀ (v lv : Value) (w0 w : World) (L : List (List UInt8)), Ex w0 w0.heap.size v t → Grow 9 w0 w lv (L.map sv) → L.length + cntT t ≤ 4000000 →
    Calls Tryz.prog 178 #[v, lv] w fun e w' => ∃ lv', e = .returned lv' ∧ Grow 9 w0 w' lv' ((L ++ varsT t).map sv) ∧ KeepS 9 w w' := by
  induction t using T.ind with
  | h k n s ks ih =>
    intro v lv w0 w L hv hg hbd
    obtain ⟨A, c, vs, rfl, hs, hl, hk⟩ := hv.kids
    have hb1 := box_below w (.cells #[.int .i64 k, .int .i64 n, sv s, .slice A ks.length c] 58)
    have hblk := hid (box_blk w k n s A ks.length c 58)
    have hg1 := hid (hg.below hb1 (Nat.le_refl _))
    have hk1 := hid (KeepS.of_below (ty := 9) hb1)
    have hmk := hid (varsT_mk k n s ks)
    rw [cntT_mk] at hbd
    have h0 := hid (show varsK (ks.take 0) = [] by simp [varsK])
    clear hv hb1
    generalize hL : ks.length = N at *
    go_enter Tryz.func178, Tryz.ntmps178
    by_cases h2 : k = 2
    · subst h2
      have hmk' := hid (show varsT (.mk 2 n s ks) = [s] ++ varsK ks from hmk.out)
      clear hmk
      go_wp2_with (at_builtin; refine hg1.out.append strT (sv s) rfl (by simp; omega) rfl _ _ rfl rfl (congrArg (fun n => Value.slice (some ⟨n, 0, none⟩) 1 1) (size_alloc' w _).symm) ?_; intro v1 w1 hg2 hgb _; have hg2 := hid hg2; have hk2 := hid (hk1.out.trans (KeepS.of_grow hg1.out hgb)); have hblk2 := hid ((KeepS.of_grow hg1.out hgb).blk hblk.out (by decide)); clear hgb hg hg1 hk1 hblk)
      go_loopw [1, 5] (fun a i wr => ∃ m : Nat, m ≤ N ∧ i = .int .i64 m ∧ Grow 9 w0 wr a (((L ++ [s]) ++ varsK (ks.take m)).map sv) ∧ KeepS 9 w1 wr) (fun _ i _ => N - (Go.RowKit.intOf i).toNat)
      case atStart => exact ⟨0, Nat.zero_le _, rfl, by rw [h0.out, List.append_nil]; simpa using hg2.out, KeepS.refl _ _⟩
      case round =>
        obtain ⟨m, hm, rfl, hga, hkw⟩ := hrel
        have b3 : wr.cell? ⟨w.heap.size, 3, none⟩ = some (.slice A N c) := (hkw.blk hblk2.out (by decide)).cell 3
        by_cases hlt : m < N
        · obtain ⟨ad, rfl, hadb, c0, c1, c2, c3, e, k0, k1, k2, k3⟩ := hk.cell m (by omega)
          have hkid := hk.kid m _ (List.getElem?_eq_getElem (by omega))
          have hbw := hga.2
          have adb : (ad.add (m * 4)).block < w0.heap.size := by rw [add_block]; exact hadb
          replace k0 := (hbw.cell (p := ad.add (m * 4)) adb).trans k0
          replace k1 := (hbw.cell (p := ⟨(ad.add (m * 4)).block, (ad.add (m * 4)).off + 1, none⟩) adb).trans k1
          replace k2 := (hbw.cell (p := ⟨(ad.add (m * 4)).block, (ad.add (m * 4)).off + 2, none⟩) adb).trans k2
          replace k3 := (hbw.cell (p := ⟨(ad.add (m * 4)).block, (ad.add (m * 4)).off + 3, none⟩) adb).trans k3
          have hlen : (varsK (ks.take m)).length + cntT ks[m] ≤ cntK ks := by
            have h1 := varsK_len (ks.take m) fun a _ => varsT_len a
            have h2 := cntK_le ks (m + 1)
            rw [cntK_take (by omega)] at h2
            omega
          have hst := hid (varsK_take (ks := ks) (m := m) (by omega))
          have hck := hid (ih ks[m] (List.getElem_mem _) _ _ w0 wr _ hkid hga (by simp only [List.length_append, List.length_singleton]; omega))
          rw [e] at hck
          have hkw := hid hkw
          clear hkid e hbw hga hlen
          go_wp2_with fail
          refine hck.out.mono ?_
          rintro e w2 ⟨lv', rfl, hg', hkw2⟩
          have hg' := hid hg'
          have hkw2 := hid (hkw.out.trans hkw2)
          go_wp2_with fail
          exact ⟨⟨m + 1, hlt, by go_num, by rw [hst.out, ← List.append_assoc]; exact hg'.out, hkw2.out⟩, by simp [Go.RowKit.intOf]; omega⟩
        · obtain rfl : m = N := by omega
          have hf := hid (show (L ++ [s]) ++ varsK (ks.take m) = L ++ varsT (.mk 2 n s ks) by
            rw [List.take_of_length_le (by omega), hmk'.out, List.append_assoc])
          have hga := hid hga
          have hkw := hid hkw
          go_wp2_with fail
          go_ret
          exact ⟨_, rfl, by rw [← hf.out]; exact hga.out, hk2.out.trans hkw.out⟩
    · have e2 : (k == 2) = false := beq_false_of_ne h2
      have hmk' := hid (show varsT (.mk k n s ks) = varsK ks by rw [hmk.out, if_neg h2, List.nil_append])
      clear hmk h2 hg
      go_wp2_with fail
      generalize (w.alloc (.cells #[.int .i64 k, .int .i64 n, sv s, .slice A N c] 58)) = w1 at *
      go_loopw [1, 5] (fun a i wr => ∃ m : Nat, m ≤ N ∧ i = .int .i64 m ∧ Grow 9 w0 wr a ((L ++ varsK (ks.take m)).map sv) ∧ KeepS 9 w1 wr) (fun _ i _ => N - (Go.RowKit.intOf i).toNat)
      case atStart => exact ⟨0, Nat.zero_le _, rfl, by rw [h0.out, List.append_nil]; simpa using hg1.out, KeepS.refl _ _⟩
      case round =>
        obtain ⟨m, hm, rfl, hga, hkw⟩ := hrel
        have b3 : wr.cell? ⟨w.heap.size, 3, none⟩ = some (.slice A N c) := (hkw.blk hblk.out (by decide)).cell 3
        by_cases hlt : m < N
        · obtain ⟨ad, rfl, hadb, c0, c1, c2, c3, e, k0, k1, k2, k3⟩ := hk.cell m (by omega)
          have hkid := hk.kid m _ (List.getElem?_eq_getElem (by omega))
          have hbw := hga.2
          have adb : (ad.add (m * 4)).block < w0.heap.size := by rw [add_block]; exact hadb
          replace k0 := (hbw.cell (p := ad.add (m * 4)) adb).trans k0
          replace k1 := (hbw.cell (p := ⟨(ad.add (m * 4)).block, (ad.add (m * 4)).off + 1, none⟩) adb).trans k1
          replace k2 := (hbw.cell (p := ⟨(ad.add (m * 4)).block, (ad.add (m * 4)).off + 2, none⟩) adb).trans k2
          replace k3 := (hbw.cell (p := ⟨(ad.add (m * 4)).block, (ad.add (m * 4)).off + 3, none⟩) adb).trans k3
          have hlen : (varsK (ks.take m)).length + cntT ks[m] ≤ cntK ks := by
            have h1 := varsK_len (ks.take m) fun a _ => varsT_len a
            have h2 := cntK_le ks (m + 1)
            rw [cntK_take (by omega)] at h2
            omega
          have hst := hid (varsK_take (ks := ks) (m := m) (by omega))
          have hck := hid (ih ks[m] (List.getElem_mem _) _ _ w0 wr _ hkid hga (by simp only [List.length_append]; omega))
          rw [e] at hck
          have hkw := hid hkw
          clear hkid e hbw hga hlen
          go_wp2_with fail
          refine hck.out.mono ?_
          rintro e w2 ⟨lv', rfl, hg', hkw2⟩
          have hg' := hid hg'
          have hkw2 := hid (hkw.out.trans hkw2)
          go_wp2_with fail
          exact ⟨⟨m + 1, hlt, by go_num, by rw [hst.out, ← List.append_assoc]; exact hg'.out, hkw2.out⟩, by simp [Go.RowKit.intOf]; omega⟩
        · obtain rfl : m = N := by omega
          have hf := hid (show L ++ varsK (ks.take m) = L ++ varsT (.mk k n s ks) by
            rw [List.take_of_length_le (by omega), hmk'.out])
          have hga := hid hga
          have hkw := hid hkw
          go_wp2_with fail
          go_ret
          exact ⟨_, rfl, by rw [← hf.out]; exact hga.out, hk1.out.trans hkw.out⟩
theorem svarsOf (t : T) (v : Value) (w : World) (hv : Ex w w.heap.size v t) (hbd : cntT t ≤ 2000000) :
    Calls Tryz.prog 140 #[v] w fun e w' => ∃ r, e = .returned r ∧ OwnS w.heap.size w'.heap.size w' r (sortU (varsT t)) ∧ Below w.heap.size w w' := by
  obtain ⟨k, n, s, ks⟩ := t
  obtain ⟨A, c, vs, rfl, hs, hl, hk⟩ := hv.kids
  have hb1 := box_below w (.cells #[.int .i64 k, .int .i64 n, sv s, .slice A ks.length c] 58)
  have s1 := size_alloc' w (.cells #[.int .i64 k, .int .i64 n, sv s, .slice A ks.length c] 58)
  have hg := Grow.lit0 9 (w.alloc (.cells #[.int .i64 k, .int .i64 n, sv s, .slice A ks.length c] 58))
  have hcl := svars (.mk k n s ks) _ _ _ _ [] (hv.go hb1) hg (by simp; omega)
  rw [s1] at hcl
  have hcl := hid hcl
  have hlen := hid (varsT_len (.mk k n s ks))
  have hb1 := hid hb1
  generalize hT : T.mk k n s ks = t at *
  clear hg hk hv
  go_enter Tryz.func140, Tryz.ntmps140
  go_wp2_with fail
  refine hcl.out.mono ?_
  rintro e w2 ⟨lv, rfl, hg, _⟩
  rw [List.nil_append] at hg
  have hb2 := hid (hb1.out.trans (hg.2.mono (by omega)))
  obtain ⟨A2, c2, rfl, _, _, hrd, _⟩ := hg.len
  rw [List.length_map]
  have hso := hid (ssort_any A2 c2 (varsT t) w2 hrd (by have := hlen.out; omega))
  clear hg hrd hcl
  go_wp2_with fail
  refine hso.out.mono ?_
  rintro e w3 ⟨r, rfl, hg3⟩
  have hg3 := hid hg3
  go_wp2_with fail
  go_ret
  exact ⟨_, rfl, (Own.of_grow hg3.out).mono hb2.out.size (Nat.le_refl _), hb2.out.trans (hg3.out.2.mono hb2.out.size)⟩
open C3
theorem node_cases {k n : Int} {s : List UInt8} {ks : List T} (h : nodeB k n s ks.length = true) : k = 1 ∨ k = 2 ∨ (k = 3 ∧ ∃ a b, ks = [a, b]) ∨ (k = 4 ∧ ∃ a, ks = [a]) := by
  unfold nodeB at h
  by_cases h1 : k = 1
  · exact Or.inl h1
  by_cases h2 : k = 2
  · exact Or.inr (Or.inl h2)
  by_cases h3 : k = 3
  · rw [if_neg h1, if_neg h2, if_pos h3] at h
    simp only [Bool.and_eq_true, beq_iff_eq] at h
    match ks, h with
    | [a, b], _ => exact Or.inr (Or.inr (Or.inl ⟨h3, a, b, rfl⟩))
    | [], h => simp at h
    | [a], h => simp at h
    | a :: b :: c :: r, h => have := h.2.2; simp at this; omega
  by_cases h4 : k = 4
  · rw [if_neg h1, if_neg h2, if_neg h3, if_pos h4] at h
    simp only [Bool.and_eq_true, beq_iff_eq] at h
    match ks, h with
    | [a], _ => exact Or.inr (Or.inr (Or.inr ⟨h4, a, rfl⟩))
    | [], h => simp at h
    | a :: b :: r, h => have := h.2.2; simp at this; omega
  rw [if_neg h1, if_neg h2, if_neg h3, if_neg h4] at h
  cases h
theorem allT_1 {k n : Int} {s : List UInt8} {a : T} (h : allT (.mk k n s [a]) = true) : allT a = true := by
  rw [allT_mk] at h; simp at h; exact h.1
theorem allT_2 {k n : Int} {s : List UInt8} {a b : T} (h : allT (.mk k n s [a, b]) = true) : allT a = true ∧ allT b = true := by
  rw [allT_mk] at h; simp at h; exact h.1
end Go.Proofs.YtiogceepjffmkaaGreatDoor.Tr
set_option maxRecDepth 100000
namespace Go.Proofs.YtiogceepjffmkaaGreatDoor.Ik
open Go.RowKit Mem Im
open Go.ChangeMaps (setBlock)
abbrev kv (p : Int × Value) : Value × Value := (.int .i64 p.1, p.2)
def KMap (w : World) (b : Nat) (l : List (Int × Value)) : Prop := IMap w b (l.map kv)
def kget (l : List (Int × Value)) (x : Int) : Option Value := (l.find? fun p => p.1 == x).map Prod.snd
section
variable {P : Program} {w w' : World} {b k e t : Nat} {l : List (Int × Value)} {x : Int}
theorem KMap.alloc (h : KMap w b l) (o : Obj) : KMap (w.alloc o) b l := IMap.alloc h o
theorem find_zip (x : Int) : ∀ (l : List (Int × Value)) (m i : Nat), ∃ r, Instr.findNow (.int .i64) (.int .i64 x) (((l.map kv).zipIdx m).map fun p => { key := p.1.1, val := p.1.2, born := p.2 }) i = some r ∧ r.map Prod.snd = kget l x
  | [], _, _ => ⟨none, rfl, rfl⟩
  | p :: l, m, i => by
    by_cases h : x = p.1
    · refine ⟨some (i, p.2), ?_, ?_⟩
      · simp [Instr.findNow, Instr.sameNow, h]
      · simp [kget, h]
    · obtain ⟨r, h1, h2⟩ := find_zip x l (m + 1) (i + 1)
      refine ⟨r, ?_, ?_⟩
      · have hq : (x == p.1) = false := beq_false_of_ne h
        simp only [List.map_cons, List.zipIdx_cons, Instr.findNow, Instr.sameNow, hq, if_true]
        exact h1
      · have h' : ¬ p.1 = x := fun e => h e.symm
        rw [h2]; simp [kget, h']
theorem find_at (hk : P.underlying k = some (.int .i64)) (w : World) : ∃ r, (Instr.findKey k (.int .i64 x) (ent (l.map kv))).run P w = .ok r w ∧ r.map Prod.snd = kget l x := by
  obtain ⟨r, h1, h2⟩ := find_zip x l 0 0
  exact ⟨r, MapKept.run_findKey hk h1, h2⟩
theorem check (hk : P.underlying k = some (.int .i64)) (em : Bool) (w : World) : (Instr.checkKey em 10000 k (.int .i64 x)).run P w = .ok () w :=
  MapKept.run_checkKey hk (by simp [MapKept.IsKey]) em 9999
theorem run_look (h : KMap w b l) (ht : P.underlying t = some (.map k e)) (hk : P.underlying k = some (.int .i64)) {z : Value} (hz : (zeroValue e).run P w = .ok z w) (ok : Bool) :
    (Instr.lookup t (.map (some b)) (.int .i64 x) ok).run P w = .ok (if ok then .tuple #[(kget l x).getD z, .bool (kget l x).isSome] else (kget l x).getD z) w := by
  obtain ⟨r, hf, hr⟩ := find_at (x := x) (l := l) hk w
  unfold Instr.lookup
  cases r with
  | none =>
    rw [← hr]
    simp [Sem.run_bind, run_underlying ht, MapKept.run_getObj_map h, check hk, hf, hz, Result.andThen]
  | some p =>
    rw [← hr]
    simp [Sem.run_bind, run_underlying ht, MapKept.run_getObj_map h, check hk, hf, Result.andThen]
theorem run_upd (h : KMap w b l) (ht : P.underlying t = some (.map k e)) (hk : P.underlying k = some (.int .i64)) (hn : kget l x = none) (v : Value) :
    ∃ w', (Instr.mapUpdate t (.map (some b)) (.int .i64 x) v).run P w = .ok () w' ∧ KMap w' b (l ++ [(x, v)]) ∧ w.grownBy w' (some b) ∧ w'.heap.size = w.heap.size := by
  obtain ⟨r, hf, hr⟩ := find_at (x := x) (l := l) hk w
  rw [hn] at hr
  cases r with
  | some p => cases hr
  | none =>
    refine ⟨setBlock w b (.map (ent (l.map kv ++ [(.int .i64 x, v)])).toArray ((l.map kv).length + 1)), ?_, ?_, ?_, by simp [setBlock]⟩
    · unfold Instr.mapUpdate
      simp [Sem.run_bind, run_underlying ht, MapKept.run_getObj_map h, check hk, hf, Result.andThen, ent_snoc]
      simp [setObj, Sem.run, setBlock]
      unfold KMap IMap at h
      simp [h]
    · have := (MapKept.heap_set (o' := .map (ent (l.map kv ++ [(.int .i64 x, v)])).toArray ((l.map kv).length + 1)) h).1
      unfold KMap IMap
      rw [show (setBlock w b (Obj.map (ent (l.map kv ++ [(.int .i64 x, v)])).toArray ((l.map kv).length + 1))).heap[b]? = _ from this]
      simp
    · exact ⟨rfl, rfl, rfl, by simp [setBlock], fun i _ hi => (MapKept.heap_set h).2 i (fun e1 => hi (by rw [e1]))⟩
end
section
variable {P : Program} {ops : Array Oper} {rest : List Oper} {o : Oper} {a : Act} {Q : Exit → Act → World → Prop} {w : World} {k e t : Nat}
theorem wpList_put (hg : o.guard = none) (m x v : Operand) (hop : o.op = Op.insert t m x v ∨ o.op = Op.mapUpdate t m x v) (ht : P.underlying t = some (.map k e)) (hk : P.underlying k = some (.int .i64)) (b : Nat) (l : List (Int × Value)) (h : KMap w b l) (kx : Int) (vx : Value)
    (hm : a.eval m = .map (some b)) (hx : a.eval x = .int .i64 kx) (hv : a.eval v = vx) (hn : kget l kx = none) (hK : ∀ w', KMap w' b (l ++ [(kx, vx)]) → w.grownBy w' (some b) → w'.heap.size = w.heap.size → wpList P ops Q rest (a.put o.dst undef) w') : wpList P ops Q (o :: rest) a w := by
  refine wpList_plain hg fun K' hK' => ?_
  obtain ⟨w', hrun, r1, r2, r3⟩ := run_upd h ht hk hn vx
  unfold Oper.wp
  rcases hop with hop | hop
  all_goals
    simp [execOp, hop, hm, hx, hv, hrun, Result.andThen]
    exact hK' _ _ (hK w' r1 r2 r3)
end
end Go.Proofs.YtiogceepjffmkaaGreatDoor.Ik
