/- Chapter 2: names in lists, of the program and of the model (all but the sorting). -/
import Derived.Test.YtkoppcpkkpgaiaaC2a
import Derived.Test.YtkoppcpkkpgaiaaOw
namespace Go.Proofs.Ytkoppcpkkpgaiaa.C2
open Go.RowKit Go.Lib Go.Proofs.Ytkoppcpkkpgaiaa.Num Go.Proofs.Ytkoppcpkkpgaiaa.Com Go.Proofs.Ytkoppcpkkpgaiaa.Mem Go.Proofs.Ytkoppcpkkpgaiaa.Mp Go.Proofs.Ytkoppcpkkpgaiaa.Ch Go.Proofs.Ytkoppcpkkpgaiaa.Ow

theorem cls (c : UInt8) :
    (decide ((97 : Int) ≤ (c.toNat : Int)) = false ∧ decide ((48 : Int) ≤ (c.toNat : Int)) = false ∧ isLow c = false ∧ isDig c = false) ∨
    (decide ((97 : Int) ≤ (c.toNat : Int)) = false ∧ decide ((48 : Int) ≤ (c.toNat : Int)) = true ∧ decide ((c.toNat : Int) ≤ 57) = true ∧ isLow c = false ∧ isDig c = true) ∨
    (decide ((97 : Int) ≤ (c.toNat : Int)) = false ∧ decide ((48 : Int) ≤ (c.toNat : Int)) = true ∧ decide ((c.toNat : Int) ≤ 57) = false ∧ isLow c = false ∧ isDig c = false) ∨
    (decide ((97 : Int) ≤ (c.toNat : Int)) = true ∧ decide ((c.toNat : Int) ≤ 122) = true ∧ decide ((48 : Int) ≤ (c.toNat : Int)) = true ∧ decide ((c.toNat : Int) ≤ 57) = false ∧ isLow c = true) ∨
    (decide ((97 : Int) ≤ (c.toNat : Int)) = true ∧ decide ((c.toNat : Int) ≤ 122) = false ∧ decide ((48 : Int) ≤ (c.toNat : Int)) = true ∧ decide ((c.toNat : Int) ≤ 57) = false ∧ isLow c = false ∧ isDig c = false) := by
  simp only [isLow, isDig, decide_eq_false_iff_not, decide_eq_true_eq, Bool.and_eq_false_iff, Bool.and_eq_true]
  omega

set_option maxHeartbeats 1000000 in
theorem sshape_any (l : List UInt8) (w : World) (hl : l.length ≤ 9223372036854775807) : Calls Try.prog 46 #[.string ⟨l.toArray⟩] w fun e w' => e = .returned (.bool (shape l)) ∧ w = w' := by
  go_enter Try.func46, Try.ntmps46
  go_wp2_with fail
  go_loop [3] (fun i => ∃ k : Nat, k ≤ l.length ∧ i = .int .i64 k ∧ okTo l k) (fun i => l.length - (Go.RowKit.intOf i).toNat)
  case atStart => exact ⟨0, Nat.zero_le _, rfl, fun j _ hj => by omega⟩
  case round =>
    obtain ⟨k, hk, rfl, hok⟩ := hrel
    have hok := hid hok
    by_cases hkl : k < l.length
    · have hlow := hid (fun h => okTo_snoc hok.out hkl (Or.inl h))
      have hdig := hid (fun h1 h2 => okTo_snoc hok.out hkl (Or.inr ⟨h1, h2⟩))
      have hbad := hid (fun h1 h2 => shape_bad (l := l) hkl h1 h2)
      have hc := cls (({ data := l.toArray } : ByteArray)[k]'hkl)
      rcases hc with ⟨t1, t2, a1, a2⟩ | ⟨t1, t2, t3, a1, a2⟩ | ⟨t1, t2, t3, a1, a2⟩ | ⟨t1, t2, t3, t4, a1⟩ | ⟨t1, t2, t3, t4, a1, a2⟩
      · have hf := hid (hbad.out a1 (Or.inr a2))
        clear a1 a2
        go_wp2_with fail
        all_goals
          go_ret
          exact ⟨by rw [hf.out]; rfl, rfl⟩
      · by_cases h0 : k = 0
        · subst h0
          have hf := hid (hbad.out a1 (Or.inl rfl))
          clear a1 a2
          go_wp2_with fail
          go_ret
          exact ⟨by rw [hf.out]; rfl, rfl⟩
        · have hnx := hid (hdig.out h0 a2)
          have hk0 : ((k : Int) == 0) = false := by rw [beq_eq_false_iff_ne]; omega
          clear a1 a2
          go_wp2_with fail
          go_round
          case rel => exact ⟨k + 1, hkl, by go_num, hnx.out⟩
          case measure => simp [Go.RowKit.intOf]; omega
      · have hf := hid (hbad.out a1 (Or.inr a2))
        clear a1 a2
        go_wp2_with fail
        all_goals
          go_ret
          exact ⟨by rw [hf.out]; rfl, rfl⟩
      · have hnx := hid (hlow.out a1)
        clear a1
        go_wp2_with fail
        go_round
        case rel => exact ⟨k + 1, hkl, by go_num, hnx.out⟩
        case measure => simp [Go.RowKit.intOf]; omega
      · have hf := hid (hbad.out a1 (Or.inr a2))
        clear a1 a2
        go_wp2_with fail
        all_goals
          go_ret
          exact ⟨by rw [hf.out]; rfl, rfl⟩
    · obtain rfl : k = l.length := by omega
      by_cases h0 : l = []
      · subst h0
        go_wp2_with fail
        go_ret
        exact ⟨rfl, rfl⟩
      · have hpos : 0 < l.length := List.length_pos_iff.2 h0
        have t1 : decide (0 < (l.length : Int)) = true := decide_eq_true (by omega)
        have hf := hid (shape_good hpos hok.out)
        clear h0
        go_wp2_with fail
        go_ret
        exact ⟨by rw [hf.out]; rfl, rfl⟩
set_option maxHeartbeats 400000 in
theorem svalid_any (l : List UInt8) (w : World) (hl : l.length ≤ 9223372036854775807) : Calls Try.prog 21 #[.string ⟨l.toArray⟩] w fun e w' => e = .returned (.bool (validB l)) ∧ Below w.heap.size w w' := by
  have hs := hid (fun w => sshape_any l w hl)
  cases a1 : shape l with
  | false =>
    have hf := hid (show validB l = false by unfold validB; rw [a1]; simp)
    go_enter Try.func21, Try.ntmps21
    go_wp2_with fail
    refine (hs.out _).mono ?_
    rintro e w' ⟨rfl, rfl⟩
    go_wp2_with fail
    go_ret
    exact ⟨by rw [hf.out]; rfl, Below.refl _ _⟩
  | true =>
    by_cases h1 : l.length ≤ 8
    · have t1 : decide ((l.length : Int) ≤ 8) = true := decide_eq_true (by omega)
      have hr := hid (fun w => sreserved_any l w)
      have hf := hid (show validB l = !hasS resW l by unfold validB; rw [a1, decide_eq_true h1]; rfl)
      go_enter Try.func21, Try.ntmps21
      go_wp2_with fail
      refine (hs.out _).mono ?_
      rintro e w' ⟨rfl, rfl⟩
      go_wp2_with fail
      refine (hr.out _).mono ?_
      rintro e w1 ⟨rfl, hb⟩
      go_wp2_with fail
      go_ret
      exact ⟨by rw [hf.out]; rfl, hb⟩
    · have t1 : decide ((l.length : Int) ≤ 8) = false := decide_eq_false (by omega)
      have hf := hid (show validB l = false by unfold validB; rw [decide_eq_false h1]; rfl)
      go_enter Try.func21, Try.ntmps21
      go_wp2_with fail
      refine (hs.out _).mono ?_
      rintro e w' ⟨rfl, rfl⟩
      go_wp2_with fail
      go_ret
      exact ⟨by rw [hf.out]; rfl, Below.refl _ _⟩

/-- the place of the first element that is l, or -1 -/
def ixOf : List (List UInt8) → List UInt8 → Int
  | [], _ => -1
  | x :: r, l => if x = l then 0 else if ixOf r l < 0 then -1 else ixOf r l + 1
theorem ixOf_none {L : List (List UInt8)} {l : List UInt8} (h : l ∉ L) : ixOf L l = -1 := by
  induction L with
  | nil => rfl
  | cons x r ih =>
    simp only [List.mem_cons, not_or] at h
    simp only [ixOf]
    rw [if_neg (fun e => h.1 e.symm), ih h.2]; rfl
theorem ixOf_at {L : List (List UInt8)} {l : List UInt8} : ∀ {k : Nat} (hk : k < L.length), L[k] = l → l ∉ L.take k → ixOf L l = k := by
  induction L with
  | nil => intro k hk; simp at hk
  | cons x r ih =>
    intro k hk h1 h2
    cases k with
    | zero => simp at h1; simp [ixOf, h1]
    | succ j =>
      simp only [List.take_succ_cons, List.mem_cons, not_or] at h2
      have := ih (k := j) (by simpa using hk) (by simpa using h1) h2.2
      simp only [ixOf]
      rw [if_neg (fun e => h2.1 e.symm), this, if_neg (by omega)]
      omega
theorem ixOf_neg {L : List (List UInt8)} {l : List UInt8} : (ixOf L l < 0) ↔ l ∉ L := by
  induction L with
  | nil => simp [ixOf]
  | cons x r ih =>
    simp only [ixOf, List.mem_cons, not_or]
    by_cases h : x = l
    · simp [h]
    · rw [if_neg h]
      by_cases h2 : ixOf r l < 0
      · rw [if_pos h2]; exact ⟨fun _ => ⟨fun e => h e.symm, ih.1 h2⟩, fun _ => by omega⟩
      · rw [if_neg h2]; exact ⟨fun h3 => by omega, fun h3 => absurd (ih.2 h3.2) h2⟩
theorem ixOf_bd (L : List (List UInt8)) (l : List UInt8) : -1 ≤ ixOf L l ∧ ixOf L l < L.length := by
  induction L with
  | nil => simp [ixOf]
  | cons x r ih =>
    simp only [ixOf, List.length_cons]
    split
    · omega
    · split <;> omega

set_option maxHeartbeats 400000 in
theorem sindex_any (A : Option Addr) (c : Nat) (L : List (List UInt8)) (l : List UInt8) (w : World) (B : Nat) (h : Rd w B A (L.map sv)) (hn : L.length ≤ 9223372036854775807) :
    Calls Try.prog 30 #[.slice A L.length c, .string ⟨l.toArray⟩] w fun e w' => e = .returned (.int .i64 (ixOf L l)) ∧ w = w' := by
  go_enter Try.func30, Try.ntmps30
  go_wp2_with fail
  go_loop [5] (fun i => ∃ k : Nat, k ≤ L.length ∧ i = .int .i64 k ∧ l ∉ L.take k) (fun i => L.length - (Go.RowKit.intOf i).toNat)
  case atStart => exact ⟨0, Nat.zero_le _, rfl, by simp⟩
  case round =>
    obtain ⟨k, hk, rfl, hs⟩ := hrel
    by_cases hlt : k < L.length
    · obtain ⟨ad, rfl, _, hc⟩ := Lh.rd_str h hlt
      by_cases he : L[k] = l
      · have hf := hid (ixOf_at hlt he hs)
        have t1 : (L[k] == l) = true := by rw [he]; simp
        clear hs he h
        go_wp2_with fail
        go_ret
        exact ⟨by rw [hf.out]; rfl, rfl⟩
      · have t1 : (L[k] == l) = false := by simpa using he
        have hnx := hid (show l ∉ L.take (k + 1) by rw [List.take_succ_eq_append_getElem hlt]; simp only [List.mem_append, List.mem_singleton, not_or]; exact ⟨hs, fun e => he e.symm⟩)
        clear hs he h
        go_wp2_with fail
        go_round
        case rel => exact ⟨k + 1, hlt, by go_num, hnx.out⟩
        case measure => simp [Go.RowKit.intOf]; omega
    · obtain rfl : k = L.length := by omega
      have hf := hid (show ixOf L l = -1 from ixOf_none (by rw [List.take_of_length_le (Nat.le_refl _)] at hs; exact hs))
      clear hs h
      go_wp2_with fail
      go_ret
      exact ⟨by rw [hf.out]; rfl, rfl⟩

/-- are all different? -/
def distB (L : List (List UInt8)) : Bool := decide L.Nodup
set_option maxHeartbeats 1000000 in
theorem setOf_any (A : Option Addr) (c : Nat) (L : List (List UInt8)) (w : World) (h : Rd w w.heap.size A (L.map sv)) (hm : ∀ x ∈ L, x.length ≤ 9223372036854775807) (hn : L.length ≤ 9223372036854775807) :
    Calls Try.prog 42 #[.slice A L.length c] w fun e w' => e = .returned (.map (some w.heap.size)) ∧ SetIs w' w.heap.size L.length L ∧ Below w.heap.size w w' := by
  have hmm := fun w => made_hint (L.length : Int) w
  go_enter Try.func42, Try.ntmps42
  go_wp2_with fail
  clear hmm
  go_loopw [11] (fun i wr => ∃ k : Nat, k ≤ L.length ∧ i = .int .i64 k ∧ SetIs wr w.heap.size k (L.take k) ∧ Below w.heap.size w wr) (fun i _ => L.length - (Go.RowKit.intOf i).toNat)
  case atStart => exact ⟨0, Nat.zero_le _, rfl, SetIs.made w, (Below.refl _ _).alloc (Nat.le_refl _) _⟩
  case round =>
    obtain ⟨k, hk, rfl, hs, hb⟩ := hrel
    by_cases hlt : k < L.length
    · obtain ⟨ad, rfl, _, hc⟩ := Lh.rd_str (h.below hb) hlt
      have hml := hm _ (List.getElem_mem hlt)
      have hst := hid (List.take_succ_eq_append_getElem hlt)
      clear h
      go_wp2_with (refine wpList_put rfl _ _ _ (Or.inr rfl) w.heap.size k (L.take k) hs (by unfold maxLen; omega) L[k] (by unfold maxLen; omega) rfl rfl rfl ?_; intro w1 hs1 hg1)
      refine ⟨⟨k + 1, hlt, by go_num, by rw [hst.out]; exact hs1, hb.grown hg1 hb.size (fun j hj => by cases hj; exact Nat.le_refl _)⟩, by simp [Go.RowKit.intOf]; omega⟩
    · obtain rfl : k = L.length := by omega
      rw [List.take_of_length_le (Nat.le_refl _)] at hs
      go_wp2_with fail
      go_ret
      exact ⟨rfl, hs, hb⟩
set_option maxHeartbeats 400000 in
theorem distinct_any (A : Option Addr) (c : Nat) (L : List (List UInt8)) (w : World) (h : Rd w w.heap.size A (L.map sv)) (hm : ∀ x ∈ L, x.length ≤ 9223372036854775807) (hn : L.length ≤ 9223372036854775807) :
    Calls Try.prog 17 #[.slice A L.length c] w fun e w' => e = .returned (.bool (distB L)) ∧ Below w.heap.size w w' := by
  have hset := hid (setOf_any A c L w h hm hn)
  have hu := uniq_nodup L
  clear h hm
  by_cases hd : L.Nodup
  · have t1 : (((uniq L).length : Int) == (L.length : Int)) = true := by rw [hu.2 hd]; exact beq_self_eq_true _
    have hf := hid (show distB L = true from decide_eq_true hd)
    clear hu hd
    go_enter Try.func17, Try.ntmps17
    go_wp2_with fail
    refine hset.out.mono ?_
    rintro e w1 ⟨rfl, hs, hb⟩
    have hb := hid hb
    go_wp2_with (refine wpList_size rfl _ rfl _ _ _ hs rfl ?_)
    go_ret
    exact ⟨by rw [hf.out]; rfl, hb.out⟩
  · have t1 : (((uniq L).length : Int) == (L.length : Int)) = false := by
      rw [beq_eq_false_iff_ne]; intro e; exact hd (hu.1 (by omega))
    have hf := hid (show distB L = false from decide_eq_false hd)
    clear hu hd
    go_enter Try.func17, Try.ntmps17
    go_wp2_with fail
    refine hset.out.mono ?_
    rintro e w1 ⟨rfl, hs, hb⟩
    have hb := hid hb
    go_wp2_with (refine wpList_size rfl _ rfl _ _ _ hs rfl ?_)
    go_ret
    exact ⟨by rw [hf.out]; rfl, hb.out⟩
theorem quietL {P : Program} {f : FuncId} {args : Array Value} {w : World} {n : Nat} {v : Value} (h : ∀ W : World, W.heap = w.heap → Calls P f args W fun e w' => e = .returned v ∧ W = w') :
    Calls P f args (w.drewN n) fun e w'' => e = .returned v ∧ ∃ m, w'' = w.drewN m := (h (w.drewN n) rfl).mono fun _ _ ⟨he, hm⟩ => ⟨he, n, hm.symm⟩
theorem nodup_take {L : List (List UInt8)} {k : Nat} (hk : k < L.length) (h : (L.take k).Nodup) (hn : L[k] ∉ L.take k) : (L.take (k + 1)).Nodup := by
  rw [List.take_succ_eq_append_getElem hk, List.nodup_append]
  refine ⟨h, by simp, ?_⟩
  rintro x hx y hy rfl
  rw [List.mem_singleton] at hy; subst hy; exact hn hx
set_option maxHeartbeats 1000000 in
theorem sdistinct_any (A : Option Addr) (c : Nat) (L : List (List UInt8)) (w : World) (h : Rd w w.heap.size A (L.map sv)) (hcap : L.length ≤ c) (hn : L.length ≤ 9223372036854775807) :
    Calls Try.prog 33 #[.slice A L.length c] w fun e w' => e = .returned (.bool (distB L)) ∧ Below w.heap.size w w' := by
  go_enter Try.func33, Try.ntmps33
  go_wp2_with fail
  go_loopw [3] (fun i wr => ∃ k : Nat, k ≤ L.length ∧ i = .int .i64 k ∧ (L.take k).Nodup ∧ Below w.heap.size w wr) (fun i _ => L.length - (Go.RowKit.intOf i).toNat)
  case atStart => exact ⟨0, Nat.zero_le _, rfl, by simp, Below.refl _ _⟩
  case round =>
    obtain ⟨k, hk, rfl, hd, hb⟩ := hrel
    by_cases hlt : k < L.length
    · have hr := h.below hb
      obtain ⟨ad, rfl, _, hc⟩ := Lh.rd_str hr hlt
      have hrk : Rd wr w.heap.size (some ad) ((L.take k).map sv) := fun hne => by
        obtain ⟨ad', e1, hB, hcs⟩ := hr (by intro e; rw [List.map_eq_nil_iff] at e; subst e; simp at hlt)
        refine ⟨ad', e1, hB, fun j u hu => hcs j u ?_⟩
        rw [List.map_take, List.getElem?_take] at hu
        split at hu
        · exact hu
        · cases hu
      have hcall := (fun (W : World) (hW : W.heap = wr.heap) => by
        have := has_any (some ad) c (L.take k) L[k] W w.heap.size (fun hne => by
          obtain ⟨ad', e1, hB, hcs⟩ := hrk hne
          exact ⟨ad', e1, hB, fun j u hu => by have := hcs j u hu; unfold World.cell? at this ⊢; rw [hW]; exact this⟩) (by rw [List.length_take]; omega)
        rwa [List.length_take, Nat.min_eq_left (by omega)] at this)
      have hq : k ≤ c := by omega
      cases hh : hasS (L.take k) L[k] with
      | true =>
        simp only [hh] at hcall
        have hcall := hid hcall
        have hf := hid (show distB L = false from decide_eq_false (fun hnd => by
          have hm := hasS_iff.1 hh
          rw [← List.take_append_drop (k + 1) L, List.take_succ_eq_append_getElem hlt] at hnd
          have := (List.nodup_append.1 (List.nodup_append.1 hnd).1).2.2 _ hm _ (List.mem_singleton.2 rfl)
          exact this rfl))
        have hd := hid hd
        clear h hr hrk
        go_wp2_with fail
        go_quiet ((go_at_call 53; exact quietL hcall.out))
        go_wp2_with fail
        go_ret
        exact ⟨by rw [hf.out]; rfl, bdr hb nq⟩
      | false =>
        simp only [hh] at hcall
        have hcall := hid hcall
        have hnx := hid (nodup_take hlt hd (hasS_false.1 hh))
        have hd := hid hd
        clear h hr hrk
        go_wp2_with fail
        go_quiet ((go_at_call 53; exact quietL hcall.out))
        go_wp2_with fail
        exact ⟨⟨k + 1, hlt, by go_num, hnx.out, bdr hb nq⟩, by simp [Go.RowKit.intOf]; omega⟩
    · obtain rfl : k = L.length := by omega
      have hf := hid (show distB L = true from decide_eq_true (by rw [List.take_of_length_le (Nat.le_refl _)] at hd; exact hd))
      clear hd h
      go_wp2_with fail
      go_ret
      exact ⟨by rw [hf.out]; rfl, hb⟩

/-- those that are not to be removed -/
def keepS (L R : List (List UInt8)) : List (List UInt8) := L.filter fun x => !hasS R x
theorem keep_snoc {L R : List (List UInt8)} {k : Nat} (hk : k < L.length) : keepS (L.take (k + 1)) R = keepS (L.take k) R ++ if hasS R L[k] then [] else [L[k]] := by
  unfold keepS
  rw [List.take_succ_eq_append_getElem hk, List.filter_append]
  cases h : hasS R L[k] <;> simp [h]
theorem keep_len (L R : List (List UInt8)) : (keepS L R).length ≤ L.length := List.length_filter_le _ _

theorem set_apart {e : TypeId} {w0 w : World} {v : Value} {xs : List Value} {b n : Nat} {S : List (List UInt8)} (h : Grow e w0 w v xs) (hs : SetIs w b n S) : v.ownBlock ≠ some b := by
  obtain ⟨es, clock, hx, _⟩ := hs
  rcases h.1.2 with ⟨rfl, _⟩ | ⟨g, c, cur, rfl, _, hblk, _⟩
  · simp [Value.ownBlock]
  · intro e1
    obtain rfl : g = b := by simpa [Value.ownBlock] using e1
    rw [hx] at hblk; cases hblk
set_option maxHeartbeats 1000000 in
theorem without_any (A1 A2 : Option Addr) (c1 c2 : Nat) (L R : List (List UInt8)) (w : World) (h1 : Rd w w.heap.size A1 (L.map sv)) (h2 : Rd w w.heap.size A2 (R.map sv)) (hmL : ∀ x ∈ L, x.length ≤ 9223372036854775807) (hmR : ∀ x ∈ R, x.length ≤ 9223372036854775807)
    (hn1 : L.length ≤ 1048576) (hn2 : R.length ≤ 9223372036854775807) :
    Calls Try.prog 23 #[.slice A1 L.length c1, .slice A2 R.length c2] w fun e w' => ∃ v, e = .returned v ∧ Grow 9 w w' v ((keepS L R).map sv) := by
  have hset := hid (setOf_any A2 c2 R w h2 hmR hn2)
  clear h2 hmR
  go_enter Try.func23, Try.ntmps23
  go_wp2_with fail
  refine hset.out.mono ?_
  rintro e w1 ⟨rfl, hs, hb⟩
  have hs := hid hs
  have hb := hid hb
  go_wp2_with fail
  go_loopw [6, 13] (fun o i wr => ∃ k : Nat, k ≤ L.length ∧ i = .int .i64 k ∧ Grow 9 w wr o ((keepS (L.take k) R).map sv) ∧ SetIs wr w.heap.size R.length R) (fun _ i _ => L.length - (Go.RowKit.intOf i).toNat)
  case atStart => exact ⟨0, Nat.zero_le _, rfl, Grow.nil_ _ _ hb.out, hs.out⟩
  case round =>
    obtain ⟨k, hk, rfl, hg, hs⟩ := hrel
    by_cases hlt : k < L.length
    · obtain ⟨ad, rfl, _, hc⟩ := Lh.rd_str (h1.below hg.2) hlt
      have hml := hmL _ (List.getElem_mem hlt)
      have hst := hid (keep_snoc (R := R) hlt)
      have hkl := keep_len (L.take k) R
      have hg := hid hg
      clear h1 hset
      cases hh : hasS R L[k] with
      | true =>
        rw [hh] at hst
        go_wp2_with (refine wpList_has rfl _ _ rfl w.heap.size R.length R hs L[k] (by unfold maxLen; omega) rfl rfl ?_)
        exact ⟨⟨k + 1, hlt, by go_num, by rw [hst.out]; simpa using hg.out, hs⟩, by simp [Go.RowKit.intOf]; omega⟩
      | false =>
        rw [hh] at hst
        have hkl' : ((keepS (L.take k) R).map sv).length < 1000000000000 := by rw [List.length_map]; rw [List.length_take] at hkl; omega
        have hob := hid (set_apart hg.out hs)
        go_wp2_with (first | (refine wpList_has rfl _ _ rfl w.heap.size R.length R hs L[k] (by unfold maxLen; omega) rfl rfl ?_) | (at_builtin; refine hg.out.append strT (sv L[k]) rfl hkl' rfl _ _ rfl rfl rfl ?_; intro v1 w1 hg1 hgb hv1))
        exact ⟨⟨k + 1, hlt, by go_num, by rw [hst.out, List.map_append]; exact hg1, hs.kept hgb (fun e => hob.out e.symm)⟩, by simp [Go.RowKit.intOf]; omega⟩
    · obtain rfl : k = L.length := by omega
      rw [List.take_of_length_le (Nat.le_refl _)] at hg
      go_wp2_with fail
      go_ret
      exact ⟨_, rfl, hg⟩
end Go.Proofs.Ytkoppcpkkpgaiaa.C2
