/- FnNames: sorted names are ascending with the same elements, and valid names are not reserved: the walk. -/
import Derived.Test.YtkoppcpkkpgaiaaDr2
import Derived.Test.YtkoppcpkkpgaiaaC2o
import Derived.Test.YtkoppcpkkpgaiaaL2a
import Derived.Test.YtkoppcpkkpgaiaaBig
import Derived.IntWalk
namespace Go.Proofs.Ytkoppcpkkpgaiaa.FnNames
open Go.RowKit Go.Lib Go.Proofs.Ytkoppcpkkpgaiaa.Com Go.Proofs.Ytkoppcpkkpgaiaa.Mem Go.Proofs.Ytkoppcpkkpgaiaa.Nm Go.Proofs.Ytkoppcpkkpgaiaa.Ow Go.Proofs.Ytkoppcpkkpgaiaa.Os Go.Proofs.Ytkoppcpkkpgaiaa.C2 Go.Proofs.Ytkoppcpkkpgaiaa.L2a Go.Proofs.Ytkoppcpkkpgaiaa.Lh Go.Proofs.Ytkoppcpkkpgaiaa.Mp

set_option maxHeartbeats 1000000 in
theorem rising_any (A : Option Addr) (c : Nat) (L : List (List UInt8)) (w : World) (h : Rd w w.heap.size A (L.map sv)) (ha : Asc L) (hn : L.length ≤ 9223372036854775807) :
    Calls Try.prog 15 #[.slice A L.length c] w fun e w' => e = .returned (.bool true) ∧ Below w.heap.size w w' := by
  go_enter Try.func15, Try.ntmps15
  go_wp2_with fail
  go_loopw [3] (fun i wr => ∃ k : Nat, 1 ≤ k ∧ i = .int .i64 k ∧ k ≤ L.length + 1 ∧ Below w.heap.size w wr) (fun i _ => L.length + 1 - (Go.RowKit.intOf i).toNat)
  case atStart => exact ⟨1, Nat.le_refl _, rfl, by omega, Below.refl _ _⟩
  case round =>
    obtain ⟨k, hk, rfl, hkl, hb⟩ := hrel
    by_cases hlt : k < L.length
    · obtain ⟨j, hjk⟩ : ∃ j, j + 1 = k := ⟨k - 1, by omega⟩
      have hj : j < L.length := by omega
      obtain ⟨ad, rfl, _, hc⟩ := Lh.rd_str (h.below hb) hlt
      have hc0 := Lh.rd_at (h.below hb) hj
      have hx : Op.bytesLess L[j] L[k] = true := by rw [Go.Proofs.bytesLess_eq]; exact decide_eq_true (List.pairwise_iff_getElem.1 ha j k hj hlt (by omega))
      have e1 : IntKind.i64.wrap ((k : Int) - 1) = (j : Int) := by rw [IntWalk.i64_in _ (by omega)]; omega
      have e3 : (k : Int) < (L.length : Int) := by omega
      have e4 : (j : Int) < (L.length : Int) := by omega
      generalize L[k] = y at *
      generalize L[j] = x at *
      have hb := hid hb
      have hjk := hid hjk
      clear h ha
      go_wp2_with fail
      go_quiet (fail)
      clear e1
      go_wp2_with fail
      exact ⟨⟨k + 1, by omega, by go_num, by omega, bdr hb.out _⟩, by simp [Go.RowKit.intOf]; omega⟩
    · go_wp2_with fail
      go_ret
      exact ⟨rfl, hb⟩
theorem rising_own {lo hi : Nat} {v : Value} {L : List (List UInt8)} (w : World) (h : OwnS lo hi w v L) (ha : Asc L) : Calls Try.prog 15 #[v] w fun e w' => e = .returned (.bool true) ∧ Below w.heap.size w w' := by
  obtain ⟨A, c, rfl, hr, hc, hm, _⟩ := h.read_
  exact rising_any A c L w hr ha (by unfold maxLen at hm; omega)
set_option maxHeartbeats 1000000 in
theorem same_any (A1 A2 : Option Addr) (c1 c2 : Nat) (l : List (List UInt8)) (w : World) (h1 : Rd w w.heap.size A1 (l.map sv)) (h2 : Rd w w.heap.size A2 (l.map sv)) (hl : l.length ≤ 9223372036854775807) :
    Calls Try.prog 16 #[.slice A1 l.length c1, .slice A2 l.length c2] w fun e w' => e = .returned (.bool true) ∧ Below w.heap.size w w' := by
  have hcmp : ((l.length : Int) != (l.length : Int)) = false := bne_self_eq_false _
  go_enter Try.func16, Try.ntmps16
  go_wp2_with fail
  go_loopw [5] (fun i wr => ∃ k : Nat, k ≤ l.length ∧ i = .int .i64 k ∧ Below w.heap.size w wr) (fun i _ => l.length - (Go.RowKit.intOf i).toNat)
  case atStart => exact ⟨0, Nat.zero_le _, rfl, Below.refl _ _⟩
  case round =>
    obtain ⟨k, hk, rfl, hb⟩ := hrel
    by_cases hlt : k < l.length
    · obtain ⟨ad1, rfl, _, hc1⟩ := Lh.rd_str (h1.below hb) hlt
      obtain ⟨ad2, rfl, _, hc2⟩ := Lh.rd_str (h2.below hb) hlt
      have hself : (l[k] != l[k]) = false := bne_self_eq_false _
      go_wp2_with fail
      go_quiet (fail)
      go_wp2_with fail
      exact ⟨⟨k + 1, hlt, by go_num, bdr hb nq⟩, by simp [Go.RowKit.intOf]; omega⟩
    · obtain rfl : k = l.length := by omega
      go_wp2_with fail
      go_ret
      exact ⟨rfl, hb⟩
theorem same_own {lo hi lo' hi' : Nat} {v v' : Value} {L : List (List UInt8)} (w : World) (h : OwnS lo hi w v L) (h' : OwnS lo' hi' w v' L) : Calls Try.prog 16 #[v, v'] w fun e w' => e = .returned (.bool true) ∧ Below w.heap.size w w' := by
  obtain ⟨A, c, rfl, hr, hc, hm, _⟩ := h.read_
  obtain ⟨A', c', rfl, hr', _⟩ := h'.read_
  exact same_any A A' c c' L w hr hr' (by unfold maxLen at hm; omega)
theorem distinct_own {lo hi : Nat} {v : Value} {L : List (List UInt8)} (w : World) (h : OwnS lo hi w v L) (ha : Asc L) (hl : ∀ x ∈ L, x.length ≤ 9223372036854775807) : Calls Try.prog 17 #[v] w fun e w' => e = .returned (.bool true) ∧ Below w.heap.size w w' := by
  obtain ⟨A, c, rfl, hr, hc, hm, _⟩ := h.read_
  have := distinct_any A c L w hr hl (by unfold maxLen at hm; omega)
  rwa [show distB L = true from decide_eq_true (asc_nodup ha)] at this
theorem index_own {lo hi : Nat} {v : Value} {L : List (List UInt8)} (l : List UInt8) (w : World) (h : OwnS lo hi w v L) : Calls Try.prog 18 #[v, .string ⟨l.toArray⟩] w fun e w' => e = .returned (.int .i64 (ixOf L l)) ∧ w = w' := by
  obtain ⟨A, c, rfl, hr, hc, hm, _, hA⟩ := h.read_
  exact index_any A c w.heap.size L l w hr hA (by unfold maxLen at hm; omega)
theorem rd_own {lo hi g c : Nat} {w : World} {l : List (List UInt8)} (h : OwnS lo hi w (.slice (some ⟨g, 0, none⟩) l.length c) l) : Rd w w.heap.size (some ⟨g, 0, none⟩) (l.map sv) := by
  obtain ⟨A, c', hv, hr, _⟩ := h.read_
  have hA : (some ⟨g, 0, none⟩ : Option Addr) = A := by injection hv
  rw [hA]; exact hr
theorem szL_small {l : List (List UInt8)} (h1 : l.length ≤ 5) (h2 : ∀ x ∈ l, x.length ≤ 9) : szL l ≤ 50 := by
  have : ∀ l : List (List UInt8), (∀ x ∈ l, x.length ≤ 9) → (l.map List.length).sum ≤ 9 * l.length := by
    intro l
    induction l with
    | nil => intro _; simp
    | cons y r ih => intro h; have := ih (fun x hx => h x (by simp [hx])); have := h y (by simp); simp only [List.map_cons, List.sum_cons, List.length_cons]; omega
  have := this l h2
  unfold szL; omega
theorem valid_not {s : List UInt8} (h : validB s = true) : hasS resW s = false := by
  unfold validB at h
  simp only [Bool.and_eq_true, Bool.not_eq_true'] at h
  exact h.2.2
theorem keep_none (l : List (List UInt8)) : keepS (sortU l) l = [] := by
  unfold keepS
  rw [List.filter_eq_nil_iff]
  intro x hx
  have : hasS l x = true := hasS_iff.2 (mem_sortU.1 hx)
  simp [this]

set_option maxRecDepth 100000 in
set_option maxHeartbeats 8000000 in
theorem walk (w : World) (A : Option Addr) (k : Nat) (xs : List UInt8) (hr : Rd w w.heap.size A (xs.map bv)) (_ : xs.length ≤ 9223372036854775807) :
    Calls Try.prog 3 #[.slice A xs.length k] w fun e w' => e = .returned (.bool true) ∧ Below w.heap.size w w' := by
  have hbig := hid (Big.big_any A xs.length k w)
  by_cases hb : 1048576 < xs.length
  · rw [decide_eq_true (show 1048576 < (xs.length : Int) by omega)] at hbig
    go_enter Try.func3, Try.ntmps3
    go_wp2_with fail
    refine hbig.out.mono ?_
    rintro e w1 ⟨rfl, rfl⟩
    go_wp2_with fail
    go_ret
    exact ⟨rfl, Below.refl _ _⟩
  rw [decide_eq_false (show ¬ 1048576 < (xs.length : Int) by omega)] at hbig
  have hd1 := hid (Dr.drawSortNames A k xs w hr (by omega))
  have hd2 := hid (fun (w1 : World) (hb1 : Below w.heap.size w w1) => Dr.drawIsValidName A k xs w1 ((hr.below hb1).more hb1.size) (by omega))
  clear hb hr
  go_enter Try.func3, Try.ntmps3
  go_wp2_with fail
  refine hbig.out.mono ?_
  rintro e w1 ⟨rfl, rfl⟩
  go_wp2_with fail
  refine hd1.out.mono ?_
  rintro e W1 ⟨⟨gl, cl, l, rfl, hl, hm, o_l⟩, hb⟩
  have B1 := hid hb
  have s1 := hb.size
  have o_l := hid o_l
  have hz : szL l ≤ 1048576 := by have := szL_small hl hm; omega
  have hzs : szL (sortU l) ≤ 1048576 := by have := szL_small (l := sortU l) (by have := sortU_len l; omega) (fun x hx => hm x (mem_sortU.1 hx)); omega
  have hm := hid hm
  have hasc := hid (sortU_asc l)
  have hss := hid (sortU_self hasc.out)
  have hix := hid (fun (i : Nat) (hi : i < l.length) => show 0 ≤ ixOf (sortU l) l[i] from by
    have := ixOf_neg (L := sortU l) (l := l[i])
    have h2 : l[i] ∈ sortU l := mem_sortU.2 (List.getElem_mem hi)
    have : ¬ ixOf (sortU l) l[i] < 0 := fun h => (this.1 h) h2
    omega)
  have hkn := hid (keep_none l)
  have hzl := hid (szL_each hzs)
  clear hb
  go_wp2_with fail
  refine (sort_own _ o_l.out hz).mono ?_
  rintro e W2 ⟨r2, rfl, o_s, hb⟩
  have s2 := hb.size
  replace o_l := hid (o_l.out.same (same_below hb (by omega)))
  have o_s := hid o_s
  have B2 := hid (B1.out.trans (hb.mono (by omega)))
  clear hb
  go_wp2_with fail
  refine (rising_own _ o_s.out hasc.out).mono ?_
  rintro e W3 ⟨rfl, hb⟩
  have s3 := hb.size
  replace o_l := hid (o_l.out.same (same_below hb (by omega)))
  replace o_s := hid (o_s.out.same (same_below hb (by omega)))
  have B3 := hid (B2.out.trans (hb.mono (by omega)))
  clear hb
  go_wp2_with fail
  refine (sort_own _ o_s.out hzs).mono ?_
  rintro e W4 ⟨r4, rfl, o_t, hb⟩
  rw [hss.out] at o_t
  have s4 := hb.size
  replace o_l := hid (o_l.out.same (same_below hb (by omega)))
  replace o_s := hid (o_s.out.same (same_below hb (by omega)))
  have o_t := hid o_t
  have B4 := hid (B3.out.trans (hb.mono (by omega)))
  clear hb
  go_wp2_with fail
  refine (same_own _ o_t.out o_s.out).mono ?_
  rintro e W5 ⟨rfl, hb⟩
  have s5 := hb.size
  clear o_t
  replace o_l := hid (o_l.out.same (same_below hb (by omega)))
  replace o_s := hid (o_s.out.same (same_below hb (by omega)))
  have B5 := hid (B4.out.trans (hb.mono (by omega)))
  clear hb
  go_wp2_with fail
  refine (distinct_own _ o_s.out hasc.out hzl.out).mono ?_
  rintro e W6 ⟨rfl, hb⟩
  have s6 := hb.size
  replace o_l := hid (o_l.out.same (same_below hb (by omega)))
  replace o_s := hid (o_s.out.same (same_below hb (by omega)))
  have B6 := hid (B5.out.trans (hb.mono (by omega)))
  clear hb
  have hrl := hid (rd_own o_l.out)
  go_wp2_with fail
  go_loop [5] (fun i => ∃ j : Nat, j ≤ l.length ∧ i = .int .i64 j) (fun i => l.length - (Go.RowKit.intOf i).toNat)
  case atStart => exact ⟨0, Nat.zero_le _, rfl⟩
  case round =>
    obtain ⟨j, hj, rfl⟩ := hrel
    by_cases hlt : j < l.length
    · have hc := Lh.rd_at hrl.out hlt
      rw [add_zero] at hc
      have h0 := hix.out j hlt
      have t0 : decide (ixOf (sortU l) l[j] < 0) = false := decide_eq_false (by omega)
      go_wp2_with fail
      refine (index_own _ _ o_s.out).mono ?_
      rintro e w' ⟨rfl, rfl⟩
      go_wp2_with fail
      go_round
      case rel => exact ⟨j + 1, hlt, by go_num⟩
      case measure => simp [Go.RowKit.intOf]; omega
    · obtain rfl : j = l.length := by omega
      clear hd1 hbig
      go_wp2_with fail
      refine (hd2.out _ B6.out).mono ?_
      rintro e W7 ⟨⟨s, hs, rfl⟩, hb⟩
      have s7 := hb.size
      replace o_l := hid (o_l.out.same (same_below hb (by omega)))
      replace o_s := hid (o_s.out.same (same_below hb (by omega)))
      have B7 := hid (B6.out.trans (hb.mono (by omega)))
      have hcmp : (validB s != validB s) = false := bne_self_eq_false _
      have hv := hid (fun h => valid_not (s := s) h)
      clear hb
      go_wp2_with fail
      refine (valid_any s _ (by omega)).mono ?_
      rintro e W8 ⟨rfl, hb⟩
      have s8 := hb.size
      replace o_l := hid (o_l.out.same (same_below hb (by omega)))
      replace o_s := hid (o_s.out.same (same_below hb (by omega)))
      have B8 := hid (B7.out.trans (hb.mono (by omega)))
      clear hb
      go_wp2_with fail
      refine (svalid_any s _ (by omega)).mono ?_
      rintro e W9 ⟨rfl, hb⟩
      have s9 := hb.size
      replace o_l := hid (o_l.out.same (same_below hb (by omega)))
      replace o_s := hid (o_s.out.same (same_below hb (by omega)))
      have B9 := hid (B8.out.trans (hb.mono (by omega)))
      clear hb
      go_wp2_with fail
      refine (valid_any s _ (by omega)).mono ?_
      rintro e W10 ⟨rfl, hb⟩
      have s10 := hb.size
      replace o_l := hid (o_l.out.same (same_below hb (by omega)))
      replace o_s := hid (o_s.out.same (same_below hb (by omega)))
      have B10 := hid (B9.out.trans (hb.mono (by omega)))
      clear hb
      cases hvs : validB s with
      | true =>
        have hrs := hid (reserved_any s)
        have hno := hv.out hvs
        go_wp2_with fail
        refine (reserved_any s _ (by unfold maxLen; omega)).mono ?_
        rw [hno]
        rintro e W11 ⟨rfl, hb⟩
        have s11 := hb.size
        replace o_l := hid (o_l.out.same (same_below hb (by omega)))
        replace o_s := hid (o_s.out.same (same_below hb (by omega)))
        have B11 := hid (B10.out.trans (hb.mono (by omega)))
        clear hb
        go_wp2_with fail
        refine (without_own _ o_s.out o_l.out hzs hz).mono ?_
        rw [hkn.out]
        rintro e W12 ⟨r12, rfl, o_k, hb⟩
        obtain ⟨Ak, ck, rfl, _⟩ := OwnS.read_ o_k
        have B12 := hid (B11.out.trans (hb.mono (by omega)))
        clear hb o_k
        go_wp2_with fail
        go_ret
        exact ⟨rfl, B12.out⟩
      | false =>
        go_wp2_with fail
        refine (without_own _ o_s.out o_l.out hzs hz).mono ?_
        rw [hkn.out]
        rintro e W12 ⟨r12, rfl, o_k, hb⟩
        obtain ⟨Ak, ck, rfl, _⟩ := OwnS.read_ o_k
        have B12 := hid (B10.out.trans (hb.mono (by omega)))
        clear hb o_k
        go_wp2_with fail
        go_ret
        exact ⟨rfl, B12.out⟩
end Go.Proofs.Ytkoppcpkkpgaiaa.FnNames
