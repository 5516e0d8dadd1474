/- FnEval: a value depends on the variables that occur alone, and is a word: the walk. -/
import Derived.Test.YtlkfejcnkckgkaaDe
import Derived.Test.YtlkfejcnkckgkaaEv
import Derived.Test.YtlkfejcnkckgkaaC2b
import Derived.Test.YtlkfejcnkckgkaaBig
set_option maxRecDepth 100000
namespace Go.Proofs.Ytlkfejcnkckgkaa.FnEval
open Go.RowKit Go.Lib Go.Sort Go.Proofs.Ytlkfejcnkckgkaa.Com Go.Proofs.Ytlkfejcnkckgkaa.Mem Go.Proofs.Ytlkfejcnkckgkaa.Os Go.Proofs.Ytlkfejcnkckgkaa.Ow Go.Proofs.Ytlkfejcnkckgkaa.Tr Go.Proofs.Ytlkfejcnkckgkaa.C2 Go.Proofs.Ytlkfejcnkckgkaa.C3 Go.Proofs.Ytlkfejcnkckgkaa.Nm
theorem intT : SlT Try.prog 35 3 (.int .i64 0) 8 := ⟨Try.underlying35, by kernel_rfl, rfl, by decide⟩
theorem one_iv (l : List Int) : ∀ u ∈ l.map iv, u.oneCell' = true := by
  intro u hu; obtain ⟨x, _, rfl⟩ := List.mem_map.1 hu; rfl
/-- where the copy still agrees with the state -/
def Agree (t : T) (L : List (List UInt8)) (S S' : List Int) (m : Nat) : Prop := S'.length = S.length ∧ ∀ j, j < S.length → ∀ h2 : j < L.length, (m ≤ j ∨ L[j] ∈ varsT t) → S'[j]? = S[j]?
theorem agree_0 (t : T) (L : List (List UInt8)) (S : List Int) : Agree t L S S 0 := ⟨rfl, fun _ _ _ _ => rfl⟩
theorem agree_keep {t : T} {L : List (List UInt8)} {S S' : List Int} {m : Nat} (h : Agree t L S S' m) : Agree t L S S' (m + 1) := ⟨h.1, fun j h1 h2 h3 => h.2 j h1 h2 (by rcases h3 with h | h; exact Or.inl (by omega); exact Or.inr h)⟩
theorem agree_set {t : T} {L : List (List UInt8)} {S S' : List Int} {m : Nat} (h : Agree t L S S' m) (h2 : m < L.length) (hn : L[m] ∉ varsT t) (z : Int) : Agree t L S (S'.set m z) (m + 1) := by
  refine ⟨by rw [List.length_set]; exact h.1, fun j h1 h2' h3 => ?_⟩
  have hne : m ≠ j := by
    rintro rfl
    rcases h3 with h | h
    · omega
    · exact hn h
  rw [List.getElem?_set_ne hne]
  exact h.2 j h1 h2' (by rcases h3 with h | h; exact Or.inl (by omega); exact Or.inr h)
theorem agree_end {t : T} {L : List (List UInt8)} {S S' : List Int} {m : Nat} (h : Agree t L S S' m) : evT L S' t = evT L S t :=
  (evT_eq L S S' t fun s hs => readV_eq L S S' s h.1 fun j h1 h2 e => by
    have := h.2 j h1 h2 (Or.inr (e ▸ hs))
    rw [List.getElem?_eq_getElem h1, List.getElem?_eq_getElem (by rw [h.1]; exact h1)] at this
    exact Option.some.inj this).symm
theorem take_set_map {cs : List Value} {S' : List Int} {n m : Nat} (h : cs.take n = S'.map iv) (z : Int) : (cs.set m (.int .i64 z)).take n = (S'.set m z).map iv := by
  rw [List.take_set, h, List.map_set]
theorem cs_at {cs : List Value} {S' : List Int} {n m : Nat} (h : cs.take n = S'.map iv) (hm : m < S'.length) : cs[m]? = some (.int .i64 S'[m]) := by
  have h1 : (cs.take n)[m]? = some (.int .i64 S'[m]) := by rw [h]; simp [hm]
  rw [List.getElem?_take] at h1
  split at h1
  · exact h1
  · cases h1
set_option maxRecDepth 100000 in
set_option maxHeartbeats 8000000 in
theorem walk (w : World) (A : Option Addr) (k : Nat) (xs : List UInt8) (hr : Rd w w.heap.size A (xs.map bv)) (_ : xs.length ≤ 9223372036854775807) :
    Calls Try.prog 4 #[.slice A xs.length k] w fun e w' => e = .returned (.bool true) ∧ Below w.heap.size w w' := by
  have hbig := hid (Big.big_any A xs.length k w)
  by_cases hb : 1048576 < xs.length
  · rw [decide_eq_true (show 1048576 < (xs.length : Int) by omega)] at hbig
    go_enter Try.func4, Try.ntmps4
    go_wp2_with fail
    refine hbig.out.mono ?_
    rintro e w1 ⟨rfl, rfl⟩
    go_wp2_with fail
    go_ret
    exact ⟨rfl, Below.refl _ _⟩
  rw [decide_eq_false (show ¬ 1048576 < (xs.length : Int) by omega)] at hbig
  have hd1 := hid (Dr.drawEval A k xs w hr (by omega))
  clear hb hr
  go_enter Try.func4, Try.ntmps4
  go_wp2_with fail
  refine hbig.out.mono ?_
  rintro e w1 ⟨rfl, rfl⟩
  go_wp2_with fail
  refine hd1.out.mono ?_
  rintro e w1 ⟨v, t, L, S, AV, AS, cV, cS, rfl, hO, hcn, hV, hA, hS, hL, hS2, hN, hb1⟩
  obtain ⟨ek, en, es, eA, el, ec, rfl⟩ := OwnE.form hO
  have hbx := box_below w1 (.cells #[.int .i64 ek, .int .i64 en, sv es, .slice eA el ec] 26)
  have E2 := hid (box_blk w1 ek en es eA el ec 26)
  have O2 := hid (hO.same (same_below hbx (Nat.le_refl _)))
  have V2 := hid (rd_go hV hbx)
  have S2 := hid (rd_go hS hbx)
  have B2 := hid (hb1.trans (hbx.mono hb1.size))
  have hz1 := hb1.size
  replace hA := hid hA
  replace hN := hid hN
  clear hO hb1 hbx hbig hd1 hV hS
  go_wp2_with fail
  generalize (w1.alloc (.cells #[.int .i64 ek, .int .i64 en, sv es, .slice eA el ec] 26)) = w2 at *
  obtain ⟨x0, x1, x2, x3⟩ := four E2.out
  go_wp2_with fail
  refine (ievalOf L S (by omega) t _ _ _ _ _ w2 O2.out.ex V2.out hA.out S2.out).mono ?_
  rintro e w3 ⟨rfl, hb⟩
  have O3 := hid (O2.out.same (same_below hb (Nat.le_of_lt E2.out.lt)))
  have E3 := hid (E2.out.below hb E2.out.lt)
  have V3 := hid (rd_go V2.out hb)
  have S3 := hid (rd_go S2.out hb)
  have B3 := hid (B2.out.trans (hb.mono B2.out.size))
  clear hb O2 E2 B2 V2 S2 x0 x1 x2 x3
  obtain ⟨x0, x1, x2, x3⟩ := four E3.out
  go_wp2_with fail
  refine (sevalOf L S (by omega) (by omega) t _ _ _ _ _ w3 O3.out.ex (by omega) V3.out S3.out).mono ?_
  rintro e w4 ⟨rfl, hb⟩
  have O4 := hid (O3.out.same (same_below hb (Nat.le_of_lt E3.out.lt)))
  have E4 := hid (E3.out.below hb E3.out.lt)
  have V4 := hid (rd_go V3.out hb)
  have S4 := hid (rd_go S3.out hb)
  have B4 := hid (B3.out.trans (hb.mono B3.out.size))
  clear hb O3 E3 B3 V3 S3 x0 x1 x2 x3
  obtain ⟨x0, x1, x2, x3⟩ := four E4.out
  have hw := evT_w L S t
  have hend : ∀ S' m, Agree t L S S' m → evT L S' t = evT L S t := fun _ _ h => agree_end h
  generalize evT L S t = R at *
  obtain ⟨rv, rb⟩ := R
  replace hend := hid hend
  have n1 : (rv != rv) = false := bne_self_eq_false _
  have n2 : (rb != rb) = false := bne_self_eq_false _
  have q1 : (rv == rv) = true := beq_self_eq_true _
  have q2 : (rb == rb) = true := beq_self_eq_true _
  have c6 := hid (sisWord_any rv w4)
  rw [show isW rv = true from hw] at c6
  clear hw
  go_wp2_with fail
  refine c6.out.mono ?_
  rintro e w5 ⟨rfl, rfl⟩
  clear c6
  go_wp2_with fail
  refine (svarsOf t _ w4 O4.out.ex (by omega)).mono ?_
  rintro e w6 ⟨U, rfl, hU, hb⟩
  have O6 := hid (O4.out.same (same_below hb (Nat.le_of_lt E4.out.lt)))
  have E6 := hid (E4.out.below hb E4.out.lt)
  have V6 := hid (rd_go V4.out hb)
  have S6 := hid (rd_go S4.out hb)
  have B6 := hid (B4.out.trans (hb.mono B4.out.size))
  have hlu : (sortU (varsT t)).length ≤ 9223372036854775807 := by
    obtain ⟨A', c', rfl, _, h1, h2, _⟩ := hU.read
    rw [List.length_map] at h1
    unfold maxLen at h2; omega
  obtain ⟨AU, cU, rfl, rU, _⟩ := hU.read
  rw [List.length_map]
  replace rU := hid rU
  clear hb O4 E4 B4 V4 S4 x0 x1 x2 x3 hU
  have hf6 : Below w6.heap.size w6 (w6.alloc (.cells #[] 3)) := (Grow.lit0 3 w6).2
  have R6 := hid (S6.out.below hf6)
  clear hf6
  go_wp2_with (at_builtin; refine (Grow.lit0 3 w6).appendAll intT AS S.length cS w6.heap.size (S.map iv) (by simp) hN.out R6.out (one_iv S) (by simp; omega) rfl _ _ rfl rfl rfl ?_; intro v7 w7 hg7 _ hv7; replace hg7 := hid hg7; have hne := hid (show v7 ≠ .slice none 0 0 from fun e => by cases (hv7.1 e).1); clear hv7)
  obtain ⟨g, cc, cur, rfl, hg6, hcur, hlc, hmc, hcs, htk⟩ := hg7.out.some_ hne.out
  simp only [List.nil_append, List.length_map] at htk hlc ⊢
  have k7 := hid (show Blk w7 g 3 cur.toList from by unfold Blk; simpa using hcur)
  have hb7 := hid hg7.out.2
  have e7 := hid htk
  replace hg6 := hid hg6
  clear hg7 hne R6 S6 hcur hcs htk hN hmc
  generalize cur.toList = cs7 at *
  go_wp2_with fail
  go_loopw [12] (fun i wr => ∃ (m : Nat) (cs : List Value) (S' : List Int), i = .int .i64 m ∧ m ≤ S.length ∧ Hid (Agree t L S S' m) ∧ Hid (cs.take S.length = S'.map iv) ∧ Hid (Blk wr g 3 cs) ∧ Hid (Below w6.heap.size w6 wr)) (fun i _ => S.length - (Go.RowKit.intOf i).toNat)
  case atStart => exact ⟨0, cs7, S, rfl, Nat.zero_le _, hid (agree_0 t L S), e7, k7, hb7⟩
  case round =>
    obtain ⟨m, cs, S', rfl, hm, hag, htk, hblk, hbel⟩ := hrel
    clear hb7 k7 e7
    by_cases h1 : m < S.length
    · by_cases h2 : m < L.length
      · obtain ⟨ad, hav, _, hc⟩ := Lh.rd_str (V6.out.below hbel.out) h2
        have c1 := hid (sindex_any AU cU (sortU (varsT t)) L[m] wr w6.heap.size (rU.out.below hbel.out) hlu)
        have hS' : m < S'.length := by rw [hag.out.1]; exact h1
        have u1 := cs_at htk.out hS'
        have u2 : wr.cell? ⟨g, m, none⟩ = some (.int .i64 S'[m]) := by rw [hblk.out.cell, u1]
        have u3 := hblk.out.frozen m
        clear u1
        subst hav
        clear E6 O6
        by_cases h3 : ixOf (sortU (varsT t)) L[m] < 0
        · have d3 : decide (ixOf (sortU (varsT t)) L[m] < 0) = true := decide_eq_true h3
          have hnot : L[m] ∉ varsT t := fun h => ixOf_neg.1 h3 (mem_sortU.2 h)
          have f1 := hid (fun z => agree_set hag.out h2 hnot z)
          have f2 := hid (fun z => take_set_map (m := m) htk.out z)
          have f3 := hid (fun z : Int => hblk.out.set_ m (.int .i64 z))
          have f4 := hid (fun z : Int => hbel.out.setCell (p := ⟨g, m, none⟩) hg6.out (.int .i64 z))
          clear hag htk hblk hbel hnot h3
          go_wp2_with fail
          refine c1.out.mono ?_
          rintro e w9 ⟨rfl, rfl⟩
          go_wp2_with fail
          exact ⟨⟨m + 1, _, _, by go_num, h1, hid (f1.out _), hid (f2.out _), hid (f3.out _), hid (f4.out _)⟩, by simp [Go.RowKit.intOf]; omega⟩
        · have d3 : decide (ixOf (sortU (varsT t)) L[m] < 0) = false := decide_eq_false h3
          have f1 := hid (agree_keep hag.out)
          clear hag h3 u2 u3
          go_wp2_with fail
          refine c1.out.mono ?_
          rintro e w9 ⟨rfl, rfl⟩
          go_wp2_with fail
          exact ⟨⟨m + 1, cs, S', by go_num, h1, f1, htk, hblk, hbel⟩, by simp [Go.RowKit.intOf]; omega⟩
      · have E9 := hid (E6.out.below hbel.out E6.out.lt)
        have O9 := hid (O6.out.same (same_below hbel.out (Nat.le_of_lt E6.out.lt)))
        have hrd := Dr.rd_cut hblk.out.rd S.length
        rw [htk.out] at hrd
        have hev := ievalOf L S' (by omega) t _ _ _ cV cc wr O9.out.ex (rd_go V6.out hbel.out) hA.out (hrd.more hblk.out.lt)
        rw [hag.out.1, hend.out S' m hag.out] at hev
        replace hev := hid hev
        replace B6 := hid (B6.out.trans (hbel.out.mono B6.out.size))
        clear E6 O6 hrd hag htk hblk hbel hend
        obtain ⟨x0, x1, x2, x3⟩ := four E9.out
        go_wp2_with fail
        refine hev.out.mono ?_
        rintro e w9 ⟨rfl, hb⟩
        have B9 := hid (B6.out.trans (hb.mono B6.out.size))
        clear hb B6 hev
        go_wp2_with fail
        go_ret
        exact ⟨rfl, B9.out⟩
    · have E9 := hid (E6.out.below hbel.out E6.out.lt)
      have O9 := hid (O6.out.same (same_below hbel.out (Nat.le_of_lt E6.out.lt)))
      have hrd := Dr.rd_cut hblk.out.rd S.length
      rw [htk.out] at hrd
      have hev := ievalOf L S' (by omega) t _ _ _ cV cc wr O9.out.ex (rd_go V6.out hbel.out) hA.out (hrd.more hblk.out.lt)
      rw [hag.out.1, hend.out S' m hag.out] at hev
      replace hev := hid hev
      replace B6 := hid (B6.out.trans (hbel.out.mono B6.out.size))
      clear E6 O6 hrd hag htk hblk hbel hend
      obtain ⟨x0, x1, x2, x3⟩ := four E9.out
      go_wp2_with fail
      refine hev.out.mono ?_
      rintro e w9 ⟨rfl, hb⟩
      have B9 := hid (B6.out.trans (hb.mono B6.out.size))
      clear hb B6 hev
      go_wp2_with fail
      go_ret
      exact ⟨rfl, B9.out⟩
end Go.Proofs.Ytlkfejcnkckgkaa.FnEval
