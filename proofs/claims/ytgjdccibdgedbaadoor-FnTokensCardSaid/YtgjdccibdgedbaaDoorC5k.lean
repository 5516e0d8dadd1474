/- The program's Tokenize: its loop. -/
import Derived.Test.YtgjdccibdgedbaaDoorC5j
import Derived.WalkMore
import Derived.ScopeJumps
set_option maxRecDepth 100000
namespace Go.Proofs.YtgjdccibdgedbaaDoor.Tk
open Go.RowKit Go.Lib Go.Proofs.YtgjdccibdgedbaaDoor.Num Go.Proofs.YtgjdccibdgedbaaDoor.Com Go.Proofs.YtgjdccibdgedbaaDoor.Mem Go.Proofs.YtgjdccibdgedbaaDoor.Ch Go.Proofs.YtgjdccibdgedbaaDoor.Os Go.Proofs.YtgjdccibdgedbaaDoor.C3

theorem tokV_at (b : UInt8) (r : List UInt8) (p : Int) : (⟨(tokV b r 0).k, (tokV b r 0).n, p, (tokV b r 0).s⟩ : Tok) = tokV b r p := by
  unfold tokV
  split
  · rfl
  · split <;> rfl
theorem rtok_at (S : List UInt8) (a : Nat) (h : a < S.length) (hl : S.length ≤ 400) (w : World) : Calls Tryd.prog 21 #[.string ⟨(S.drop a).toArray⟩] w fun e w' =>
    ∃ t : Tok, e = .returned (.tuple #[tv t, .int .i64 ((tokL (bt S a h) (S.drop (a + 1)) : Nat) : Int)]) ∧ (tokL (bt S a h) (S.drop (a + 1)) ≠ 0 → (⟨t.k, t.n, a, t.s⟩ : Tok) = tokV (bt S a h) (S.drop (a + 1)) a) ∧ Below w.heap.size w w' := by
  have h0 : 0 < (S.drop a).length := by rw [List.length_drop]; omega
  have e1 : bt (S.drop a) 0 h0 = bt S a h := show (S.drop a)[0] = S[a] by rw [List.getElem_drop]; rfl
  have e2 : (S.drop a).drop 1 = S.drop (a + 1) := by rw [List.drop_drop]
  refine (rtok (S.drop a) h0 (by rw [List.length_drop]; omega) w).mono ?_
  rintro e w' ⟨t, he, ht, hb⟩
  rw [e1, e2] at he ht
  refine ⟨t, he, fun hne => ?_, hb⟩
  rw [ht hne]
  exact tokV_at _ _ _
/-- what holds where the program jumps to its label 'failed': the offset lies in its place, and the text has an error there -/
def Failed (S : List UInt8) (w : World) (ac : Act) (w' : World) : Prop :=
  ∃ (a : Nat) (u0 u1 u2 u3 u4 u6 u7 u8 u9 u10 u11 u12 u13 u14 u15 u16 u17 u18 u19 u20 u21 u22 u23 u24 u25 u26 u27 u28 u29 u30 u31 u32 u33 u34 u35 u36 u37 u38 u39 u40 u41 u42 u43 u44 u45 u46 u47 : Value), ac = { tmps := #[u0, u1, u2, u3, u4, .int .i64 a, u6, u7, u8, u9, u10, u11, u12, u13, u14, u15, u16, u17, u18, u19, u20, u21, u22, u23, u24, u25, u26, u27, u28, u29, u30, u31, u32, u33, u34, u35, u36, u37, u38, u39, u40, u41, u42, u43, u44, u45, u46, u47], defers := [] } ∧ tokz S = (([], (a : Int)) : List Tok × Int) ∧ Below w.heap.size w w'
set_option maxHeartbeats 4000000 in
theorem itokz (S : List UInt8) (hS : S.length ≤ 9223372036854775807) (w : World) : Calls Tryd.prog 7 #[.string ⟨S.toArray⟩] w (TokOk S w) := by
  by_cases hbig : 400 < S.length
  · have t1 : decide (400 < (S.length : Int)) = true := decide_eq_true (by omega)
    have hf := hid (tokz_big hbig)
    go_enter Tryd.func7, Tryd.ntmps7
    go_wp2_with fail
    refine wp_scope_jumps 0 (Failed S w) (fun _ _ => 0) rfl ?_ ?_
    · go_wp2_with fail
      go_step3
      exact ⟨rfl, 400, _, _, _, _, _, _, _, _, _, _, _, _, _, _, _, _, _, _, _, _, _, _, _, _, _, _, _, _, _, _, _, _, _, _, _, _, _, _, _, _, _, _, _, _, _, _, _, rfl, hf.out, Below.refl _ _⟩
    · rintro ac w' ⟨a, u0, u1, u2, u3, u4, u6, u7, u8, u9, u10, u11, u12, u13, u14, u15, u16, u17, u18, u19, u20, u21, u22, u23, u24, u25, u26, u27, u28, u29, u30, u31, u32, u33, u34, u35, u36, u37, u38, u39, u40, u41, u42, u43, u44, u45, u46, u47, rfl, hf, hb⟩
      replace hf := hid hf
      replace hb := hid hb
      go_wp2_with fail
      simp only [Exit.jump]
      go_ret2
      exact ⟨_, by rw [hf.out]; rfl, by rw [hf.out]; exact OwnT.nil_ _ _ _, hb.out⟩
  have t1 : decide (400 < (S.length : Int)) = false := decide_eq_false (by omega)
  have hl : S.length ≤ 400 := by omega
  have hf := hid (tokz_small hl)
  have hst := hid (show Lay S 0 [] by unfold Lay; rw [List.drop_zero])
  have hr0 := hid (row_nil w w.heap.size)
  go_enter Tryd.func7, Tryd.ntmps7
  go_wp2_with fail
  refine wp_scope_jumps 0 (Failed S w) (fun _ _ => 0) rfl ?_ ?_
  rotate_left
  · rintro ac w' ⟨a, u0, u1, u2, u3, u4, u6, u7, u8, u9, u10, u11, u12, u13, u14, u15, u16, u17, u18, u19, u20, u21, u22, u23, u24, u25, u26, u27, u28, u29, u30, u31, u32, u33, u34, u35, u36, u37, u38, u39, u40, u41, u42, u43, u44, u45, u46, u47, rfl, hf, hb⟩
    replace hf := hid hf
    replace hb := hid hb
    go_wp2_with fail
    simp only [Exit.jump]
    go_ret2
    exact ⟨_, by rw [hf.out]; rfl, by rw [hf.out]; exact OwnT.nil_ _ _ _, hb.out⟩
  go_wp2_with fail
  go_step3
  go_wp2_with fail
  go_loopw [4, 5] (fun o i wr => ∃ (a : Nat) (out : List Tok) (A : Option Addr) (c : Nat), a ≤ S.length ∧ i = .int .i64 a ∧ o = .slice A out.length c ∧ RowT wr w.heap.size (.slice A out.length c) out ∧ Lay S a out ∧ out.length ≤ 150 ∧ Below w.heap.size w wr) (fun _ i _ => S.length - (Go.RowKit.intOf i).toNat)
  case atStart => exact ⟨0, [], _, _, Nat.zero_le _, rfl, rfl, hr0.out, hst.out, by simp, Below.refl _ _⟩
  case round =>
    obtain ⟨a, out, A, c, ha, rfl, rfl, hrow, hlay, h150, hb⟩ := hrel
    have hrow := hid hrow
    have hlay := hid hlay
    have hb := hid hb
    by_cases hlt : a < S.length
    · have t2 : ((a : Int) == (S.length : Int)) = false := ieqf (by omega)
      have hsep := hid (fun w => isep_any (bt S a hlt) w)
      cases hs : isSep (bt S a hlt) with
      | true =>
        have hnx := hid (hlay.out.sep hlt hs)
        rw [hs] at hsep
        clear hs
        go_wp2_with fail
        refine (hsep.out _).mono ?_
        rintro e w1 ⟨rfl, rfl⟩
        go_wp2_with fail
        exact ⟨⟨a + 1, out, A, c, hlt, by go_num, rfl, hrow.out, hnx.out, h150, hb.out⟩, by simp [Go.RowKit.intOf]; omega⟩
      | false =>
        rw [hs] at hsep
        have hcl := fun w => rtok_at S a hlt hl w
        have hle := tokL_le (bt S a hlt) (S.drop (a + 1))
        rw [List.length_drop] at hle
        have hbad := hid (fun h2 => hlay.out.bad hlt hs h2)
        have htok := hid (fun h2 h3 => hlay.out.tok hlt hs h2 h3)
        generalize tokL (bt S a hlt) (S.drop (a + 1)) = m at *
        generalize tokV (bt S a hlt) (S.drop (a + 1)) a = tk at *
        replace hcl := hid hcl
        have hx := txt_cut S a S.length
        rw [List.take_of_length_le (by rw [List.length_drop]; exact Nat.le_refl _)] at hx
        clear hs
        go_wp2_with fail
        refine (hsep.out _).mono ?_
        rintro e w1 ⟨rfl, rfl⟩
        go_wp2_with fail
        refine (hcl.out _).mono ?_
        rintro e w2 ⟨t, rfl, ht, hb2⟩
        have hrow2 := hid (row_below hrow.out hb2)
        have hb3 := hid (hb.out.trans (hb2.mono hb.out.size))
        clear hb2
        by_cases hm : m = 0
        · subst hm
          have hfin := hid (hbad.out (Or.inl rfl))
          have hb4 := hid (hb3.out.alloc hb3.out.size (.cells #[.int .i64 t.k, .int .i64 t.n, .int .i64 t.p, sv t.s] TK))
          go_wp2_with fail
          go_step3
          exact ⟨rfl, a, _, _, _, _, _, _, _, _, _, _, _, _, _, _, _, _, _, _, _, _, _, _, _, _, _, _, _, _, _, _, _, _, _, _, _, _, _, _, _, _, _, _, _, _, _, _, _, rfl, hf.out.trans hfin.out, hb4.out⟩
        · have ht := ht hm
          have tm : ((m : Int) == 0) = false := ieqf (by omega)
          by_cases hfull : out.length = 150
          · have hfin := hid (hbad.out (Or.inr hfull))
            have tf : ((out.length : Int) == 150) = true := by rw [hfull]; rfl
            have hb4 := hid (hb3.out.alloc hb3.out.size (.cells #[.int .i64 t.k, .int .i64 t.n, .int .i64 t.p, sv t.s] TK))
            clear ht
            go_wp2_with fail
            go_step3
            exact ⟨rfl, a, _, _, _, _, _, _, _, _, _, _, _, _, _, _, _, _, _, _, _, _, _, _, _, _, _, _, _, _, _, _, _, _, _, _, _, _, _, _, _, _, _, _, _, _, _, _, _, rfl, hf.out.trans hfin.out, hb4.out⟩
          · have tf : ((out.length : Int) == 150) = false := ieqf (by omega)
            have hnx := hid (htok.out hm hfull)
            rw [← ht] at hnx
            have hb4 := hid (hb3.out.alloc hb3.out.size (.cells #[.int .i64 t.k, .int .i64 t.n, .int .i64 a, sv t.s] TK))
            have hrow3 := hid (row_below hrow2.out ((Below.refl _ _).alloc (Nat.le_refl w2.heap.size) (.cells #[.int .i64 t.k, .int .i64 t.n, .int .i64 a, sv t.s] TK)))
            have h15 : out.length + 1 ≤ 150 := by omega
            have hq : out.length < 1000000 := by omega
            clear hfull hbad htok ht
            go_wp2_with (at_builtin; refine app_tok hrow3.out hb4.out.size ⟨t.k, t.n, a, t.s⟩ hq rfl _ _ rfl rfl _ (size_alloc' _ _).symm rfl ?_; intro v5 w5 hr5 hg5; obtain ⟨A5, c5, rfl⟩ := row_form hr5; have hb5 := hid (below_row hb4.out hrow3.out hg5 hb4.out.size); replace hr5 := hid hr5; clear hg5)
            exact ⟨⟨a + m, out ++ [⟨t.k, t.n, a, t.s⟩], A5, c5, by omega, by go_num, by simp, by simpa using hr5.out, hnx.out, by simpa using h15, hb5.out⟩, by simp [Go.RowKit.intOf]; omega⟩
    · obtain rfl : a = S.length := by omega
      have t2 : ((S.length : Int) == (S.length : Int)) = true := beq_self_eq_true _
      have hfin := hid (hlay.out.end_)
      have hsz := hb.out.size
      go_wp2_with fail
      go_ret2
      exact ⟨_, by rw [hf.out, hfin.out]; rfl, by rw [hf.out, hfin.out]; exact OwnT.of_row hrow.out, hb.out⟩
theorem itokz_own {S : List UInt8} (w : World) (hS : S.length ≤ 9223372036854775807) : Calls Tryd.prog 7 #[.string ⟨S.toArray⟩] w (TokOk S w) := itokz S hS w
end Go.Proofs.YtgjdccibdgedbaaDoor.Tk
