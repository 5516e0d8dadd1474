/- The model's Tokenize. -/
import Derived.Test.YtgjdccibdgedbaaDoorC5t
import Derived.Test.YtgjdccibdgedbaaDoorTa
set_option maxRecDepth 100000
namespace Go.Proofs.YtgjdccibdgedbaaDoor.Tk
open Go.RowKit Go.Lib Go.Proofs.YtgjdccibdgedbaaDoor.Num Go.Proofs.YtgjdccibdgedbaaDoor.Com Go.Proofs.YtgjdccibdgedbaaDoor.Mem Go.Proofs.YtgjdccibdgedbaaDoor.Ch Go.Proofs.YtgjdccibdgedbaaDoor.Os

theorem snext (S : List UInt8) (a : Nat) (h : a < S.length) (hl : S.length ≤ 400) (w : World) : Calls Tryd.prog 22 #[.string ⟨S.toArray⟩, .int .i64 a] w (NextOk S a h w) := by
  cases hb : isLow (bt S a h) with
  | true => exact snext_word S a h hl hb w
  | false =>
    cases hd : isDig (bt S a h) with
    | true => exact snext_num S a h hl hb hd w
    | false => exact snext_sym S a h hl hb hd w
set_option maxHeartbeats 4000000 in
theorem stokz (S : List UInt8) (hS : S.length ≤ 9223372036854775807) (w : World) : Calls Tryd.prog 8 #[.string ⟨S.toArray⟩] w (TokOk S w) := by
  have hnil := hid (fun (w1 : World) => (OwnT.of_row (row_lit0 w1)))
  by_cases hbig : 400 < S.length
  · have t1 : decide (400 < (S.length : Int)) = true := decide_eq_true (by omega)
    have hf := hid (tokz_big hbig)
    go_enter Tryd.func8, Tryd.ntmps8
    go_wp2_with fail
    go_ret2
    exact ⟨_, by rw [hf.out]; rfl, by rw [hf.out]; exact hnil.out w, (Below.refl _ _).alloc (Nat.le_refl _) _⟩
  have t1 : decide (400 < (S.length : Int)) = false := decide_eq_false (by omega)
  have hl : S.length ≤ 400 := by omega
  have hf := hid (tokz_small hl)
  have hst := hid (show Lay S 0 [] by unfold Lay; rw [List.drop_zero])
  have hr0 := hid (row_lit0 w)
  go_enter Tryd.func8, Tryd.ntmps8
  go_wp2_with fail
  go_loopw [4, 5] (fun o i wr => ∃ (a : Nat) (out : List Tok) (A : Option Addr) (c : Nat), a ≤ S.length ∧ i = .int .i64 a ∧ o = .slice A out.length c ∧ RowT wr w.heap.size (.slice A out.length c) out ∧ Lay S a out ∧ out.length ≤ 150 ∧ Below w.heap.size w wr) (fun _ i _ => S.length - (Go.RowKit.intOf i).toNat)
  case atStart => exact ⟨0, [], _, _, Nat.zero_le _, rfl, rfl, hr0.out, hst.out, by simp, (Below.refl _ _).alloc (Nat.le_refl _) _⟩
  case round =>
    obtain ⟨a, out, A, c, ha, rfl, rfl, hrow, hlay, h150, hb⟩ := hrel
    have hrow := hid hrow
    have hlay := hid hlay
    have hb := hid hb
    by_cases hlt : a < S.length
    · have t2 : decide ((a : Int) < (S.length : Int)) = true := decide_eq_true (by omega)
      cases hs : isSep (bt S a hlt) with
      | true =>
        have hnx := hid (hlay.out.sep hlt hs)
        by_cases h32 : (bt S a hlt).toNat = 32
        · have hz' : (((bt S a hlt).toNat : Nat) : Int) = _ := congrArg Int.ofNat h32
          clear hs h32
          go_wp2_with fail
          exact ⟨⟨a + 1, out, A, c, hlt, by go_num, rfl, hrow.out, hnx.out, h150, hb.out⟩, by simp [Go.RowKit.intOf]; omega⟩
        · have hz' : (((bt S a hlt).toNat : Nat) : Int) = _ := congrArg Int.ofNat (show (bt S a hlt).toNat = 10 by simp only [isSep, Bool.or_eq_true, decide_eq_true_eq] at hs; omega)
          clear hs h32
          go_wp2_with fail
          exact ⟨⟨a + 1, out, A, c, hlt, by go_num, rfl, hrow.out, hnx.out, h150, hb.out⟩, by simp [Go.RowKit.intOf]; omega⟩
      | false =>
        obtain ⟨n1, n2⟩ := sep_32 hs
        have hcl := hid (snext S a hlt hl wr)
        have hle := tokL_le (bt S a hlt) (S.drop (a + 1))
        rw [List.length_drop] at hle
        have hbad := hid (fun h2 => hlay.out.bad hlt hs h2)
        have htok := hid (fun h2 h3 => hlay.out.tok hlt hs h2 h3)
        unfold NextOk at hcl
        generalize tokL (bt S a hlt) (S.drop (a + 1)) = m at *
        generalize tokV (bt S a hlt) (S.drop (a + 1)) a = tk at *
        clear hs
        go_wp2_with fail
        refine hcl.out.mono ?_
        rintro e w2 ⟨t, rfl, ht, hb2⟩
        have hrow2 := hid (row_below hrow.out hb2)
        have hb3 := hid (hb.out.trans (hb2.mono hb.out.size))
        clear hb2
        by_cases hm : m = 0
        · subst hm
          have hfin := hid (hbad.out (Or.inl rfl))
          go_wp2_with fail
          go_ret2
          exact ⟨_, by rw [hf.out, hfin.out]; rfl, by
            rw [hf.out, hfin.out]
            have := hnil.out (w2.alloc (.cells #[.int .i64 t.k, .int .i64 t.n, .int .i64 t.p, sv t.s] TK))
            rw [size_alloc'] at this
            exact this.mono (by have := hb3.out.size; omega) (Nat.le_refl _), (hb3.out.alloc hb3.out.size _).alloc (by have := hb3.out.size; rw [size_alloc']; omega) _⟩
        · obtain rfl := ht hm
          have tm : ((m : Int) == 0) = false := beq_eq_false_iff_ne.2 (by omega)
          clear ht
          by_cases hfull : out.length = 150
          · have hfin := hid (hbad.out (Or.inr hfull))
            have tf : ((out.length : Int) == 150) = true := by rw [hfull]; rfl
            go_wp2_with fail
            go_ret2
            exact ⟨_, by rw [hf.out, hfin.out]; rfl, by
              rw [hf.out, hfin.out]
              have := hnil.out (w2.alloc (.cells #[.int .i64 t.k, .int .i64 t.n, .int .i64 t.p, sv t.s] TK))
              rw [size_alloc'] at this
              exact this.mono (by have := hb3.out.size; omega) (Nat.le_refl _), (hb3.out.alloc hb3.out.size _).alloc (by have := hb3.out.size; rw [size_alloc']; omega) _⟩
          · have tf : ((out.length : Int) == 150) = false := beq_eq_false_iff_ne.2 (by omega)
            have hnx := hid (htok.out hm hfull)
            have hb4 := hid (hb3.out.alloc hb3.out.size (.cells #[.int .i64 t.k, .int .i64 t.n, .int .i64 t.p, sv t.s] TK))
            have hrow3 := hid (row_below hrow2.out ((Below.refl _ _).alloc (Nat.le_refl w2.heap.size) (.cells #[.int .i64 t.k, .int .i64 t.n, .int .i64 t.p, sv t.s] TK)))
            have hq : out.length < 1000000 := by omega
            have h15 : out.length + 1 ≤ 150 := by omega
            clear hfull hbad htok
            go_wp2_with (at_builtin; refine app_tok hrow3.out hb4.out.size t hq rfl _ _ rfl rfl _ (size_alloc' _ _).symm rfl ?_; intro v5 w5 hr5 hg5; obtain ⟨A5, c5, rfl⟩ := row_form hr5; have hb5 := hid (below_row hb4.out hrow3.out hg5 hb4.out.size); replace hr5 := hid hr5; clear hg5)
            exact ⟨⟨a + m, out ++ [t], A5, c5, by omega, by go_num, by simp, by simpa using hr5.out, hnx.out, by simpa using h15, hb5.out⟩, by simp [Go.RowKit.intOf]; omega⟩
    · obtain rfl : a = S.length := by omega
      have t2 : decide ((S.length : Int) < (S.length : Int)) = false := decide_eq_false (by omega)
      have hfin := hid (hlay.out.end_)
      have hsz := hb.out.size
      go_wp2_with fail
      go_ret2
      exact ⟨_, by rw [hf.out, hfin.out]; rfl, by rw [hf.out, hfin.out]; exact OwnT.of_row hrow.out, hb.out⟩
theorem stokz_own {S : List UInt8} (w : World) (hS : S.length ≤ 9223372036854775807) : Calls Tryd.prog 8 #[.string ⟨S.toArray⟩] w (TokOk S w) := stokz S hS w
end Go.Proofs.YtgjdccibdgedbaaDoor.Tk
