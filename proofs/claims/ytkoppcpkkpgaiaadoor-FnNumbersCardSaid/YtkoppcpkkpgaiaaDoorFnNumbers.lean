/- FnNumbers: integers and numbers are parsed from their decimal representation, and parsed texts are that representation: the walk. -/
import Derived.Test.YtkoppcpkkpgaiaaDoorDr1
import Derived.Test.YtkoppcpkkpgaiaaDoorC1c
import Derived.Test.YtkoppcpkkpgaiaaDoorC1d
import Derived.Test.YtkoppcpkkpgaiaaDoorL1b
import Derived.Test.YtkoppcpkkpgaiaaDoorSn
import Derived.Test.YtkoppcpkkpgaiaaDoorBig
namespace Go.Proofs.YtkoppcpkkpgaiaaDoor.FnNumbers
open Go.RowKit Go.Lib Go.Proofs.YtkoppcpkkpgaiaaDoor.Num Go.Proofs.YtkoppcpkkpgaiaaDoor.Com Go.Proofs.YtkoppcpkkpgaiaaDoor.Mem Go.Proofs.YtkoppcpkkpgaiaaDoor.C1 Go.Proofs.YtkoppcpkkpgaiaaDoor.Sn Go.Proofs.YtkoppcpkkpgaiaaDoor.L1b

/-- what is parsed of an integer's text -/
theorem intOf_itoa (n : Int) : (Num.intOf (itoa n) 12 = some n ∧ ((itoa n).length ≤ 12 ∨ n < 0 ∧ (itoa n).length ≤ 13)) ∨ (Num.intOf (itoa n) 12 = none ∧ ¬ ((itoa n).length ≤ 12 ∨ n < 0 ∧ (itoa n).length ≤ 13)) := by
  by_cases h0 : n < 0
  · have e : itoa n = 45 :: decDigits n.natAbs := by unfold itoa; rw [if_pos h0]
    rw [e, C1s.intOf_minus]
    have hp := plain_decDigits n.natAbs
    have hne : decDigits n.natAbs ≠ [48] := fun e2 => by have := congrArg rd e2; rw [rd_decDigits] at this; have e3 : rd [48] = 0 := rfl; omega
    rw [rd_decDigits]
    by_cases hl : (decDigits n.natAbs).length ≤ 12
    · refine Or.inl ⟨by rw [if_pos ⟨hp, hl, hne⟩]; congr 1; omega, Or.inr ⟨h0, by simp; omega⟩⟩
    · refine Or.inr ⟨by rw [if_neg (fun h => hl h.2.1)], fun h => ?_⟩
      simp at h; omega
  · have e : itoa n = decDigits n.toNat := by unfold itoa; rw [if_neg h0]
    have hp := plain_decDigits n.toNat
    have hh : (decDigits n.toNat).head? ≠ some 45 := fun e2 => by
      cases hd : decDigits n.toNat with
      | nil => exact decDigits_ne _ hd
      | cons x t => rw [hd] at e2 hp; simp at e2; subst e2; simp [plain, isDig] at hp
    rw [e, C1s.intOf_plain hh]
    unfold numOf
    rw [rd_decDigits]
    by_cases hl : (decDigits n.toNat).length ≤ 12
    · refine Or.inl ⟨by rw [if_pos ⟨hp, hl⟩]; show some ((n.toNat : Nat) : Int) = some n; congr 1; omega, Or.inl hl⟩
    · refine Or.inr ⟨by rw [if_neg (fun h => hl h.2)]; rfl, fun h => ?_⟩
      omega

set_option maxRecDepth 100000 in
set_option maxHeartbeats 2000000 in
theorem walk (w : World) (hp : Pow w) (A : Option Addr) (c : Nat) (xs : List UInt8) (hr : Rd w w.heap.size A (xs.map bv)) (_ : xs.length ≤ 9223372036854775807) :
    Calls Tryd.prog 3 #[.slice A xs.length c] w fun e w' => e = .returned (.bool true) ∧ Below w.heap.size w w' := by
  have hbig := hid (Big.big_any A xs.length c w)
  by_cases hb : 1048576 < xs.length
  · rw [decide_eq_true (show 1048576 < (xs.length : Int) by omega)] at hbig
    go_enter Tryd.func3, Tryd.ntmps3
    go_wp2_with fail
    refine hbig.out.mono ?_
    rintro e w1 ⟨rfl, rfl⟩
    go_wp2_with fail
    go_ret
    exact ⟨rfl, Below.refl _ _⟩
  rw [decide_eq_false (show ¬ 1048576 < (xs.length : Int) by omega)] at hbig
  have hd1 := hid (Dr.drawFormatInt A c xs w hr (by omega))
  have hd2 := hid (fun (w1 : World) (h : Below w.heap.size w w1) => Dr.drawParseNumber A c xs w1 ((hr.below h).more h.size) (by omega))
  have hp2 := hid (fun (w1 : World) (h : Below w.heap.size w w1) => hp.below h)
  clear hp hb hr
  go_enter Tryd.func3, Tryd.ntmps3
  go_wp2_with fail
  refine hbig.out.mono ?_
  rintro e w1 ⟨rfl, rfl⟩
  go_wp2_with fail
  refine hd1.out.mono ?_
  rintro e w1 ⟨⟨n, hn1, hn2, rfl⟩, hb1⟩
  go_wp2_with fail
  refine (implFormat n hn1 hn2 w1 (hp2.out _ hb1)).mono ?_
  rintro e w2 ⟨rfl, hb2⟩
  have hb12 := hb1.trans (hb2.mono hb1.size)
  have hsz := itoa_size n hn1 hn2
  have hII := hid (intOf_itoa n)
  go_wp2_with fail
  have hcut : ∃ (ok : Bool) (x : Int), (ok = decide ((itoa n).length ≤ 12 ∨ n < 0 ∧ (itoa n).length ≤ 13)) ∧ (ok = true → x = n) ∧ Calls Tryd.prog 7 #[sv (itoa n)] w2 fun e w' => e = .returned (.tuple #[.int .i64 x, .bool ok]) ∧ w2 = w' := by
    rcases hII.out with ⟨h1, h2⟩ | ⟨h1, h2⟩
    · exact ⟨true, n, (decide_eq_true h2).symm, fun _ => rfl, parseInt_some w2 h1 (by omega)⟩
    · exact ⟨false, 0, (decide_eq_false h2).symm, (fun h => by cases h), parseInt_none w2 h1 (by omega)⟩
  obtain ⟨ok, x, hok, hx, hpi⟩ := hcut
  refine hpi.mono ?_
  rintro e w' ⟨rfl, rfl⟩
  have hfm := hid (C1.fmt_any n hn1 hn2 w2)
  have hself : (itoa n == itoa n) = true := beq_self_eq_true _
  have hpt := hid hp2
  -- the second half, from the world behind the first on
  have second : ∀ w3, Below w.heap.size w w3 → Calls Tryd.prog 9 #[.slice A xs.length c] w3 fun e w' => (∃ s : List UInt8, s.length ≤ 21 ∧ e = .returned (sv s)) ∧ Below w3.heap.size w3 w' := fun w3 h => hd2.out w3 h
  have second := hid second
  have hlen13 : (ok = true ∧ ((itoa n).length ≤ 12 ∨ (¬ (itoa n).length ≤ 12 ∧ n < 0 ∧ (itoa n).length ≤ 13))) ∨ (ok = false ∧ ¬ (itoa n).length ≤ 12 ∧ (¬ n < 0 ∨ (n < 0 ∧ ¬ (itoa n).length ≤ 13))) := by
    cases ok
    · refine Or.inr ⟨rfl, ?_⟩
      have := of_decide_eq_false hok.symm
      omega
    · refine Or.inl ⟨rfl, ?_⟩
      have := of_decide_eq_true hok.symm
      omega
  clear hok hII hd1 hd2 hbig
  have key : ∀ (Q : Prop), (∀ (b1 b2 b3 : Bool), decide (((itoa n).length : Int) ≤ 12) = b1 → decide (n < 0) = b2 → decide (((itoa n).length : Int) ≤ 13) = b3 → ok = (b1 || (b2 && b3)) → Q) → Q := by
    intro Q h
    refine h _ _ _ rfl rfl rfl ?_
    rcases hlen13 with ⟨rfl, h | ⟨h1, h2, h3⟩⟩ | ⟨rfl, h1, h2 | ⟨h2, h3⟩⟩
    · rw [decide_eq_true (show ((itoa n).length : Int) ≤ 12 by omega)]; rfl
    · rw [decide_eq_true h2, decide_eq_true (show ((itoa n).length : Int) ≤ 13 by omega)]; simp
    · rw [decide_eq_false (show ¬ ((itoa n).length : Int) ≤ 12 by omega), decide_eq_false h2]; rfl
    · rw [decide_eq_false (show ¬ ((itoa n).length : Int) ≤ 12 by omega), decide_eq_false (show ¬ ((itoa n).length : Int) ≤ 13 by omega)]; simp
  refine key _ fun b1 b2 b3 e1 e2 e3 e4 => ?_
  clear key hlen13
  subst e4
  cases b1 <;> cases b2 <;> cases b3
  all_goals
    simp at hx
    (first | subst hx | skip)
    go_wp2_with fail
    refine hfm.out.mono ?_
    rintro e w' ⟨rfl, hb3⟩
    have hb13 := hb12.trans (hb3.mono hb12.size)
    go_wp2_with fail
    refine (second.out _ hb13).mono ?_
    rintro e w5 ⟨⟨t, ht, rfl⟩, hb5⟩
    have hb15 := hb13.trans (hb5.mono hb13.size)
    go_wp2_with fail
    cases hn : numOf t 6 with
    | none =>
      have k1 := hid (parseNumber_none w5 hn (by omega))
      have k2 := hid (specNumber_none hn w5 (by omega))
      clear hn
      refine k1.out.mono ?_
      rintro e w' ⟨rfl, rfl⟩
      go_wp2_with fail
      refine k2.out.mono ?_
      rintro e w6 ⟨rfl, hb6⟩
      go_wp2_with fail
      go_ret
      exact ⟨rfl, hb15.trans (hb6.mono hb15.size)⟩
    | some k =>
      have k1 := hid (parseNumber_some w5 hn (by omega))
      have k2 := hid (specNumber_some hn w5 (by omega))
      have hkb := num_lt hn (by decide)
      have hkt : (itoa (k : Int) == t) = true := by
        rw [beq_iff_eq]
        unfold numOf at hn
        split at hn
        · rename_i hc; rw [← Option.some.inj hn]; exact itoa_plain hc.1
        · cases hn
      have hk3 := hid (fun w6 (h : Below w.heap.size w w6) => implFormat (k : Int) (by omega) (by omega) w6 (hpt.out.out _ h))
      clear hn
      refine k1.out.mono ?_
      rintro e w' ⟨rfl, rfl⟩
      go_wp2_with fail
      refine k2.out.mono ?_
      rintro e w6 ⟨rfl, hb6⟩
      have hb16 := hb15.trans (hb6.mono hb15.size)
      go_wp2_with fail
      refine (hk3.out _ hb16).mono ?_
      rintro e w7 ⟨rfl, hb7⟩
      go_wp2_with fail
      go_ret
      exact ⟨rfl, hb16.trans (hb7.mono hb16.size)⟩
end Go.Proofs.YtkoppcpkkpgaiaaDoor.FnNumbers
