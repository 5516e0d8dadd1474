/- The model's l8Left: at most so many statements. -/
import Derived.Test.YteioojdgipodjaaGreatZS8a
set_option maxRecDepth 100000
namespace Go.Proofs.YteioojdgipodjaaGreat.Gd
open Go.RowKit Go.Lib Go.Sort Go.Proofs.YteioojdgipodjaaGreat.Com Go.Proofs.YteioojdgipodjaaGreat.Mem Go.Proofs.YteioojdgipodjaaGreat.Os Go.Proofs.YteioojdgipodjaaGreat.Tr

theorem szAns_low (t : Nat) {l : Int} (_ : -1 ≤ l) (h2 : l ≤ 2000000) : -1 ≤ szAns t l ∧ szAns t l ≤ 2000000 := by
  unfold szAns
  split <;> omega
theorem szAns_two (a b : Nat) {l : Int} (_ : 0 ≤ l) : szAns b (szAns a (l - 1)) = szAns (1 + a + b) l := by
  unfold szAns
  by_cases h1 : (a : Int) ≤ l - 1
  · rw [if_pos h1]
    by_cases h2 : (b : Int) ≤ l - 1 - a
    · rw [if_pos h2, if_pos (by omega)]; omega
    · rw [if_neg h2, if_neg (by omega)]
  · rw [if_neg h1, if_neg (by omega), if_neg (by omega)]
theorem szAns_add (a b : Nat) {l : Int} (h : 0 ≤ szAns a l) : szAns b (szAns a l) = szAns (a + b) l := by
  unfold szAns at *
  by_cases h1 : (a : Int) ≤ l
  · rw [if_pos h1]
    by_cases h2 : (b : Int) ≤ l - a
    · rw [if_pos h2, if_pos (by omega)]; omega
    · rw [if_neg h2, if_neg (by omega)]
  · rw [if_neg h1] at h; omega
theorem szAns_neg {a b : Nat} {l : Int} (h : szAns a l < 0) (hab : a ≤ b) (_ : -1 ≤ l) : szAns a l = szAns b l := by
  unfold szAns at *
  by_cases h1 : (a : Int) ≤ l
  · rw [if_pos h1] at h; omega
  · rw [if_neg h1, if_neg (by omega)]
set_option maxHeartbeats 2000000 in
theorem sleftS : ∀ (N : Nat) (L : List St), cntL L = N → ∀ (A : Option Addr) (c : Nat) (rows : Nat → List Value) (left : Int) (w : World), Row w w.heap.size 1 A (dl L) rows → L.length ≤ maxI → -1 ≤ left → left ≤ 2000000 →
    Calls Tryz.prog 28 #[.slice A L.length c, .int .i64 left] w fun e w' => e = .returned (.int .i64 (szAns (cntL L) left)) ∧ Below w.heap.size w w' := by
  intro N
  induction N using Nat.strongRecOn with
  | ind N ih =>
    intro L hN A c rows left w hk hl h0 h1
    have hl63 : L.length ≤ 9223372036854775807 := hl
    have hst0 := hid (show left = szAns (cntL (L.take 0)) left ∨ left < 0 by
      unfold szAns; rw [List.take_zero, cntL]
      by_cases h : (((0 : Nat) : Int)) ≤ left
      · rw [if_pos h]; exact Or.inl (by omega)
      · exact Or.inr (by omega))
    generalize hL : L.length = n at *
    go_enter Tryz.func28, Tryz.ntmps28
    go_wp2_with fail
    go_loopw [1, 5] (fun a i wr => ∃ (m : Nat) (X : Int), m ≤ n ∧ i = .int .i64 m ∧ a = .int .i64 X ∧ (X = szAns (cntL (L.take m)) left ∨ (m = 0 ∧ X = left ∧ left < 0)) ∧ Below w.heap.size w wr) (fun _ i _ => n - (Go.RowKit.intOf i).toNat)
    case atStart =>
      refine ⟨0, left, Nat.zero_le _, rfl, rfl, ?_, Below.refl _ _⟩
      rcases hst0.out with h | h
      · exact Or.inl h
      · exact Or.inr ⟨rfl, rfl, h⟩
    case round =>
      obtain ⟨m, X, hm, rfl, rfl, hX, hb⟩ := hrel
      have hXb : -1 ≤ X ∧ X ≤ 2000000 := by
        rcases hX with h | ⟨_, h, _⟩
        · rw [h]; exact szAns_low _ h0 h1
        · omega
      by_cases hlt : m < n
      · have tm : decide (m < n) = true := decide_eq_true hlt
        by_cases hXn : X < 0
        · have tx : decide (0 ≤ X) = false := decide_eq_false (by omega)
          have hf := hid (show X = szAns (cntL L) left by
            rcases hX with h | ⟨_, h, h2⟩
            · rw [h] at hXn ⊢; exact szAns_neg hXn (cntL_le L m) h0
            · unfold szAns; rw [if_neg (by omega)]; omega)
          clear hX
          go_wp2_with fail
          go_ret
          exact ⟨by rw [← hf.out]; rfl, hb⟩
        · have tx : decide (0 ≤ X) = true := decide_eq_true (by omega)
          have hkr := hk.go hb
          obtain ⟨ad, k, s, e, bs, es, ek, en, en', A1, l1, c1, Bb, cb, C, cc, rb, rc, rfl, _, hT, hld, _, _, hrb, hlb, hrc, hlc⟩ := hkr.st (m := m) (by omega)
          have hst := cntL_take (L := L) (m := m) (by omega)
          rw [hT] at hst
          have hle := cntL_le L (m + 1)
          simp only [cntSt] at hst
          obtain ⟨k0, k1, k2, k3, k4, k5, k6, k7⟩ := ld8 hld
          have e1 : IntKind.i64.wrap (X - 1) = X - 1 := IntWalk.i64_in _ (by omega)
          have hz := szAns_low (cntL bs) (l := X - 1) (by omega) (by omega)
          have hnx := hid (show szAns (cntL es) (szAns (cntL bs) (X - 1)) = szAns (cntL (L.take (m + 1))) left by
            rcases hX with h | ⟨_, h, h2⟩
            · rw [szAns_two _ _ (by omega), hst, h, szAns_add _ _ (by omega)]
            · omega)
          have cB := hid (fun (d : Nat) (os : Array Obj) => Calls.regrown_of (d := d) (os := os) (ih (cntL bs) (by omega) bs rfl Bb cb rb (X - 1) (grow (redrawn wr d) os) (hrb.go (below_regrown wr d os)) hlb (by omega) (by omega)))
          have cC := hid (fun (d : Nat) (os : Array Obj) => Calls.regrown_of (d := d) (os := os) (ih (cntL es) (by omega) es rfl C cc rc (szAns (cntL bs) (X - 1)) (grow (redrawn wr d) os) (hrc.go (below_regrown wr d os)) hlc hz.1 hz.2))
          replace k6 := cell_regrown k6
          replace k7 := cell_regrown k7
          replace hb := hid hb
          clear hkr hrb hrc hld hT hst hle k0 k1 k2 k3 k4 k5 hX hXb hz hXn
          generalize szAns (cntL es) (szAns (cntL bs) (X - 1)) = z2 at *
          generalize szAns (cntL bs) (X - 1) = z1 at *
          go_wp2_with fail
          refine wp_region_quiet_below (by kernel_rfl) (by kernel_rfl) ?_
          repeat (go_big_quiet_step (first | with_reducible exact cB.out _ _ | with_reducible exact cC.out _ _))
          refine wpQuiet_nil ?_
          intro _ hw'
          obtain ⟨⟨dq, osq⟩, hw''⟩ := hw'
          subst hw''
          have hq := hid (hb.out.trans ((below_regrown wr dq osq).mono hb.out.size))
          clear k6 k7 cB cC hb
          generalize grow (redrawn wr dq) osq = wq at *
          go_wp2_with fail
          exact ⟨⟨m + 1, z2, hlt, by go_num, rfl, Or.inl hnx.out, hq.out⟩, by simp [Go.RowKit.intOf]; omega⟩
      · obtain rfl : m = n := by omega
        have hf := hid (show X = szAns (cntL L) left by
          rcases hX with h | ⟨hz, h, h2⟩
          · rw [List.take_of_length_le (by omega)] at h; exact h
          · unfold szAns; rw [if_neg (by omega)]; omega)
        clear hX
        go_wp2_with fail
        go_ret
        exact ⟨by rw [← hf.out]; rfl, hb⟩
end Go.Proofs.YteioojdgipodjaaGreat.Gd
