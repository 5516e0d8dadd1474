/- FnStates: all states are listed once, in lexicographic order: the walk. -/
import Derived.Test.YtjopcajecnnchaaC3h
import Derived.Test.YtjopcajecnnchaaDr3
import Derived.Test.YtjopcajecnnchaaBig
namespace Go.Proofs.Ytjopcajecnnchaa.FnStates
open Go.RowKit Go.Lib Go.Proofs.Ytjopcajecnnchaa.Com Go.Proofs.Ytjopcajecnnchaa.Mem Go.Proofs.Ytjopcajecnnchaa.Os Go.Proofs.Ytjopcajecnnchaa.C3

/-- the number that the first m words write in base 4 -/
def val (l : List Int) : Nat → Int
  | 0 => 0
  | m + 1 => val l m * 4 + l.getD m 0
def Okay (l : List Int) (n k : Nat) : Prop := l.length = n ∧ val l n = (k : Int) ∧ (∀ m, m < n + 1 → 0 ≤ val l m ∧ val l m ≤ 100)
instance (l : List Int) (n k : Nat) : Decidable (Okay l n k) := by unfold Okay; infer_instance
theorem states_ok {n : Int} (k : Nat) (hk : k < (statesL n).length) : 0 ≤ n ∧ n ≤ 2 ∧ Okay (fF (statesL n) k) n.toNat k := by
  by_cases h : 0 ≤ n ∧ n ≤ 2
  · refine ⟨h.1, h.2, ?_⟩
    have : n = 0 ∨ n = 1 ∨ n = 2 := by omega
    rcases this with rfl | rfl | rfl
    · exact (show ∀ k, k < (statesL 0).length → Okay (fF (statesL 0) k) (0 : Int).toNat k by decide) k hk
    · exact (show ∀ k, k < (statesL 1).length → Okay (fF (statesL 1) k) (1 : Int).toNat k by decide) k hk
    · exact (show ∀ k, k < (statesL 2).length → Okay (fF (statesL 2) k) (2 : Int).toNat k by decide) k hk
  · rw [states_not (by omega)] at hk
    simp at hk
theorem states_len (n : Int) : (statesL n).length ≤ 16 := by unfold statesL; repeat' split
                                                             all_goals decide

set_option maxRecDepth 100000 in
set_option maxHeartbeats 4000000 in
theorem walk (w : World) (A : Option Addr) (k : Nat) (xs : List UInt8) (hr : Rd w w.heap.size A (xs.map bv)) (_ : xs.length ≤ 9223372036854775807) :
    Calls Try.prog 4 #[.slice A xs.length k] w fun e w' => e = .returned (.bool true) ∧ Below w.heap.size w w' := by
  have hbig := hid (Big.big_any A xs.length k w)
  by_cases hb : 1048576 < xs.length
  · rw [decide_eq_true (show 1048576 < (xs.length : Int) by omega)] at hbig
    go_enter Try.func4, Try.ntmps4
    go_wp2_with fail
    refine hbig.out.mono ?_
    rintro e w1 ⟨rfl, rfl⟩
    go_wp2_with fail
    go_ret
    exact ⟨rfl, Below.refl _ _⟩
  rw [decide_eq_false (show ¬ 1048576 < (xs.length : Int) by omega)] at hbig
  have hd1 := hid (Dr.drawAllStates A k xs w hr (by omega))
  clear hb hr
  go_enter Try.func4, Try.ntmps4
  go_wp2_with fail
  refine hbig.out.mono ?_
  rintro e w1 ⟨rfl, rfl⟩
  go_wp2_with fail
  refine hd1.out.mono ?_
  rintro e w1 ⟨⟨n, hn1, hn2, rfl⟩, hb1⟩
  have hb1 := hid hb1
  have hok := hid (fun (k : Nat) (hk : k < (statesL n).length) => states_ok (n := n) k hk)
  have h16 := states_len n
  have h2 : n = 2 → (statesL n).length = 16 := fun e => by subst e; rfl
  have h2 := hid h2
  go_wp2_with fail
  refine (states_own w1).mono ?_
  rintro e w2 ⟨v, rfl, ho, hb⟩
  have hb2 := hid (hb1.out.trans (hb.mono hb1.out.size))
  clear hb
  obtain ⟨vs, hvl, hown, hin⟩ := ho
  obtain ⟨A1, c1, hv, hrd, hrest⟩ := hown.read
  rw [hvl] at hv
  subst hv
  clear hrest hown
  have hsp := hid (sstates_own (n := n) w2)
  generalize hN : (statesL n).length = N at *
  generalize fF (statesL n) = f at *
  have hsp2 : Calls Try.prog 20 #[.int .i64 n] w2 fun e w' => ∃ A' c', e = .returned (.slice A' N c') ∧ Below w2.heap.size w2 w' := hsp.out.mono (by
    rintro e w' ⟨v, rfl, ⟨vs', hvl', hown', _⟩, hb'⟩
    obtain ⟨A', c', hv', _⟩ := hown'.read
    rw [hvl', hN] at hv'
    exact ⟨A', c', by rw [hv'], hb'⟩)
  have hsp2 := hid hsp2
  have hcmp : ((N : Int) != (N : Int)) = false := bne_self_eq_false _
  clear hsp hN
  have hin := hid hin
  have hrd := hid hrd
  go_wp2_with fail
  refine hsp2.out.mono ?_
  rintro e w3 ⟨A', c', rfl, hb'⟩
  have hb3 := hid (hb2.out.trans (hb'.mono hb2.out.size))
  have hrd3 := hid (hrd.out.below hb')
  have hin3 := hid (fun i u hu => below_same (hin.out.at_ i u hu) hb')
  clear hb' hrd hin hsp2 hd1 hbig
  go_wp2_with fail
  go_loop [5] (fun i => ∃ j : Nat, j ≤ N ∧ i = .int .i64 j) (fun i => N - (Go.RowKit.intOf i).toNat)
  case atStart => exact ⟨0, Nat.zero_le _, rfl⟩
  case round =>
    obtain ⟨j, hj, rfl⟩ := hrel
    by_cases hlt : j < N
    · obtain ⟨ad, u, rfl, _, hu, hc1⟩ := rd_val hrd3.out (k := j) (by omega)
      obtain ⟨Au, cu, hus, hru, hrest⟩ := (hin3.out j u hu).read_
      clear hrest
      subst hus
      obtain ⟨hn0, hn2', hlen, hval, hbd⟩ := hok.out j hlt
      obtain ⟨m0, rfl⟩ : ∃ m0 : Nat, n = (m0 : Int) := ⟨n.toNat, by omega⟩
      rw [Int.toNat_natCast] at hlen hval hbd
      rw [hlen] at hc1
      have hlen := hid hlen
      have hval := hid hval
      have hbd := hid hbd
      have hru := hid hru
      have hc0 : ((m0 : Int) != (m0 : Int)) = false := bne_self_eq_false _
      clear hu
      go_wp2_with fail
      go_loop [6, 7] (fun a i => ∃ m : Nat, m ≤ m0 ∧ i = .int .i64 m ∧ a = .int .i64 (val (f j) m)) (fun _ i => m0 - (Go.RowKit.intOf i).toNat)
      case atStart => exact ⟨0, Nat.zero_le _, rfl, rfl⟩
      case round =>
        obtain ⟨m, hm, rfl, rfl⟩ := hrel
        by_cases hlt2 : m < m0
        · obtain ⟨ad2, rfl, _, hc2⟩ := rd_int hru.out (k := m) (by rw [hlen.out]; exact hlt2)
          have e1 : (f j)[m]'(by rw [hlen.out]; exact hlt2) = (f j).getD m 0 := by
            rw [List.getD_eq_getElem?_getD, List.getElem?_eq_getElem (by rw [hlen.out]; exact hlt2)]; rfl
          rw [e1] at hc2
          have hv1 := hbd.out m (by omega)
          have hv2 := hbd.out (m + 1) (by omega)
          have hv3 : val (f j) (m + 1) = val (f j) m * 4 + (f j).getD m 0 := rfl
          rw [hv3] at hv2
          have hv3 := hid hv3
          clear e1
          generalize (f j).getD m 0 = z at *
          generalize val (f j) m = y at *
          go_wp2_with fail
          go_round
          case rel => exact ⟨m + 1, hlt2, by go_num, by rw [hv3.out]⟩
          case measure => simp [Go.RowKit.intOf]; omega
        · obtain rfl : m = m0 := by omega
          rw [hval.out]
          have hcj : ((j : Int) != (j : Int)) = false := bne_self_eq_false _
          go_wp2_with fail
          go_round
          case rel => exact ⟨j + 1, hlt, by go_num⟩
          case measure => simp [Go.RowKit.intOf]; omega
    · obtain rfl : j = N := by omega
      by_cases hn : n = 2
      · have := h2.out hn
        subst hn
        subst this
        go_wp2_with fail
        go_ret
        exact ⟨rfl, hb3.out⟩
      · have t1 : (n != 2) = true := by simpa using hn
        go_wp2_with fail
        go_ret
        exact ⟨rfl, hb3.out⟩
end Go.Proofs.Ytjopcajecnnchaa.FnStates
