/- The model's CountStmts, BlockDepth, l8Left. -/
import Derived.Test.YtklcbagddijkgaaGreatZSt1
import Derived.Lib.QuietBelow
import Derived.BigQuiet
set_option maxRecDepth 100000
namespace Go.Proofs.YtklcbagddijkgaaGreat.Gd
open Go.RowKit Go.Lib Go.Sort Go.Proofs.YtklcbagddijkgaaGreat.Com Go.Proofs.YtklcbagddijkgaaGreat.Mem Go.Proofs.YtklcbagddijkgaaGreat.Os Go.Proofs.YtklcbagddijkgaaGreat.Tr

set_option maxHeartbeats 2000000 in
theorem scountS : ∀ (N : Nat) (L : List St), cntL L = N → N ≤ 2000000 → ∀ (A : Option Addr) (c : Nat) (rows : Nat → List Value) (w : World), Row w w.heap.size 1 A (dl L) rows →
    Calls Tryz.prog 10 #[.slice A L.length c] w fun e w' => e = .returned (.int .i64 (cntL L)) ∧ Below w.heap.size w w' := by
  intro N
  induction N using Nat.strongRecOn with
  | ind N ih =>
    intro L hN hN2 A c rows w hk
    have hll := len_cntL L
    have hl63 : L.length ≤ 9223372036854775807 := by omega
    generalize hL : L.length = n at *
    go_enter Tryz.func10, Tryz.ntmps10
    go_wp2_with fail
    go_loopw [3, 4] (fun a i wr => ∃ m : Nat, m ≤ n ∧ i = .int .i64 m ∧ a = .int .i64 ((cntL (L.take m) + (n - m) : Nat) : Int) ∧ Below w.heap.size w wr) (fun _ i _ => n - (Go.RowKit.intOf i).toNat)
    case atStart => exact ⟨0, Nat.zero_le _, rfl, by simp [cntL], Below.refl _ _⟩
    case round =>
      obtain ⟨m, hm, rfl, rfl, hb⟩ := hrel
      by_cases hlt : m < n
      · have hkr := hk.go hb
        obtain ⟨ad, k, s, e, bs, es, ek, en, en', A1, l1, c1, Bb, cb, C, cc, rb, rc, rfl, _, hT, hld, _, _, hrb, _, hrc, _⟩ := hkr.st (m := m) (by omega)
        have hst := cntL_take (L := L) (m := m) (by omega)
        rw [hT] at hst
        have hle := cntL_le L (m + 1)
        simp only [cntSt] at hst
        obtain ⟨k0, k1, k2, k3, k4, k5, k6, k7⟩ := ld8 hld
        have cB := hid (fun (d : Nat) (os : Array Obj) => Calls.regrown_of (d := d) (os := os) (ih (cntL bs) (by omega) bs rfl (by omega) Bb cb rb (grow (redrawn wr d) os) (hrb.go (below_regrown wr d os))))
        have cC := hid (fun (d : Nat) (os : Array Obj) => Calls.regrown_of (d := d) (os := os) (ih (cntL es) (by omega) es rfl (by omega) C cc rc (grow (redrawn wr d) os) (hrc.go (below_regrown wr d os))))
        have e1 : IntKind.i64.wrap (((cntL (L.take m) + (n - m) : Nat) : Int) + (cntL bs : Int)) = ((cntL (L.take m) + (n - m) : Nat) : Int) + (cntL bs : Int) := IntWalk.i64_in _ (by omega)
        have e2 : IntKind.i64.wrap (((cntL (L.take m) + (n - m) : Nat) : Int) + (cntL bs : Int) + (cntL es : Int)) = ((cntL (L.take m) + (n - m) : Nat) : Int) + (cntL bs : Int) + (cntL es : Int) := IntWalk.i64_in _ (by omega)
        have hend := hid (show ((cntL (L.take m) + (n - m) : Nat) : Int) + (cntL bs : Int) + (cntL es : Int) = ((cntL (L.take (m + 1)) + (n - (m + 1)) : Nat) : Int) by omega)
        replace k6 := cell_regrown k6
        replace k7 := cell_regrown k7
        have hb := hid hb
        clear hkr hrb hrc hld hT hst hle k0 k1 k2 k3 k4 k5
        generalize ((cntL (L.take m) + (n - m) : Nat) : Int) = X at *
        generalize (cntL bs : Int) = xb at *
        generalize (cntL es : Int) = xe at *
        go_wp2_with fail
        refine wp_region_quiet_below (by kernel_rfl) (by kernel_rfl) ?_
        repeat (go_big_quiet_step (first | with_reducible exact cB.out _ _ | with_reducible exact cC.out _ _))
        refine wpQuiet_nil ?_
        intro _ hw'
        obtain ⟨⟨dq, osq⟩, hw''⟩ := hw'
        subst hw''
        have hq := hid (hb.out.trans ((below_regrown wr dq osq).mono hb.out.size))
        clear k6 k7 cB cC hb
        generalize grow (redrawn wr dq) osq = wq at *
        go_wp2_with fail
        exact ⟨⟨m + 1, hlt, by go_num, by rw [hend.out], hq.out⟩, by simp [Go.RowKit.intOf]; omega⟩
      · obtain rfl : m = n := by omega
        have hf := hid (show ((cntL (L.take m) + (m - m) : Nat) : Int) = (cntL L : Int) by rw [List.take_of_length_le (by omega)]; omega)
        go_wp2_with fail
        go_ret
        exact ⟨by rw [← hf.out]; rfl, hb⟩
mutual
/-- how deep the bodies and elses of a statement lie -/
def depSt : St → Nat
  | .mk _ _ _ bs es => Nat.max (if bs.isEmpty = true then 0 else depL bs) (if es.isEmpty = true then 0 else depL es)
/-- BlockDepth -/
def depL : List St → Nat
  | [] => 1
  | a :: r => Nat.max (1 + depSt a) (depL r)
end
theorem depL_pos (L : List St) : 1 ≤ depL L := by
  induction L with
  | nil => simp [depL]
  | cons a r ih => simp only [depL]; exact Nat.le_trans ih (Nat.le_max_right _ _)
theorem depL_snoc (L : List St) (a : St) : depL (L ++ [a]) = Nat.max (depL L) (1 + depSt a) := by
  induction L with
  | nil =>
    simp only [List.nil_append, depL]
    exact Nat.max_comm _ _
  | cons b r ih =>
    simp only [List.cons_append, depL, ih]
    exact (Nat.max_assoc _ _ _).symm
theorem depL_take {L : List St} {m : Nat} (h : m < L.length) : depL (L.take (m + 1)) = Nat.max (depL (L.take m)) (1 + depSt L[m]) := by
  rw [List.take_succ_eq_append_getElem h, depL_snoc]
theorem dep_cnt : ∀ (N : Nat) (L : List St), cntL L = N → depL L ≤ 1 + cntL L := by
  intro N
  induction N using Nat.strongRecOn with
  | ind N ih =>
    intro L hN
    have hs : ∀ a ∈ L, depSt a ≤ cntSt a := fun a ha => by
      have hm := cntSt_mem ha
      obtain ⟨k, s, e, bs, es⟩ := a
      simp only [cntSt] at hm
      have h1 := ih (cntL bs) (by omega) bs rfl
      have h2 := ih (cntL es) (by omega) es rfl
      simp only [depSt, cntSt]
      refine Nat.max_le.2 ⟨?_, ?_⟩ <;> split <;> omega
    clear ih hN
    induction L with
    | nil => simp [depL]
    | cons a r ihr =>
      have h1 := hs a (by simp)
      have h2 := ihr fun b hb => hs b (by simp [hb])
      simp only [depL, cntL]
      refine Nat.max_le.2 ⟨by omega, by omega⟩
set_option maxHeartbeats 400000 in
theorem max_any (a b : Nat) (w : World) : Calls Tryz.prog 31 #[.int .i64 a, .int .i64 b] w fun e w' => e = .returned (.int .i64 (Nat.max a b : Nat)) ∧ w = w' := by
  by_cases h : b < a
  · have t1 : decide ((b : Int) < (a : Int)) = true := decide_eq_true (by omega)
    have hf := hid (show Nat.max a b = a from Nat.max_eq_left (by omega))
    go_enter Tryz.func31, Tryz.ntmps31
    go_wp2_with fail
    go_ret
    exact ⟨by rw [hf.out]; rfl, rfl⟩
  · have t1 : decide ((b : Int) < (a : Int)) = false := decide_eq_false (by omega)
    have hf := hid (show Nat.max a b = b from Nat.max_eq_right (by omega))
    go_enter Tryz.func31, Tryz.ntmps31
    go_wp2_with fail
    go_ret
    exact ⟨by rw [hf.out]; rfl, rfl⟩
theorem dep_next {X : Nat} {L : List St} {m : Nat} (h : m < L.length) {k : Int} {s : List UInt8} {e : T} {bs es : List St} (hT : L[m] = .mk k s e bs es) (hX : X = depL (L.take m) - 1) :
    Nat.max (Nat.max X (if bs.isEmpty = true then 0 else depL bs)) (if es.isEmpty = true then 0 else depL es) = depL (L.take (m + 1)) - 1 := by
  rw [depL_take h, hT]
  have h1 := depL_pos (L.take m)
  simp only [depSt]
  generalize (if bs.isEmpty = true then 0 else depL bs) = xb
  generalize (if es.isEmpty = true then 0 else depL es) = xe
  generalize depL (L.take m) = d at *
  subst hX
  show max (max (d - 1) xb) xe = max d (1 + max xb xe) - 1
  omega
theorem emp_len {L : List St} : L.isEmpty = decide (L.length = 0) := by cases L <;> rfl
set_option maxHeartbeats 4000000 in
theorem sdepS : ∀ (N : Nat) (L : List St), cntL L = N → N ≤ 2000000 → ∀ (A : Option Addr) (c : Nat) (rows : Nat → List Value) (w : World), Row w w.heap.size 1 A (dl L) rows →
    Calls Tryz.prog 12 #[.slice A L.length c] w fun e w' => e = .returned (.int .i64 (depL L)) ∧ Below w.heap.size w w' := by
  intro N
  induction N using Nat.strongRecOn with
  | ind N ih =>
    intro L hN hN2 A c rows w hk
    have hll := len_cntL L
    have hdc := dep_cnt N L hN
    have hl63 : L.length ≤ 9223372036854775807 := by omega
    generalize hL : L.length = n at *
    go_enter Tryz.func12, Tryz.ntmps12
    go_wp2_with fail
    go_loopw [3, 4] (fun a i wr => ∃ m X : Nat, m ≤ n ∧ i = .int .i64 m ∧ a = .int .i64 (X : Int) ∧ X = depL (L.take m) - 1 ∧ Below w.heap.size w wr) (fun _ i _ => n - (Go.RowKit.intOf i).toNat)
    case atStart => exact ⟨0, 0, Nat.zero_le _, rfl, rfl, by simp [depL], Below.refl _ _⟩
    case round =>
      obtain ⟨m, X, hm, rfl, rfl, hX, hb⟩ := hrel
      by_cases hlt : m < n
      · have hkr := hk.go hb
        obtain ⟨ad, k, s, e, bs, es, ek, en, en', A1, l1, c1, Bb, cb, C, cc, rb, rc, rfl, _, hT, hld, _, _, hrb, _, hrc, _⟩ := hkr.st (m := m) (by omega)
        have hst := cntL_take (L := L) (m := m) (by omega)
        have hnx := hid (dep_next (by omega) hT hX)
        rw [hT] at hst
        have hle := cntL_le L (m + 1)
        simp only [cntSt] at hst
        obtain ⟨k0, k1, k2, k3, k4, k5, k6, k7⟩ := ld8 hld
        have cB := hid (fun wx (hb : Below wr.heap.size wr wx) => ih (cntL bs) (by omega) bs rfl (by omega) Bb cb rb wx (hrb.go hb))
        have cC := hid (fun wx (hb : Below wr.heap.size wr wx) => ih (cntL es) (by omega) es rfl (by omega) C cc rc wx (hrc.go hb))
        have hldx := hid (fun wx (hb : Below wr.heap.size wr wx) => ld8 (hld.keep (w' := wx) fun p hp => hb.cell (by rw [hp, add_block]; assumption)))
        replace hb := hid hb
        replace hX := hid hX
        clear hkr hrb hrc hld hT hst hle k0 k1 k2 k3 k4 k5
        have hmx := hid (fun a b w => max_any a b w)
        rw [emp_len, emp_len] at hnx
        by_cases hbz : bs.length = 0
        · rw [if_pos (by simp [hbz]), show Nat.max X 0 = X from Nat.max_eq_left (Nat.zero_le _)] at hnx
          rw [hbz] at k6
          by_cases hez : es.length = 0
          · rw [if_pos (by simp [hez]), show Nat.max X 0 = X from Nat.max_eq_left (Nat.zero_le _)] at hnx
            rw [hez] at k7
            clear cB cC
            go_wp2_with fail
            exact ⟨⟨m + 1, X, hlt, by go_num, rfl, hnx.out, hb.out⟩, by simp [Go.RowKit.intOf]; omega⟩
          · rw [if_neg (by simp [hez])] at hnx
            have t2 : decide (0 < es.length) = true := decide_eq_true (by omega)
            clear cB hez
            go_wp2_with fail
            refine (cC.out wr (Below.refl _ _)).mono ?_
            rintro e2 w2 ⟨rfl, hb2⟩
            have hb2 := hid (hb.out.trans (hb2.mono hb.out.size))
            go_wp2_with fail
            refine (hmx.out _ _ w2).mono ?_
            rintro e3 w3 ⟨rfl, rfl⟩
            go_wp2_with fail
            exact ⟨⟨m + 1, Nat.max X (depL es), hlt, by go_num, rfl, hnx.out, hb2.out⟩, by simp [Go.RowKit.intOf]; omega⟩
        · rw [if_neg (by simp [hbz])] at hnx
          have t1 : decide (0 < bs.length) = true := decide_eq_true (by omega)
          clear hbz
          go_wp2_with fail
          refine (cB.out wr (Below.refl _ _)).mono ?_
          rintro e2 w2 ⟨rfl, hb2⟩
          obtain ⟨-, -, -, -, -, -, -, k7'⟩ := hldx.out w2 hb2
          have cC := hid (cC.out w2 hb2)
          have hb2 := hid (hb.out.trans (hb2.mono hb.out.size))
          clear k6 k7
          go_wp2_with fail
          refine (hmx.out _ _ w2).mono ?_
          rintro e3 w3 ⟨rfl, rfl⟩
          generalize Nat.max X (depL bs) = Y at *
          by_cases hez : es.length = 0
          · rw [if_pos (by simp [hez]), show Nat.max Y 0 = Y from Nat.max_eq_left (Nat.zero_le _)] at hnx
            rw [hez] at k7'
            clear cC
            go_wp2_with fail
            exact ⟨⟨m + 1, Y, hlt, by go_num, rfl, hnx.out, hb2.out⟩, by simp [Go.RowKit.intOf]; omega⟩
          · rw [if_neg (by simp [hez])] at hnx
            have t2 : decide (0 < es.length) = true := decide_eq_true (by omega)
            clear hez
            go_wp2_with fail
            refine cC.out.mono ?_
            rintro e4 w4 ⟨rfl, hb4⟩
            have hb4 := hid (hb2.out.trans (hb4.mono hb2.out.size))
            go_wp2_with fail
            refine (hmx.out _ _ w4).mono ?_
            rintro e5 w5 ⟨rfl, rfl⟩
            go_wp2_with fail
            exact ⟨⟨m + 1, Nat.max Y (depL es), hlt, by go_num, rfl, hnx.out, hb4.out⟩, by simp [Go.RowKit.intOf]; omega⟩
      · obtain rfl : m = n := by omega
        have hp := depL_pos L
        have hf := hid (show (X : Int) + 1 = (depL L : Int) by rw [List.take_of_length_le (by omega)] at hX; omega)
        have e1 : IntKind.i64.wrap ((X : Int) + 1) = (X : Int) + 1 := IntWalk.i64_in _ (by rw [List.take_of_length_le (by omega)] at hX; omega)
        clear hX
        go_wp2_with fail
        go_ret
        exact ⟨by rw [← hf.out]; rfl, hb⟩
end Go.Proofs.YtklcbagddijkgaaGreat.Gd

/- The model's l8Left: at most so many statements. -/
set_option maxRecDepth 100000
namespace Go.Proofs.YtklcbagddijkgaaGreat.Gd
open Go.RowKit Go.Lib Go.Sort Go.Proofs.YtklcbagddijkgaaGreat.Com Go.Proofs.YtklcbagddijkgaaGreat.Mem Go.Proofs.YtklcbagddijkgaaGreat.Os Go.Proofs.YtklcbagddijkgaaGreat.Tr

theorem szAns_low (t : Nat) {l : Int} (_ : -1 ≤ l) (h2 : l ≤ 2000000) : -1 ≤ szAns t l ∧ szAns t l ≤ 2000000 := by
  unfold szAns
  split <;> omega
theorem szAns_two (a b : Nat) {l : Int} (_ : 0 ≤ l) : szAns b (szAns a (l - 1)) = szAns (1 + a + b) l := by
  unfold szAns
  by_cases h1 : (a : Int) ≤ l - 1
  · rw [if_pos h1]
    by_cases h2 : (b : Int) ≤ l - 1 - a
    · rw [if_pos h2, if_pos (by omega)]; omega
    · rw [if_neg h2, if_neg (by omega)]
  · rw [if_neg h1, if_neg (by omega), if_neg (by omega)]
theorem szAns_add (a b : Nat) {l : Int} (h : 0 ≤ szAns a l) : szAns b (szAns a l) = szAns (a + b) l := by
  unfold szAns at *
  by_cases h1 : (a : Int) ≤ l
  · rw [if_pos h1]
    by_cases h2 : (b : Int) ≤ l - a
    · rw [if_pos h2, if_pos (by omega)]; omega
    · rw [if_neg h2, if_neg (by omega)]
  · rw [if_neg h1] at h; omega
theorem szAns_neg {a b : Nat} {l : Int} (h : szAns a l < 0) (hab : a ≤ b) (_ : -1 ≤ l) : szAns a l = szAns b l := by
  unfold szAns at *
  by_cases h1 : (a : Int) ≤ l
  · rw [if_pos h1] at h; omega
  · rw [if_neg h1, if_neg (by omega)]
set_option maxHeartbeats 2000000 in
theorem sleftS : ∀ (N : Nat) (L : List St), cntL L = N → ∀ (A : Option Addr) (c : Nat) (rows : Nat → List Value) (left : Int) (w : World), Row w w.heap.size 1 A (dl L) rows → L.length ≤ maxI → -1 ≤ left → left ≤ 2000000 →
    Calls Tryz.prog 24 #[.slice A L.length c, .int .i64 left] w fun e w' => e = .returned (.int .i64 (szAns (cntL L) left)) ∧ Below w.heap.size w w' := by
  intro N
  induction N using Nat.strongRecOn with
  | ind N ih =>
    intro L hN A c rows left w hk hl h0 h1
    have hl63 : L.length ≤ 9223372036854775807 := hl
    have hst0 := hid (show left = szAns (cntL (L.take 0)) left ∨ left < 0 by
      unfold szAns; rw [List.take_zero, cntL]
      by_cases h : (((0 : Nat) : Int)) ≤ left
      · rw [if_pos h]; exact Or.inl (by omega)
      · exact Or.inr (by omega))
    generalize hL : L.length = n at *
    go_enter Tryz.func24, Tryz.ntmps24
    go_wp2_with fail
    go_loopw [1, 5] (fun a i wr => ∃ (m : Nat) (X : Int), m ≤ n ∧ i = .int .i64 m ∧ a = .int .i64 X ∧ (X = szAns (cntL (L.take m)) left ∨ (m = 0 ∧ X = left ∧ left < 0)) ∧ Below w.heap.size w wr) (fun _ i _ => n - (Go.RowKit.intOf i).toNat)
    case atStart =>
      refine ⟨0, left, Nat.zero_le _, rfl, rfl, ?_, Below.refl _ _⟩
      rcases hst0.out with h | h
      · exact Or.inl h
      · exact Or.inr ⟨rfl, rfl, h⟩
    case round =>
      obtain ⟨m, X, hm, rfl, rfl, hX, hb⟩ := hrel
      have hXb : -1 ≤ X ∧ X ≤ 2000000 := by
        rcases hX with h | ⟨_, h, _⟩
        · rw [h]; exact szAns_low _ h0 h1
        · omega
      by_cases hlt : m < n
      · have tm : decide (m < n) = true := decide_eq_true hlt
        by_cases hXn : X < 0
        · have tx : decide (0 ≤ X) = false := decide_eq_false (by omega)
          have hf := hid (show X = szAns (cntL L) left by
            rcases hX with h | ⟨_, h, h2⟩
            · rw [h] at hXn ⊢; exact szAns_neg hXn (cntL_le L m) h0
            · unfold szAns; rw [if_neg (by omega)]; omega)
          clear hX
          go_wp2_with fail
          go_ret
          exact ⟨by rw [← hf.out]; rfl, hb⟩
        · have tx : decide (0 ≤ X) = true := decide_eq_true (by omega)
          have hkr := hk.go hb
          obtain ⟨ad, k, s, e, bs, es, ek, en, en', A1, l1, c1, Bb, cb, C, cc, rb, rc, rfl, _, hT, hld, _, _, hrb, hlb, hrc, hlc⟩ := hkr.st (m := m) (by omega)
          have hst := cntL_take (L := L) (m := m) (by omega)
          rw [hT] at hst
          have hle := cntL_le L (m + 1)
          simp only [cntSt] at hst
          obtain ⟨k0, k1, k2, k3, k4, k5, k6, k7⟩ := ld8 hld
          have e1 : IntKind.i64.wrap (X - 1) = X - 1 := IntWalk.i64_in _ (by omega)
          have hz := szAns_low (cntL bs) (l := X - 1) (by omega) (by omega)
          have hnx := hid (show szAns (cntL es) (szAns (cntL bs) (X - 1)) = szAns (cntL (L.take (m + 1))) left by
            rcases hX with h | ⟨_, h, h2⟩
            · rw [szAns_two _ _ (by omega), hst, h, szAns_add _ _ (by omega)]
            · omega)
          have cB := hid (fun (d : Nat) (os : Array Obj) => Calls.regrown_of (d := d) (os := os) (ih (cntL bs) (by omega) bs rfl Bb cb rb (X - 1) (grow (redrawn wr d) os) (hrb.go (below_regrown wr d os)) hlb (by omega) (by omega)))
          have cC := hid (fun (d : Nat) (os : Array Obj) => Calls.regrown_of (d := d) (os := os) (ih (cntL es) (by omega) es rfl C cc rc (szAns (cntL bs) (X - 1)) (grow (redrawn wr d) os) (hrc.go (below_regrown wr d os)) hlc hz.1 hz.2))
          replace k6 := cell_regrown k6
          replace k7 := cell_regrown k7
          replace hb := hid hb
          clear hkr hrb hrc hld hT hst hle k0 k1 k2 k3 k4 k5 hX hXb hz hXn
          generalize szAns (cntL es) (szAns (cntL bs) (X - 1)) = z2 at *
          generalize szAns (cntL bs) (X - 1) = z1 at *
          go_wp2_with fail
          refine wp_region_quiet_below (by kernel_rfl) (by kernel_rfl) ?_
          repeat (go_big_quiet_step (first | with_reducible exact cB.out _ _ | with_reducible exact cC.out _ _))
          refine wpQuiet_nil ?_
          intro _ hw'
          obtain ⟨⟨dq, osq⟩, hw''⟩ := hw'
          subst hw''
          have hq := hid (hb.out.trans ((below_regrown wr dq osq).mono hb.out.size))
          clear k6 k7 cB cC hb
          generalize grow (redrawn wr dq) osq = wq at *
          go_wp2_with fail
          exact ⟨⟨m + 1, z2, hlt, by go_num, rfl, Or.inl hnx.out, hq.out⟩, by simp [Go.RowKit.intOf]; omega⟩
      · obtain rfl : m = n := by omega
        have hf := hid (show X = szAns (cntL L) left by
          rcases hX with h | ⟨hz, h, h2⟩
          · rw [List.take_of_length_le (by omega)] at h; exact h
          · unfold szAns; rw [if_neg (by omega)]; omega)
        clear hX
        go_wp2_with fail
        go_ret
        exact ⟨by rw [← hf.out]; rfl, hb⟩
end Go.Proofs.YtklcbagddijkgaaGreat.Gd
