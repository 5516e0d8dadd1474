/- The model's CountStmts, BlockDepth, l8Left. -/
import Derived.Test.YtnmomlaimffonaaGreatZSt1
set_option maxHeartbeats 8000000
set_option maxRecDepth 100000
namespace Go.Proofs.YtnmomlaimffonaaGreat.Gd
open Go.RowKit Go.Lib Go.Sort Com Mem YtnmomlaimffonaaGreat.Os Tr
mutual
def depSt : St → Nat
  | .mk _ _ _ bs es => Nat.max (if bs.isEmpty = true then 0 else depL bs) (if es.isEmpty = true then 0 else depL es)
def depL : List St → Nat
  | [] => 1
  | a :: r => Nat.max (1 + depSt a) (depL r)
end
theorem depL_pos (L : List St) : 1 ≤ depL L := by
  induction L with
  | nil => simp [depL]
  | cons a r ih => simp only [depL]; exact Nat.le_trans ih (Nat.le_max_right _ _)
theorem depL_snoc (L : List St) (a : St) : depL (L ++ [a]) = Nat.max (depL L) (1 + depSt a) := by
  induction L with
  | nil =>
    simp only [List.nil_append, depL]
    exact Nat.max_comm _ _
  | cons b r ih =>
    simp only [List.cons_append, depL, ih]
    exact (Nat.max_assoc _ _ _).symm
theorem depL_take {L : List St} {m : Nat} (h : m < L.length) : depL (L.take (m + 1)) = Nat.max (depL (L.take m)) (1 + depSt L[m]) := by
  rw [List.take_succ_eq_append_getElem h, depL_snoc]
theorem dep_cnt : ∀ (N : Nat) (L : List St), cntL L = N → depL L ≤ 1 + cntL L := by
  intro N
  induction N using Nat.strongRecOn with
  | ind N ih =>
    intro L hN
    have hs : ∀ a ∈ L, depSt a ≤ cntSt a := fun a ha => by
      have hm := cntSt_mem ha
      obtain ⟨k, s, e, bs, es⟩ := a
      simp only [cntSt] at hm
      have h1 := ih (cntL bs) (by omega) bs rfl
      have h2 := ih (cntL es) (by omega) es rfl
      simp only [depSt, cntSt]
      refine Nat.max_le.2 ⟨?_, ?_⟩ <;> split <;> omega
    clear ih hN
    induction L with
    | nil => simp [depL]
    | cons a r ihr =>
      have h1 := hs a (by simp)
      have h2 := ihr fun b hb => hs b (by simp [hb])
      simp only [depL, cntL]
      refine Nat.max_le.2 ⟨by omega, by omega⟩
theorem max_any (a b : Nat) (w : World) : Calls Tryz.prog 89 #[.int .i64 a, .int .i64 b] w fun e w' => e = .returned (.int .i64 (Nat.max a b : Nat)) ∧ w = w' := by
  by_cases h : b < a
  · have t1 : decide ((b : Int) < (a : Int)) = true := decide_eq_true (by omega)
    have hf := hid (show Nat.max a b = a from Nat.max_eq_left (by omega))
    go_enter Tryz.func89, Tryz.ntmps89
    go_wp2_with fail
    go_ret
    exact ⟨by rw [hf.out]; rfl, rfl⟩
  · have t1 : decide ((b : Int) < (a : Int)) = false := decide_eq_false (by omega)
    have hf := hid (show Nat.max a b = b from Nat.max_eq_right (by omega))
    go_enter Tryz.func89, Tryz.ntmps89
    go_wp2_with fail
    go_ret
    exact ⟨by rw [hf.out]; rfl, rfl⟩
theorem dep_next {X : Nat} {L : List St} {m : Nat} (h : m < L.length) {k : Int} {s : List UInt8} {e : T} {bs es : List St} (hT : L[m] = .mk k s e bs es) (hX : X = depL (L.take m) - 1) :
    Nat.max (Nat.max X (if bs.isEmpty = true then 0 else depL bs)) (if es.isEmpty = true then 0 else depL es) = depL (L.take (m + 1)) - 1 := by
  rw [depL_take h, hT]
  have h1 := depL_pos (L.take m)
  simp only [depSt]
  generalize (if bs.isEmpty = true then 0 else depL bs) = xb
  generalize (if es.isEmpty = true then 0 else depL es) = xe
  generalize depL (L.take m) = d at *
  subst hX
  show max (max (d - 1) xb) xe = max d (1 + max xb xe) - 1
  omega
theorem emp_len {L : List St} : L.isEmpty = decide (L.length = 0) := by cases L <;> rfl
theorem sdepS : ∀ (N : Nat) (L : List St), cntL L = N → N ≤ 2000000 → ∀ (A : Option Addr) (c : Nat) (rows : Nat → List Value) (w : World), Row w w.heap.size 1 A (dl L) rows →
    Calls Tryz.prog 65 #[.slice A L.length c] w fun e w' => e = .returned (.int .i64 (depL L)) ∧ Below w.heap.size w w' := by
  intro N
  induction N using Nat.strongRecOn with
  | ind N ih =>
    intro L hN hN2 A c rows w hk
    have hll := len_cntL L
    have hdc := dep_cnt N L hN
    have hl63 : L.length ≤ 9223372036854775807 := by omega
    generalize hL : L.length = n at *
    go_enter Tryz.func65, Tryz.ntmps65
    go_wp2_with fail
    go_loopw [3, 4] (fun a i wr => ∃ m X : Nat, m ≤ n ∧ i = .int .i64 m ∧ a = .int .i64 (X : Int) ∧ X = depL (L.take m) - 1 ∧ Below w.heap.size w wr) (fun _ i _ => n - (Go.RowKit.intOf i).toNat)
    case atStart => exact ⟨0, 0, Nat.zero_le _, rfl, rfl, by simp [depL], Below.refl _ _⟩
    case round =>
      obtain ⟨m, X, hm, rfl, rfl, hX, hb⟩ := hrel
      by_cases hlt : m < n
      · have hkr := hk.go hb
        obtain ⟨ad, k, s, e, bs, es, ek, en, en', A1, l1, c1, Bb, cb, C, cc, rb, rc, rfl, _, hT, hld, _, _, hrb, _, hrc, _⟩ := hkr.st (m := m) (by omega)
        have hst := cntL_take (L := L) (m := m) (by omega)
        have hnx := hid (dep_next (by omega) hT hX)
        rw [hT] at hst
        have hle := cntL_le L (m + 1)
        simp only [cntSt] at hst
        obtain ⟨k0, k1, k2, k3, k4, k5, k6, k7⟩ := ld8 hld
        have cB := hid (fun wx (hb : Below wr.heap.size wr wx) => ih (cntL bs) (by omega) bs rfl (by omega) Bb cb rb wx (hrb.go hb))
        have cC := hid (fun wx (hb : Below wr.heap.size wr wx) => ih (cntL es) (by omega) es rfl (by omega) C cc rc wx (hrc.go hb))
        have hldx := hid (fun wx (hb : Below wr.heap.size wr wx) => ld8 (hld.keep (w' := wx) fun p hp => hb.cell (by rw [hp, add_block]; assumption)))
        replace hb := hid hb
        replace hX := hid hX
        clear hkr hrb hrc hld hT hst hle k0 k1 k2 k3 k4 k5
        have hmx := hid (fun a b w => max_any a b w)
        rw [emp_len, emp_len] at hnx
        by_cases hbz : bs.length = 0
        · rw [if_pos (by simp [hbz]), show Nat.max X 0 = X from Nat.max_eq_left (Nat.zero_le _)] at hnx
          rw [hbz] at k6
          by_cases hez : es.length = 0
          · rw [if_pos (by simp [hez]), show Nat.max X 0 = X from Nat.max_eq_left (Nat.zero_le _)] at hnx
            rw [hez] at k7
            clear cB cC
            go_wp2_with fail
            exact ⟨⟨m + 1, X, hlt, by go_num, rfl, hnx.out, hb.out⟩, by simp [Go.RowKit.intOf]; omega⟩
          · rw [if_neg (by simp [hez])] at hnx
            have t2 : decide (0 < es.length) = true := decide_eq_true (by omega)
            clear cB hez
            go_wp2_with fail
            refine (cC.out wr (Below.refl _ _)).mono ?_
            rintro e2 w2 ⟨rfl, hb2⟩
            have hb2 := hid (hb.out.trans (hb2.mono hb.out.size))
            go_wp2_with fail
            refine (hmx.out _ _ w2).mono ?_
            rintro e3 w3 ⟨rfl, rfl⟩
            go_wp2_with fail
            exact ⟨⟨m + 1, Nat.max X (depL es), hlt, by go_num, rfl, hnx.out, hb2.out⟩, by simp [Go.RowKit.intOf]; omega⟩
        · rw [if_neg (by simp [hbz])] at hnx
          have t1 : decide (0 < bs.length) = true := decide_eq_true (by omega)
          clear hbz
          go_wp2_with fail
          refine (cB.out wr (Below.refl _ _)).mono ?_
          rintro e2 w2 ⟨rfl, hb2⟩
          obtain ⟨-, -, -, -, -, -, -, k7'⟩ := hldx.out w2 hb2
          have cC := hid (cC.out w2 hb2)
          have hb2 := hid (hb.out.trans (hb2.mono hb.out.size))
          clear k6 k7
          go_wp2_with fail
          refine (hmx.out _ _ w2).mono ?_
          rintro e3 w3 ⟨rfl, rfl⟩
          generalize Nat.max X (depL bs) = Y at *
          by_cases hez : es.length = 0
          · rw [if_pos (by simp [hez]), show Nat.max Y 0 = Y from Nat.max_eq_left (Nat.zero_le _)] at hnx
            rw [hez] at k7'
            clear cC
            go_wp2_with fail
            exact ⟨⟨m + 1, Y, hlt, by go_num, rfl, hnx.out, hb2.out⟩, by simp [Go.RowKit.intOf]; omega⟩
          · rw [if_neg (by simp [hez])] at hnx
            have t2 : decide (0 < es.length) = true := decide_eq_true (by omega)
            clear hez
            go_wp2_with fail
            refine cC.out.mono ?_
            rintro e4 w4 ⟨rfl, hb4⟩
            have hb4 := hid (hb2.out.trans (hb4.mono hb2.out.size))
            go_wp2_with fail
            refine (hmx.out _ _ w4).mono ?_
            rintro e5 w5 ⟨rfl, rfl⟩
            go_wp2_with fail
            exact ⟨⟨m + 1, Nat.max Y (depL es), hlt, by go_num, rfl, hnx.out, hb4.out⟩, by simp [Go.RowKit.intOf]; omega⟩
      · obtain rfl : m = n := by omega
        have hp := depL_pos L
        have hf := hid (show (X : Int) + 1 = (depL L : Int) by rw [List.take_of_length_le (by omega)] at hX; omega)
        have e1 : IntKind.i64.wrap ((X : Int) + 1) = (X : Int) + 1 := IntWalk.i64_in _ (by rw [List.take_of_length_le (by omega)] at hX; omega)
        clear hX
        go_wp2_with fail
        go_ret
        exact ⟨by rw [← hf.out]; rfl, hb⟩
theorem szAns_low (t : Nat) {l : Int} (_ : -1 ≤ l) (h2 : l ≤ 2000000) : -1 ≤ szAns t l ∧ szAns t l ≤ 2000000 := by
  unfold szAns
  split <;> omega
theorem szAns_two (a b : Nat) {l : Int} (_ : 0 ≤ l) : szAns b (szAns a (l - 1)) = szAns (1 + a + b) l := by
  unfold szAns
  by_cases h1 : (a : Int) ≤ l - 1
  · rw [if_pos h1]
    by_cases h2 : (b : Int) ≤ l - 1 - a
    · rw [if_pos h2, if_pos (by omega)]; omega
    · rw [if_neg h2, if_neg (by omega)]
  · rw [if_neg h1, if_neg (by omega), if_neg (by omega)]
theorem szAns_add (a b : Nat) {l : Int} (h : 0 ≤ szAns a l) : szAns b (szAns a l) = szAns (a + b) l := by
  unfold szAns at *
  by_cases h1 : (a : Int) ≤ l
  · rw [if_pos h1]
    by_cases h2 : (b : Int) ≤ l - a
    · rw [if_pos h2, if_pos (by omega)]; omega
    · rw [if_neg h2, if_neg (by omega)]
  · rw [if_neg h1] at h; omega
theorem szAns_neg {a b : Nat} {l : Int} (h : szAns a l < 0) (hab : a ≤ b) (_ : -1 ≤ l) : szAns a l = szAns b l := by
  unfold szAns at *
  by_cases h1 : (a : Int) ≤ l
  · rw [if_pos h1] at h; omega
  · rw [if_neg h1, if_neg (by omega)]
theorem sleftS : ∀ (N : Nat) (L : List St), cntL L = N → ∀ (A : Option Addr) (c : Nat) (rows : Nat → List Value) (left : Int) (w : World), Row w w.heap.size 1 A (dl L) rows → L.length ≤ maxI → -1 ≤ left → left ≤ 2000000 →
    Calls Tryz.prog 64 #[.slice A L.length c, .int .i64 left] w fun e w' => e = .returned (.int .i64 (szAns (cntL L) left)) ∧ Below w.heap.size w w' := by
  intro N
  induction N using Nat.strongRecOn with
  | ind N ih =>
    intro L hN A c rows left w hk hl h0 h1
    have hl63 : L.length ≤ 9223372036854775807 := hl
    have hst0 := hid (show left = szAns (cntL (L.take 0)) left ∨ left < 0 by
      unfold szAns; rw [List.take_zero, cntL]
      by_cases h : (((0 : Nat) : Int)) ≤ left
      · rw [if_pos h]; exact Or.inl (by omega)
      · exact Or.inr (by omega))
    generalize hL : L.length = n at *
    go_enter Tryz.func64, Tryz.ntmps64
    go_wp2_with fail
    go_loopw [1, 5] (fun a i wr => ∃ (m : Nat) (X : Int), m ≤ n ∧ i = .int .i64 m ∧ a = .int .i64 X ∧ (X = szAns (cntL (L.take m)) left ∨ (m = 0 ∧ X = left ∧ left < 0)) ∧ Below w.heap.size w wr) (fun _ i _ => n - (Go.RowKit.intOf i).toNat)
    case atStart =>
      refine ⟨0, left, Nat.zero_le _, rfl, rfl, ?_, Below.refl _ _⟩
      rcases hst0.out with h | h
      · exact Or.inl h
      · exact Or.inr ⟨rfl, rfl, h⟩
    case round =>
      obtain ⟨m, X, hm, rfl, rfl, hX, hb⟩ := hrel
      have hXb : -1 ≤ X ∧ X ≤ 2000000 := by
        rcases hX with h | ⟨_, h, _⟩
        · rw [h]; exact szAns_low _ h0 h1
        · omega
      by_cases hlt : m < n
      · have tm : decide (m < n) = true := decide_eq_true hlt
        by_cases hXn : X < 0
        · have tx : decide (0 ≤ X) = false := decide_eq_false (by omega)
          have hf := hid (show X = szAns (cntL L) left by
            rcases hX with h | ⟨_, h, h2⟩
            · rw [h] at hXn ⊢; exact szAns_neg hXn (cntL_le L m) h0
            · unfold szAns; rw [if_neg (by omega)]; omega)
          clear hX
          go_wp2_with fail
          go_ret
          exact ⟨by rw [← hf.out]; rfl, hb⟩
        · have tx : decide (0 ≤ X) = true := decide_eq_true (by omega)
          have hkr := hk.go hb
          obtain ⟨ad, k, s, e, bs, es, ek, en, en', A1, l1, c1, Bb, cb, C, cc, rb, rc, rfl, _, hT, hld, _, _, hrb, hlb, hrc, hlc⟩ := hkr.st (m := m) (by omega)
          have hst := cntL_take (L := L) (m := m) (by omega)
          rw [hT] at hst
          have hle := cntL_le L (m + 1)
          simp only [cntSt] at hst
          obtain ⟨k0, k1, k2, k3, k4, k5, k6, k7⟩ := ld8 hld
          have e1 : IntKind.i64.wrap (X - 1) = X - 1 := IntWalk.i64_in _ (by omega)
          have hz := szAns_low (cntL bs) (l := X - 1) (by omega) (by omega)
          have hnx := hid (show szAns (cntL es) (szAns (cntL bs) (X - 1)) = szAns (cntL (L.take (m + 1))) left by
            rcases hX with h | ⟨_, h, h2⟩
            · rw [szAns_two _ _ (by omega), hst, h, szAns_add _ _ (by omega)]
            · omega)
          have cB := hid (fun (d : Nat) (os : Array Obj) => Calls.regrown_of (d := d) (os := os) (ih (cntL bs) (by omega) bs rfl Bb cb rb (X - 1) (grow (redrawn wr d) os) (hrb.go (below_regrown wr d os)) hlb (by omega) (by omega)))
          have cC := hid (fun (d : Nat) (os : Array Obj) => Calls.regrown_of (d := d) (os := os) (ih (cntL es) (by omega) es rfl C cc rc (szAns (cntL bs) (X - 1)) (grow (redrawn wr d) os) (hrc.go (below_regrown wr d os)) hlc hz.1 hz.2))
          replace k6 := cell_regrown k6
          replace k7 := cell_regrown k7
          replace hb := hid hb
          clear hkr hrb hrc hld hT hst hle k0 k1 k2 k3 k4 k5 hX hXb hz hXn
          generalize szAns (cntL es) (szAns (cntL bs) (X - 1)) = z2 at *
          generalize szAns (cntL bs) (X - 1) = z1 at *
          go_wp2_with fail
          refine wp_region_quiet_below (by kernel_rfl) (by kernel_rfl) ?_
          repeat (go_big_quiet_step (first | with_reducible exact cB.out _ _ | with_reducible exact cC.out _ _))
          refine wpQuiet_nil ?_
          intro _ hw'
          obtain ⟨⟨dq, osq⟩, hw''⟩ := hw'
          subst hw''
          have hq := hid (hb.out.trans ((below_regrown wr dq osq).mono hb.out.size))
          clear k6 k7 cB cC hb
          generalize grow (redrawn wr dq) osq = wq at *
          go_wp2_with fail
          exact ⟨⟨m + 1, z2, hlt, by go_num, rfl, Or.inl hnx.out, hq.out⟩, by simp [Go.RowKit.intOf]; omega⟩
      · obtain rfl : m = n := by omega
        have hf := hid (show X = szAns (cntL L) left by
          rcases hX with h | ⟨hz, h, h2⟩
          · rw [List.take_of_length_le (by omega)] at h; exact h
          · unfold szAns; rw [if_neg (by omega)]; omega)
        clear hX
        go_wp2_with fail
        go_ret
        exact ⟨by rw [← hf.out]; rfl, hb⟩
open YtnmomlaimffonaaGreat.Nm C2
def okE8 (V : List (List UInt8)) (e : T) : Bool := okT e && (((keepS (sortU (varsT e)) V).length : Int) == 0)
def kindB (V : List (List UInt8)) (k : Int) (s : List UInt8) (nb ne : Bool) : Bool :=
  if k = 1 then decide (0 ≤ ixOf V s) && (nb && ne) else if k = 2 then (s == []) else if k = 3 then (s == []) && ne else if k = 4 then (s == []) && (nb && ne) else false
mutual
def okSt (V : List (List UInt8)) : St → Bool
  | .mk k s e bs es => okE8 V e && (okSts V bs && (okSts V es && kindB V k s ((bs.length : Int) == 0) ((es.length : Int) == 0)))
def okSts (V : List (List UInt8)) : List St → Bool
  | [] => true
  | a :: r => okSt V a && okSts V r
end
theorem okSts_not {V : List (List UInt8)} {L : List St} {m : Nat} (h : m < L.length) (hf : okSt V L[m] = false) : okSts V L = false := by
  induction L generalizing m with
  | nil => simp at h
  | cons a r ih =>
    rw [okSts]
    cases m with
    | zero => rw [List.getElem_cons_zero] at hf; rw [hf]; rfl
    | succ m => rw [List.getElem_cons_succ] at hf; rw [ih (by simpa using h) hf, Bool.and_false]
theorem okSts_all {V : List (List UInt8)} {L : List St} (h : ∀ j, (hj : j < L.length) → okSt V L[j] = true) : okSts V L = true := by
  induction L with
  | nil => rfl
  | cons a r ih =>
    rw [okSts, show okSt V a = true from h 0 (by simp), Bool.true_and]
    exact ih fun j hj => h (j + 1) (by simpa using hj)
theorem sexpr8 (V : List (List UInt8)) (hV : V.length ≤ maxI) (e : T) (hc : cntT e ≤ 2000000) (v : Value) (A : Option Addr) (c : Nat) (w : World) (hv : Ex w w.heap.size v e) (hr : Rd w w.heap.size A (V.map sv)) :
    Calls Tryz.prog 110 #[v, .slice A V.length c] w fun e' w' => e' = .returned (.bool (okE8 V e)) ∧ Below w.heap.size w w' := by
  obtain ⟨k, n, s, B, l, cc, rfl⟩ := hv.form
  have hb1 := box_below w (.cells #[.int .i64 k, .int .i64 n, sv s, .slice B l cc] 92)
  have hblk := hid (box_blk w k n s B l cc 92)
  have hck := hid (svalidE e _ _ (hv.go hb1) hc)
  have hvs := hid (fun wx (hb : Below w.heap.size w wx) => svarsOf e _ wx (hv.go hb) hc)
  have hrr := hid (fun wx (hb : Below w.heap.size w wx) => (hr.below hb).more hb.size)
  have hln := hid (show (sortU (varsT e)).length ≤ 2000000 by have := sortU_len (varsT e); have := varsT_len e; omega)
  replace hb1 := hid hb1
  clear hv hr
  go_enter Tryz.func110, Tryz.ntmps110
  obtain ⟨k0, k1, k2, k3⟩ := four hblk.out
  go_wp2_with fail
  generalize (w.alloc (.cells #[.int .i64 k, .int .i64 n, sv s, .slice B l cc] 92)) = w1 at *
  refine hck.out.mono ?_
  rintro e2 w2 ⟨rfl, hb⟩
  have hb2 := hid (hb1.out.trans (hb.mono hb1.out.size))
  have hblk2 := hblk.out.below hb hblk.out.lt
  clear k0 k1 k2 k3
  obtain ⟨k0, k1, k2, k3⟩ := four hblk2
  cases hok : okT e with
  | false =>
    have hf := hid (show okE8 V e = false by unfold okE8; rw [hok]; rfl)
    clear hok hb hblk2
    go_wp2_with fail
    go_ret
    exact ⟨by rw [hf.out]; rfl, hb2.out⟩
  | true =>
    have hf := hid (show okE8 V e = (((keepS (sortU (varsT e)) V).length : Int) == 0) by unfold okE8; rw [hok]; rfl)
    clear hok hb hblk2
    generalize sortU (varsT e) = S at *
    go_wp2_with fail
    refine (hvs.out w2 hb2.out).mono ?_
    rintro e3 w3 ⟨r, rfl, ho, hb⟩
    have hb3 := hid (hb2.out.trans (hb.mono hb2.out.size))
    obtain ⟨SA, SC, rfl, hrs, _⟩ := ho.read_
    have hw := hid (swithout_any SA A SC c S V w3 hrs (hrr.out w3 hb3.out) hln.out hV)
    clear hb ho hrs hvs k0 k1 k2 k3
    go_wp2_with fail
    refine hw.out.mono ?_
    rintro e4 w4 ⟨u, rfl, hg⟩
    obtain ⟨UA, UC, hu, -, -, -, -⟩ := hg.len
    rw [List.length_map] at hu
    subst hu
    have hb4 := hid (hb3.out.trans (hg.2.mono hb3.out.size))
    clear hg hw
    generalize (keepS S V).length = q at *
    cases hq : ((q : Int) == 0) with
    | true =>
      rw [hq] at hf
      go_wp2_with fail
      go_ret
      exact ⟨by rw [hf.out]; rfl, hb4.out⟩
    | false =>
      rw [hq] at hf
      go_wp2_with fail
      go_ret
      exact ⟨by rw [hf.out]; rfl, hb4.out⟩
mutual
def exSt : St → Nat
  | .mk _ _ e bs es => cntT e + exL bs + exL es
def exL : List St → Nat
  | [] => 0
  | a :: r => exSt a + exL r
end
theorem exSt_mk (k : Int) (s : List UInt8) (e : T) (bs es : List St) : exSt (.mk k s e bs es) = cntT e + exL bs + exL es := by rw [exSt]
theorem exSt_mem {L : List St} {a : St} (h : a ∈ L) : exSt a ≤ exL L := by
  induction L with
  | nil => cases h
  | cons b r ih =>
    simp only [exL]
    rcases List.mem_cons.1 h with rfl | h
    · omega
    · have := ih h; omega
def StV (V : List (List UInt8)) (t : St) : Prop := ∀ (cs : List Value) (A : Option Addr) (c : Nat) (w : World), Rd8 w w.heap.size cs t.d → Rd w w.heap.size A (V.map sv) → exSt t ≤ 1900000 →
  Calls Tryz.prog 90 #[.agg cs.toArray, .slice A V.length c] w fun e w' => e = .returned (.bool (okSt V t)) ∧ Below w.heap.size w w'
theorem sstmts (V : List (List UInt8)) (L : List St) (ih : ∀ a ∈ L, StV V a) (A : Option Addr) (c : Nat) (rows : Nat → List Value) (w : World) (hk : Row w w.heap.size 1 A (dl L) rows) (hl : L.length ≤ maxI) (hsz : exL L ≤ 1900000) (B : Option Addr) (cv : Nat) (hr : Rd w w.heap.size B (V.map sv)) :
    Calls Tryz.prog 66 #[.slice A L.length c, .slice B V.length cv] w fun e w' => e = .returned (.bool (okSts V L)) ∧ Below w.heap.size w w' := by
  have hl63 : L.length ≤ 9223372036854775807 := hl
  generalize hL : L.length = n at *
  go_enter Tryz.func66, Tryz.ntmps66
  go_wp2_with fail
  go_loopw [5] (fun i wr => ∃ m : Nat, m ≤ n ∧ i = .int .i64 m ∧ (∀ j, (hj : j < L.length) → j < m → okSt V L[j] = true) ∧ Below w.heap.size w wr) (fun i _ => n - (Go.RowKit.intOf i).toNat)
  case atStart => exact ⟨0, Nat.zero_le _, rfl, fun j _ h => absurd h (Nat.not_lt_zero _), Below.refl _ _⟩
  case round =>
    obtain ⟨m, hm, rfl, hall, hb⟩ := hrel
    by_cases hlt : m < n
    · have hml : m < L.length := by omega
      have hkr := hk.go hb
      have hrr := (hr.below hb).more hb.size
      obtain ⟨ad, k, s, e, bs, es, ek, en, en', A1, l1, c1, Bb, cb, C, cc, rb, rc, hA, _, hT, hld, _, _, _, _, _, _⟩ := hkr.st (m := m) hml
      have hkid := hkr.kid m L[m].d (by simp [hml])
      have hld0 := (hkr.cell m (by simpa using hml))
      obtain ⟨hlen, ad', hA', _, hld'⟩ := hld0
      rw [hA] at hA'
      cases hA'
      have hsm : exSt L[m] ≤ 1900000 := Nat.le_trans (exSt_mem (List.getElem_mem hml)) hsz
      have hck := ih L[m] (List.getElem_mem hml) _ B cv wr hkid hrr hsm
      /- the row's cells, written out -/
      have hkd := hkid
      rw [hT, St.d_mk] at hkd
      obtain ⟨fk, fn, fn', A2, l2, c2, B2, cb2, C2, cc2, rb2, rc2, e8, -, -, -, -, -, -⟩ := st_inv hkd
      rw [dl_len bs, dl_len es] at e8
      have hld2 : LdN wr (ad.add (m * 8)) (rows m) := hld'
      rw [e8] at hld2 hck
      obtain ⟨k0, k1, k2, k3, k4, k5, k6, k7⟩ := ld8 hld2
      subst hA
      replace hb := hid hb
      replace hall := hid hall
      cases hq : okSt V L[m] with
      | true =>
        rw [hq] at hck
        have hnx := hid (show ∀ j, (hj : j < L.length) → j < m + 1 → okSt V L[j] = true from fun j hj h2 => by
          by_cases e : j = m
          · subst e; exact hq
          · exact hall.out j hj (by omega))
        replace hck := hid hck
        clear hq hkr hrr hT hld hkid hkd e8 hld' hld2 hlen
        go_wp2_with fail
        refine hck.out.mono ?_
        rintro e2 w2 ⟨rfl, hb2⟩
        have hb2 := hid (hb.out.trans (hb2.mono hb.out.size))
        go_wp2_with fail
        exact ⟨⟨m + 1, hlt, by go_num, hnx.out, hb2.out⟩, by simp [Go.RowKit.intOf]; omega⟩
      | false =>
        rw [hq] at hck
        have hf := hid (okSts_not hml hq)
        replace hck := hid hck
        clear hq hkr hrr hT hld hkid hkd e8 hld' hld2 hlen
        go_wp2_with fail
        refine hck.out.mono ?_
        rintro e2 w2 ⟨rfl, hb2⟩
        have hb2 := hid (hb.out.trans (hb2.mono hb.out.size))
        go_wp2_with fail
        go_ret
        exact ⟨by rw [hf.out]; rfl, hb2.out⟩
    · obtain rfl : m = n := by omega
      have hf := hid (okSts_all (V := V) (L := L) fun j hj => hall j hj (by omega))
      clear hall
      go_wp2_with fail
      go_ret
      exact ⟨by rw [hf.out]; rfl, hb⟩
theorem okSt_mk (V : List (List UInt8)) (k : Int) (s : List UInt8) (e : T) (bs es : List St) : okSt V (.mk k s e bs es) = (okE8 V e && (okSts V bs && (okSts V es && kindB V k s ((bs.length : Int) == 0) ((es.length : Int) == 0)))) := by rw [okSt]
theorem sstmt (V : List (List UInt8)) (hV : V.length ≤ maxI) (t : St) : StV V t := by
  induction t using St.ind with
  | h k s e bs es ih1 ih2 =>
    intro cs A c w hv hr hsz
    rw [St.d_mk] at hv
    rw [exSt_mk] at hsz
    obtain ⟨ek, en, en', B, l, cc, Bb, cb, C, ce, rb, rc, rfl, hs, hx, hrb, hlb, hrc, hlc⟩ := st_inv hv
    rw [dl_len] at *
    rw [dl_len] at *
    have hce := cnt_sz e
    have b1 : Below w.heap.size w (w.alloc (.cells (sc k s ek en en' B l cc Bb bs.length cb C es.length ce).toArray SI)) := box8
    have bx := hid (Blk.new w SI (sc k s ek en en' B l cc Bb bs.length cb C es.length ce))
    have cE := hid (fun wx (hb : Below w.heap.size w wx) => sexpr8 V hV e (by omega) _ A c wx (hx.go hb) ((hr.below hb).more hb.size))
    have cB := hid (fun wx (hb : Below w.heap.size w wx) => sstmts V bs ih1 Bb cb rb wx (hrb.go hb) hlb (by omega) A c ((hr.below hb).more hb.size))
    have cC := hid (fun wx (hb : Below w.heap.size w wx) => sstmts V es ih2 C ce rc wx (hrc.go hb) hlc (by omega) A c ((hr.below hb).more hb.size))
    have cI := hid (fun wx (hb : Below w.heap.size w wx) => sindex_any A c V s wx w.heap.size (hr.below hb) hV)
    replace b1 := hid b1
    have hok := hid (okSt_mk V k s e bs es)
    generalize okSt V (.mk k s e bs es) = Q at *
    generalize okE8 V e = qe at *
    generalize okSts V bs = qb at *
    generalize okSts V es = qc at *
    clear hv hx hrb hrc hlb hlc hr hsz ih1 ih2 hce
    go_enter Tryz.func90, Tryz.ntmps90
    obtain ⟨k0, k1, k2, k3, k4, k5, k6, k7⟩ := eight bx.out
    go_wp2_with fail
    generalize (w.alloc (.cells #[.int .i64 k, sv s, .int .i64 ek, .int .i64 en, sv en', .slice B l cc, .slice Bb bs.length cb, .slice C es.length ce] 94)) = w1 at *
    refine (cE.out w1 b1.out).mono ?_
    rintro e2 w2 ⟨rfl, hb⟩
    have b2 := hid (b1.out.trans (hb.mono b1.out.size))
    have bx2 := hid (bx.out.below hb bx.out.lt)
    clear hb k0 k1 k2 k3 k4 k5 k6 k7 bx b1 cE
    obtain ⟨k0, k1, k2, k3, k4, k5, k6, k7⟩ := eight bx2.out
    cases qe with
    | false =>
      go_wp2_with fail
      go_ret
      exact ⟨by rw [hok.out]; rfl, b2.out⟩
    | true =>
    go_wp2_with fail
    refine (cB.out w2 b2.out).mono ?_
    rintro e3 w3 ⟨rfl, hb⟩
    have b3 := hid (b2.out.trans (hb.mono b2.out.size))
    have bx3 := hid (bx2.out.below hb bx2.out.lt)
    clear hb k0 k1 k2 k3 k4 k5 k6 k7 bx2 b2 cB
    obtain ⟨k0, k1, k2, k3, k4, k5, k6, k7⟩ := eight bx3.out
    cases qb with
    | false =>
      go_wp2_with fail
      go_ret
      exact ⟨by rw [hok.out]; rfl, b3.out⟩
    | true =>
    go_wp2_with fail
    refine (cC.out w3 b3.out).mono ?_
    rintro e4 w4 ⟨rfl, hb⟩
    have b4 := hid (b3.out.trans (hb.mono b3.out.size))
    have bx4 := hid (bx3.out.below hb bx3.out.lt)
    clear hb k0 k1 k2 k3 k4 k5 k6 k7 bx3 b3 cC
    obtain ⟨k0, k1, k2, k3, k4, k5, k6, k7⟩ := eight bx4.out
    cases qc with
    | false =>
      go_wp2_with fail
      go_ret
      exact ⟨by rw [hok.out]; rfl, b4.out⟩
    | true =>
    by_cases h1 : k = 1
    · subst h1
      have hf := hid (show Q = (decide (0 ≤ ixOf V s) && (((bs.length : Int) == 0) && ((es.length : Int) == 0))) from hok.out)
      have cI4 := hid (cI.out w4 b4.out)
      clear hok cI
      generalize ixOf V s = ix at *
      go_wp2_with fail
      refine cI4.out.mono ?_
      rintro e5 w5 ⟨rfl, rfl⟩
      cases hi : decide (0 ≤ ix) with
      | false =>
        rw [hi] at hf
        go_wp2_with fail
        go_ret
        exact ⟨by rw [hf.out]; rfl, b4.out⟩
      | true =>
      rw [hi] at hf
      cases hz1 : ((bs.length : Int) == 0) with
      | false =>
        rw [hz1] at hf
        go_wp2_with fail
        go_ret
        exact ⟨by rw [hf.out]; rfl, b4.out⟩
      | true =>
      rw [hz1] at hf
      cases hz2 : ((es.length : Int) == 0) with
      | false =>
        rw [hz2] at hf
        go_wp2_with fail
        go_ret
        exact ⟨by rw [hf.out]; rfl, b4.out⟩
      | true =>
        rw [hz2] at hf
        go_wp2_with fail
        go_ret
        exact ⟨by rw [hf.out]; rfl, b4.out⟩
    clear cI
    by_cases h2 : k = 2
    · subst h2
      have hf := hid (show Q = (s == []) from hok.out)
      clear hok
      cases hz : (s == []) with
      | false =>
        rw [hz] at hf
        go_wp2_with fail
        go_ret
        exact ⟨by rw [hf.out]; rfl, b4.out⟩
      | true =>
        rw [hz] at hf
        go_wp2_with fail
        go_ret
        exact ⟨by rw [hf.out]; rfl, b4.out⟩
    by_cases h3 : k = 3
    · subst h3
      have hf := hid (show Q = ((s == []) && ((es.length : Int) == 0)) from hok.out)
      clear hok
      cases hz : (s == []) with
      | false =>
        rw [hz] at hf
        go_wp2_with fail
        go_ret
        exact ⟨by rw [hf.out]; rfl, b4.out⟩
      | true =>
      rw [hz] at hf
      cases hz2 : ((es.length : Int) == 0) with
      | false =>
        rw [hz2] at hf
        go_wp2_with fail
        go_ret
        exact ⟨by rw [hf.out]; rfl, b4.out⟩
      | true =>
        rw [hz2] at hf
        go_wp2_with fail
        go_ret
        exact ⟨by rw [hf.out]; rfl, b4.out⟩
    by_cases h4 : k = 4
    · subst h4
      have hf := hid (show Q = ((s == []) && (((bs.length : Int) == 0) && ((es.length : Int) == 0))) from hok.out)
      clear hok
      cases hz : (s == []) with
      | false =>
        rw [hz] at hf
        go_wp2_with fail
        go_ret
        exact ⟨by rw [hf.out]; rfl, b4.out⟩
      | true =>
      rw [hz] at hf
      cases hz1 : ((bs.length : Int) == 0) with
      | false =>
        rw [hz1] at hf
        go_wp2_with fail
        go_ret
        exact ⟨by rw [hf.out]; rfl, b4.out⟩
      | true =>
      rw [hz1] at hf
      cases hz2 : ((es.length : Int) == 0) with
      | false =>
        rw [hz2] at hf
        go_wp2_with fail
        go_ret
        exact ⟨by rw [hf.out]; rfl, b4.out⟩
      | true =>
        rw [hz2] at hf
        go_wp2_with fail
        go_ret
        exact ⟨by rw [hf.out]; rfl, b4.out⟩
    have hf := hid (show Q = false by rw [hok.out]; unfold kindB; rw [if_neg h1, if_neg h2, if_neg h3, if_neg h4]; rfl)
    have t1 : (k == 1) = false := beq_false_of_ne h1
    have t2 : (k == 2) = false := beq_false_of_ne h2
    have t3 : (k == 3) = false := beq_false_of_ne h3
    have t4 : (k == 4) = false := beq_false_of_ne h4
    clear hok h1 h2 h3 h4
    go_wp2_with fail
    go_ret
    exact ⟨by rw [hf.out]; rfl, b4.out⟩
def varsB (V : List (List UInt8)) : Bool := V.all validB && (decide (V.length ≤ 2) && distB V)
def okP (p : Pg) : Bool := varsB p.vs && (decide (cntL p.body ≤ 8) && (decide (depL p.body ≤ 3) && okSts p.vs p.body))
theorem svars8 (V : List (List UInt8)) (hs : ∀ x ∈ V, x.length ≤ maxI) (hV : V.length ≤ maxI) (A : Option Addr) (c : Nat) (hcap : V.length ≤ c) (w : World) (hr : Rd w w.heap.size A (V.map sv)) :
    Calls Tryz.prog 63 #[.slice A V.length c] w fun e w' => e = .returned (.bool (varsB V)) ∧ Below w.heap.size w w' := by
  have hV63 : V.length ≤ 9223372036854775807 := hV
  have cD := hid (fun wx (hb : Below w.heap.size w wx) => sdistinct_any A c V wx ((hr.below hb).more hb.size) hcap hV63)
  generalize hL : V.length = n at *
  go_enter Tryz.func63, Tryz.ntmps63
  go_wp2_with fail
  go_loopw [3] (fun i wr => ∃ m : Nat, m ≤ n ∧ i = .int .i64 m ∧ (∀ j, (hj : j < V.length) → j < m → validB V[j] = true) ∧ Below w.heap.size w wr) (fun i _ => n - (Go.RowKit.intOf i).toNat)
  case atStart => exact ⟨0, Nat.zero_le _, rfl, fun j _ h => absurd h (Nat.not_lt_zero _), Below.refl _ _⟩
  case round =>
    obtain ⟨m, hm, rfl, hall, hb⟩ := hrel
    by_cases hlt : m < n
    · have hml : m < V.length := by omega
      obtain ⟨ad, rfl, _, hcm⟩ := Lh.rd_str (hr.below hb) hml
      have hck := svalid_any V[m] wr (hs _ (List.getElem_mem hml))
      replace hall := hid hall
      replace hb := hid hb
      cases hq : validB V[m] with
      | true =>
        rw [hq] at hck
        have hnx := hid (show ∀ j, (hj : j < V.length) → j < m + 1 → validB V[j] = true from fun j hj h2 => by
          by_cases e : j = m
          · subst e; exact hq
          · exact hall.out j hj (by omega))
        replace hck := hid hck
        clear hq
        generalize V[m] = x at *
        go_wp2_with fail
        refine hck.out.mono ?_
        rintro e2 w2 ⟨rfl, hb2⟩
        have hb2 := hid (hb.out.trans (hb2.mono hb.out.size))
        go_wp2_with fail
        exact ⟨⟨m + 1, hlt, by go_num, hnx.out, hb2.out⟩, by simp [Go.RowKit.intOf]; omega⟩
      | false =>
        rw [hq] at hck
        have hf := hid (show varsB V = false by
          unfold varsB
          have : V.all validB = false := by
            rw [List.all_eq_false]
            exact ⟨V[m], List.getElem_mem hml, by rw [hq]; simp⟩
          rw [this]; rfl)
        replace hck := hid hck
        clear hq
        generalize V[m] = x at *
        go_wp2_with fail
        refine hck.out.mono ?_
        rintro e2 w2 ⟨rfl, hb2⟩
        have hb2 := hid (hb.out.trans (hb2.mono hb.out.size))
        go_wp2_with fail
        go_ret
        exact ⟨by rw [hf.out]; rfl, hb2.out⟩
    · obtain rfl : m = n := by omega
      have hva : V.all validB = true := by
        rw [List.all_eq_true]
        intro x hx
        obtain ⟨j, hj, e⟩ := List.getElem_of_mem hx
        rw [← e]; exact hall j hj (by omega)
      have hcl := hid (cD.out wr hb)
      replace hb := hid hb
      clear hall cD
      by_cases h2 : m ≤ 2
      · have t1 : decide ((m : Int) ≤ 2) = true := decide_eq_true (by omega)
        have hf := hid (show varsB V = distB V by unfold varsB; rw [hva, decide_eq_true (show V.length ≤ 2 by omega)]; rfl)
        clear hva
        go_wp2_with fail
        refine hcl.out.mono ?_
        rintro e2 w2 ⟨rfl, hb2⟩
        have hb2 := hid (hb.out.trans (hb2.mono hb.out.size))
        go_wp2_with fail
        go_ret
        exact ⟨by rw [hf.out]; rfl, hb2.out⟩
      · have t1 : decide ((m : Int) ≤ 2) = false := decide_eq_false (by omega)
        have hf := hid (show varsB V = false by unfold varsB; rw [hva, decide_eq_false (show ¬ V.length ≤ 2 by omega)]; rfl)
        clear hva hcl
        go_wp2_with fail
        go_ret
        exact ⟨by rw [hf.out]; rfl, hb.out⟩
theorem svalidP (p : Pg) (hsz : exL p.body ≤ 1900000) (hcn : cntL p.body ≤ 1900000) (cs : List Value) (w : World) (hv : Rd8 w w.heap.size cs p.d) :
    Calls Tryz.prog 35 #[.agg cs.toArray] w fun e w' => e = .returned (.bool (okP p)) ∧ Below w.heap.size w w' := by
  obtain ⟨A, c, Bb, cb, rows, rfl, hr, hs, hl, hk, hlb⟩ := pg_inv hv
  obtain ⟨V, P⟩ := p
  dsimp only at hr hs hl hk hlb hsz hcn ⊢
  have b1 : Below w.heap.size w (w.alloc (.cells (pc A V.length c Bb P.length cb).toArray 27)) := box8
  have bx := hid (Blk.new w 27 (pc A V.length c Bb P.length cb))
  have cV := hid (svars8 V hs hl.1 A c hl.2 _ ((hr.below b1).more b1.size))
  have cL := hid (fun wx (hb : Below w.heap.size w wx) => sleftS _ P rfl Bb cb rows 8 wx (hk.go hb) hlb (by omega) (by omega))
  have cD := hid (fun wx (hb : Below w.heap.size w wx) => sdepS _ P rfl (by omega) Bb cb rows wx (hk.go hb))
  have cS := hid (fun wx (hb : Below w.heap.size w wx) => sstmts V P (fun a _ => sstmt V hl.1 a) Bb cb rows wx (hk.go hb) hlb hsz A c ((hr.below hb).more hb.size))
  have hok := hid (show okP ⟨V, P⟩ = (varsB V && (decide (cntL P ≤ 8) && (decide (depL P ≤ 3) && okSts V P))) from rfl)
  replace b1 := hid b1
  have hl8 := szAns_low (cntL P) (l := 8) (by omega) (by omega)
  have hq8 : decide (0 ≤ szAns (cntL P) 8) = decide (cntL P ≤ 8) := by
    unfold szAns
    by_cases h : ((cntL P : Nat) : Int) ≤ 8
    · rw [if_pos h, decide_eq_true (show 0 ≤ 8 - ((cntL P : Nat) : Int) by omega), decide_eq_true (show cntL P ≤ 8 by omega)]
    · rw [if_neg h, decide_eq_false (show ¬ (0 : Int) ≤ -1 by omega), decide_eq_false (show ¬ cntL P ≤ 8 by omega)]
  generalize szAns (cntL P) 8 = z8 at *
  generalize okP ⟨V, P⟩ = Q at *
  generalize varsB V = q1 at *
  generalize decide (cntL P ≤ 8) = q2 at *
  generalize okSts V P = q4 at *
  have hd3 : decide ((depL P : Int) ≤ 3) = decide (depL P ≤ 3) := decide_eq_decide.2 (by omega)
  generalize depL P = dp at *
  generalize decide (dp ≤ 3) = q3 at *
  clear hv hr hk hs hl hlb hsz hcn hl8
  go_enter Tryz.func35, Tryz.ntmps35
  obtain ⟨k0, k1⟩ := two bx.out
  go_wp2_with fail
  refine cV.out.mono ?_
  rintro e2 w2 ⟨rfl, hb⟩
  have b2 := hid (b1.out.trans (hb.mono b1.out.size))
  have bx2 := hid (bx.out.below hb bx.out.lt)
  clear hb k0 k1 bx b1 cV
  obtain ⟨k0, k1⟩ := two bx2.out
  cases q1 with
  | false =>
    go_wp2_with fail
    go_ret
    exact ⟨by rw [hok.out]; rfl, b2.out⟩
  | true =>
  go_wp2_with fail
  refine (cL.out w2 b2.out).mono ?_
  rintro e3 w3 ⟨rfl, hb⟩
  have b3 := hid (b2.out.trans (hb.mono b2.out.size))
  have bx3 := hid (bx2.out.below hb bx2.out.lt)
  clear hb k0 k1 bx2 b2 cL
  obtain ⟨k0, k1⟩ := two bx3.out
  cases q2 with
  | false =>
    go_wp2_with fail
    go_ret
    exact ⟨by rw [hok.out]; rfl, b3.out⟩
  | true =>
  go_wp2_with fail
  refine (cD.out w3 b3.out).mono ?_
  rintro e4 w4 ⟨rfl, hb⟩
  have b4 := hid (b3.out.trans (hb.mono b3.out.size))
  have bx4 := hid (bx3.out.below hb bx3.out.lt)
  clear hb k0 k1 bx3 b3 cD
  obtain ⟨k0, k1⟩ := two bx4.out
  cases q3 with
  | false =>
    go_wp2_with fail
    go_ret
    exact ⟨by rw [hok.out]; rfl, b4.out⟩
  | true =>
  go_wp2_with fail
  refine (cS.out w4 b4.out).mono ?_
  rintro e5 w5 ⟨rfl, hb⟩
  have b5 := hid (b4.out.trans (hb.mono b4.out.size))
  clear hb k0 k1 bx4 b4 cS
  go_wp2_with fail
  go_ret
  exact ⟨by rw [hok.out]; rfl, b5.out⟩
end Go.Proofs.YtnmomlaimffonaaGreat.Gd
