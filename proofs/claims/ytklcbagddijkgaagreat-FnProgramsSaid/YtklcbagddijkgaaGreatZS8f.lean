/- The model's EqualProgram. -/
import Derived.Test.YtklcbagddijkgaaGreatZSt1
import Derived.Test.YtklcbagddijkgaaGreatZTr
import Derived.Lib.QuietBelow
import Derived.BigQuiet
import Derived.Test.YtklcbagddijkgaaGreatZTr6
import Derived.Test.YtklcbagddijkgaaGreatZNm
set_option maxRecDepth 100000
namespace Go.Proofs.YtklcbagddijkgaaGreat.Gd
open Go.RowKit Go.Lib Go.Sort Go.Proofs.YtklcbagddijkgaaGreat.Com Go.Proofs.YtklcbagddijkgaaGreat.Mem Go.Proofs.YtklcbagddijkgaaGreat.Os Go.Proofs.YtklcbagddijkgaaGreat.Tr

mutual
def sameSt : St → St → Bool
  | .mk k s e bs es, .mk k' s' e' bs' es' => (k == k') && ((s == s') && (eqT e e' && (sameSL bs bs' && sameSL es es')))
def sameSL : List St → List St → Bool
  | [], [] => true
  | a :: r, b :: q => sameSt a b && sameSL r q
  | [], _ :: _ => false
  | _ :: _, [] => false
end
theorem sameSL_len : ∀ {xs bs : List St}, sameSL xs bs = true → xs.length = bs.length
  | [], [], _ => rfl
  | a :: r, b :: q, h => by
    rw [sameSL, Bool.and_eq_true] at h
    simp [sameSL_len h.2]
  | [], _ :: _, h => by rw [sameSL] at h; cases h
  | _ :: _, [], h => by rw [sameSL] at h; cases h
theorem sameSL_at : ∀ {xs bs : List St}, xs.length = bs.length → (∀ (j : Nat) (a b : St), xs[j]? = some a → bs[j]? = some b → sameSt a b = true) → sameSL xs bs = true
  | [], [], _, _ => by rw [sameSL]
  | a :: r, b :: q, hl, h => by
    rw [sameSL, Bool.and_eq_true]
    exact ⟨h 0 a b rfl rfl, sameSL_at (by simpa using hl) fun j x y hx hy => h (j + 1) x y (by simpa using hx) (by simpa using hy)⟩
  | [], _ :: _, hl, _ => by simp at hl
  | _ :: _, [], hl, _ => by simp at hl
theorem sameSL_of : ∀ {xs bs : List St}, sameSL xs bs = true → ∀ (j : Nat) (a b : St), xs[j]? = some a → bs[j]? = some b → sameSt a b = true
  | [], _, _, j, a, b, ha, _ => by simp at ha
  | a :: r, b :: q, h, j, x, y, hx, hy => by
    rw [sameSL, Bool.and_eq_true] at h
    cases j with
    | zero => simp at hx hy; subst hx; subst hy; exact h.1
    | succ j => exact sameSL_of h.2 j x y (by simpa using hx) (by simpa using hy)
  | _ :: _, [], h, _, _, _, _, hy => by simp at hy
theorem sameSL_not {xs bs : List St} {j : Nat} {a b : St} (ha : xs[j]? = some a) (hb : bs[j]? = some b) (h : sameSt a b = false) : sameSL xs bs = false := by
  cases hq : sameSL xs bs with
  | false => rfl
  | true => rw [sameSL_of hq j a b ha hb] at h; cases h
theorem sameSL_nl {xs bs : List St} (h : xs.length ≠ bs.length) : sameSL xs bs = false := by
  cases hq : sameSL xs bs with
  | false => rfl
  | true => exact absurd (sameSL_len hq) h
theorem sameSt_mk (k k' : Int) (s s' : List UInt8) (e e' : T) (bs bs' es es' : List St) : sameSt (.mk k s e bs es) (.mk k' s' e' bs' es') = ((k == k') && ((s == s') && (eqT e e' && (sameSL bs bs' && sameSL es es')))) := by rw [sameSt]
theorem sameSt_self (t : St) : sameSt t t = true := by
  induction t using St.ind with
  | h k s e bs es h1 h2 =>
    rw [sameSt_mk, eqT_self]
    have a1 : sameSL bs bs = true := sameSL_at rfl fun j a b ha hb => by
      rw [ha] at hb; cases hb
      exact h1 a (List.mem_of_getElem? ha)
    have a2 : sameSL es es = true := sameSL_at rfl fun j a b ha hb => by
      rw [ha] at hb; cases hb
      exact h2 a (List.mem_of_getElem? ha)
    simp [a1, a2]
theorem sameSL_self (L : List St) : sameSL L L = true := sameSL_at rfl fun j a b ha hb => by
  rw [ha] at hb; cases hb; exact sameSt_self a
def sameP (p q : Pg) : Bool := decide (p.vs = q.vs) && sameSL p.body q.body
theorem sameP_self (p : Pg) : sameP p p = true := by unfold sameP; rw [sameSL_self]; simp
theorem neq_of {a b : Int} (q : Bool) (h : (a == b) = q) : (a != b) = !q := by unfold bne; rw [h]
theorem sneq_of {a b : List UInt8} (q : Bool) (h : (a == b) = q) : (a != b) = !q := by unfold bne; rw [h]
end Go.Proofs.YtklcbagddijkgaaGreat.Gd

/- The model's EqualProgram and AssignedVars. -/
set_option maxRecDepth 100000
namespace Go.Proofs.YtklcbagddijkgaaGreat.Gd
open Go.RowKit Go.Lib Go.Sort Go.Proofs.YtklcbagddijkgaaGreat.Com Go.Proofs.YtklcbagddijkgaaGreat.Mem Go.Proofs.YtklcbagddijkgaaGreat.Os Go.Proofs.YtklcbagddijkgaaGreat.Ow Go.Proofs.YtklcbagddijkgaaGreat.Tr Go.Proofs.YtklcbagddijkgaaGreat.Nm Go.Proofs.YtklcbagddijkgaaGreat.C2

mutual
/-- the names that are assigned, as they are met -/
def asgSt : St → List (List UInt8)
  | .mk k s _ bs es => (if k = 1 then [s] else []) ++ asgL bs ++ asgL es
def asgL : List St → List (List UInt8)
  | [] => []
  | a :: r => asgSt a ++ asgL r
end
theorem asgL_take {L : List St} {m : Nat} (h : m < L.length) : asgL (L.take (m + 1)) = asgL (L.take m) ++ asgSt L[m] := by
  induction L generalizing m with
  | nil => simp at h
  | cons e r ih =>
    cases m with
    | zero => simp [asgL]
    | succ m =>
      simp only [List.take_succ_cons, asgL, List.getElem_cons_succ]
      rw [ih (by simpa using h), List.append_assoc]
theorem asgL_len : ∀ (N : Nat) (L : List St), cntL L = N → (asgL L).length ≤ cntL L := by
  intro N
  induction N using Nat.strongRecOn with
  | ind N ih =>
    intro L hN
    have hs : ∀ a ∈ L, (asgSt a).length ≤ cntSt a := fun a ha => by
      have hm := cntSt_mem ha
      obtain ⟨k, s, e, bs, es⟩ := a
      simp only [cntSt] at hm
      have h1 := ih (cntL bs) (by omega) bs rfl
      have h2 := ih (cntL es) (by omega) es rfl
      simp only [asgSt, cntSt, List.length_append]
      split <;> simp <;> omega
    clear ih hN
    induction L with
    | nil => simp [asgL]
    | cons a r ihr =>
      have h1 := hs a (by simp)
      have h2 := ihr fun b hb => hs b (by simp [hb])
      simp only [asgL, cntL, List.length_append]
      omega
set_option maxHeartbeats 4000000 in
theorem sasg : ∀ (N : Nat) (L : List St), cntL L = N → ∀ (lv : Value) (w0 w : World) (A : Option Addr) (c : Nat) (rows : Nat → List Value) (M : List (List UInt8)), Row w0 w0.heap.size 1 A (dl L) rows → Grow 9 w0 w lv (M.map sv) → M.length + cntL L ≤ 4000000 → L.length ≤ maxI →
    Calls Tryz.prog 35 #[.slice A L.length c, lv] w fun e w' => ∃ lv', e = .returned lv' ∧ Grow 9 w0 w' lv' ((M ++ asgL L).map sv) := by
  intro N
  induction N using Nat.strongRecOn with
  | ind N ih =>
    intro L hN lv w0 w A c rows M hk hg hbd hl
    have hl63 : L.length ≤ 9223372036854775807 := hl
    generalize hL : L.length = n at *
    go_enter Tryz.func35, Tryz.ntmps35
    go_wp2_with fail
    go_loopw [1, 5] (fun a i wr => ∃ m : Nat, m ≤ n ∧ i = .int .i64 m ∧ Grow 9 w0 wr a ((M ++ asgL (L.take m)).map sv)) (fun _ i _ => n - (Go.RowKit.intOf i).toNat)
    case atStart => exact ⟨0, Nat.zero_le _, rfl, by simpa [asgL] using hg⟩
    case round =>
      obtain ⟨m, hm, rfl, hga⟩ := hrel
      by_cases hlt : m < n
      · have hkr := hk.go hga.2
        obtain ⟨ad, k, s, e, bs, es, ek, en, en', A1, l1, c1, Bb, cb, C, cc, rb, rc, rfl, hB1, hT, hld, _, _, _, _, _, _⟩ := hkr.st (m := m) (by omega)
        obtain ⟨ad0, k0', s0, e0, bs0, es0, _, _, _, _, _, _, Bb0, cb0, C0, cc0, rb0, rc0, hA0, hB0, hT0, hld0, _, _, hrb0, hlb0, hrc0, hlc0⟩ := hk.st (m := m) (by omega)
        rw [hT] at hT0
        cases hT0
        cases hA0
        have hst := cntL_take (L := L) (m := m) (by omega)
        have hat := asgL_take (L := L) (m := m) (by omega)
        rw [hT] at hst hat
        have hle := cntL_le L (m + 1)
        have hal := asgL_len _ (L.take m) rfl
        simp only [cntSt] at hst
        simp only [asgSt] at hat
        have hba := asgL_len _ bs rfl
        /- the row's facts, in every later world -/
        have hldx := hid (fun wx (hb : Below w0.heap.size w0 wx) => ld8 (hld0.keep (w' := wx) fun p hp => hb.cell (by rw [hp, add_block]; exact hB0)))
        have cB := hid (fun lv wx (M' : List (List UInt8)) (hg : Grow 9 w0 wx lv (M'.map sv)) (hq : M'.length + cntL bs ≤ 4000000) => ih (cntL bs) (by omega) bs rfl lv w0 wx Bb0 cb0 rb0 M' hrb0 hg hq hlb0)
        have cC := hid (fun lv wx (M' : List (List UInt8)) (hg : Grow 9 w0 wx lv (M'.map sv)) (hq : M'.length + cntL es ≤ 4000000) => ih (cntL es) (by omega) es rfl lv w0 wx C0 cc0 rc0 M' hrc0 hg hq hlc0)
        clear hkr hld hT hk
        obtain ⟨q0, q1, -, -, -, -, q6, q7⟩ := hldx.out wr hga.2
        replace hga := hid hga
        by_cases h1 : k = 1
        · subst h1
          rw [if_pos rfl] at hat
          have hnx := hid (show M ++ asgL (L.take (m + 1)) = M ++ asgL (L.take m) ++ [s] ++ asgL bs ++ asgL es by rw [hat]; simp)
          have hb1 := hid (show (M ++ asgL (L.take m) ++ [s]).length + cntL bs ≤ 4000000 by simp only [List.length_append, List.length_singleton]; omega)
          have hb2 := hid (show (M ++ asgL (L.take m) ++ [s] ++ asgL bs).length + cntL es ≤ 4000000 by simp only [List.length_append, List.length_singleton]; omega)
          have hsm := hid (show ((M ++ asgL (L.take m)).map sv).length < 4000000 by simp only [List.length_map, List.length_append]; omega)
          clear hst hat hle hal hba
          go_wp2_with (at_builtin; refine hga.out.append strT (sv s) rfl (by have := hsm.out; omega) rfl _ _ rfl rfl rfl ?_; intro v1 w1 hg2 hgb _; have hg2 := hid hg2; obtain ⟨-, -, -, -, -, -, p6, p7⟩ := hldx.out w1 hg2.out.2; clear hgb q0 q1 q6 q7)
          have hg3 := hid (show Grow 9 w0 w1 v1 ((M ++ asgL (L.take m) ++ [s]).map sv) by simpa using hg2.out)
          refine (cB.out v1 w1 _ hg3.out hb1.out).mono ?_
          rintro e2 w2 ⟨lv2, rfl, hg4⟩
          obtain ⟨-, -, -, -, -, -, p6', p7'⟩ := hldx.out w2 hg4.2
          replace hg4 := hid hg4
          clear p6 p7
          go_wp2_with fail
          refine (cC.out lv2 w2 _ hg4.out hb2.out).mono ?_
          rintro e3 w3 ⟨lv3, rfl, hg5⟩
          replace hg5 := hid hg5
          go_wp2_with fail
          exact ⟨⟨m + 1, hlt, by go_num, by rw [hnx.out]; exact hg5.out⟩, by simp [Go.RowKit.intOf]; omega⟩
        · have t1 : (k == 1) = false := beq_false_of_ne h1
          rw [if_neg h1, List.nil_append] at hat
          have hnx := hid (show M ++ asgL (L.take (m + 1)) = M ++ asgL (L.take m) ++ asgL bs ++ asgL es by rw [hat]; simp)
          have hb1 := hid (show (M ++ asgL (L.take m)).length + cntL bs ≤ 4000000 by simp only [List.length_append]; omega)
          have hb2 := hid (show (M ++ asgL (L.take m) ++ asgL bs).length + cntL es ≤ 4000000 by simp only [List.length_append]; omega)
          clear hst hat hle hal hba h1
          go_wp2_with fail
          refine (cB.out _ wr _ hga.out hb1.out).mono ?_
          rintro e2 w2 ⟨lv2, rfl, hg4⟩
          obtain ⟨-, -, -, -, -, -, p6', p7'⟩ := hldx.out w2 hg4.2
          replace hg4 := hid hg4
          clear q0 q1 q6 q7
          go_wp2_with fail
          refine (cC.out lv2 w2 _ hg4.out hb2.out).mono ?_
          rintro e3 w3 ⟨lv3, rfl, hg5⟩
          replace hg5 := hid hg5
          go_wp2_with fail
          exact ⟨⟨m + 1, hlt, by go_num, by rw [hnx.out]; exact hg5.out⟩, by simp [Go.RowKit.intOf]; omega⟩
      · obtain rfl : m = n := by omega
        have hf := hid (show M ++ asgL (L.take m) = M ++ asgL L by rw [List.take_of_length_le (by omega)])
        replace hga := hid hga
        go_wp2_with fail
        go_ret
        exact ⟨_, rfl, by rw [← hf.out]; exact hga.out⟩
set_option maxHeartbeats 2000000 in
theorem sassigned (L : List St) (hcn : cntL L ≤ 2000000) (hl : L.length ≤ maxI) (A : Option Addr) (c : Nat) (rows : Nat → List Value) (w : World) (hk : Row w w.heap.size 1 A (dl L) rows) :
    Calls Tryz.prog 16 #[.slice A L.length c] w fun e w' => ∃ r, e = .returned r ∧ OwnS w.heap.size w'.heap.size w' r (sortU (asgL L)) ∧ Below w.heap.size w w' := by
  have hg := Grow.lit0 9 w
  have hcl := hid (sasg _ L rfl _ _ _ A c rows [] hk hg (by simp; omega) hl)
  have hlen := hid (asgL_len _ L rfl)
  clear hk hg
  go_enter Tryz.func16, Tryz.ntmps16
  go_wp2_with fail
  refine hcl.out.mono ?_
  rintro e w2 ⟨lv, rfl, hg⟩
  rw [List.nil_append] at hg
  have hb2 := hid hg.2
  obtain ⟨A2, c2, rfl, _, _, hrd, _⟩ := hg.len
  rw [List.length_map]
  have hso := hid (ssort_any A2 c2 (asgL L) w2 hrd (by have := hlen.out; omega))
  clear hg hrd hcl
  go_wp2_with fail
  refine hso.out.mono ?_
  rintro e w3 ⟨r, rfl, hg3⟩
  have hg3 := hid hg3
  go_wp2_with fail
  go_ret
  exact ⟨_, rfl, (Own.of_grow hg3.out).mono hb2.out.size (Nat.le_refl _), hb2.out.trans (hg3.out.2.mono hb2.out.size)⟩
end Go.Proofs.YtklcbagddijkgaaGreat.Gd
