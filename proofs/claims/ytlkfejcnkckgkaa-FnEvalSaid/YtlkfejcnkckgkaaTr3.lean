/- Expressions as trees: compared. -/
import Derived.Test.YtlkfejcnkckgkaaTr2
set_option maxRecDepth 100000
namespace Go.Proofs.Ytlkfejcnkckgkaa.Tr
open Go.RowKit Go.Lib Go.Sort Go.Proofs.Ytlkfejcnkckgkaa.Com Go.Proofs.Ytlkfejcnkckgkaa.Mem

mutual
def eqT : T → T → Bool
  | .mk k n s ks, .mk k' n' s' ks' => (k == k') && ((n == n') && ((s == s') && eqL ks ks'))
def eqL : List T → List T → Bool
  | [], [] => true
  | a :: r, b :: q => eqT a b && eqL r q
  | [], _ :: _ => false
  | _ :: _, [] => false
end
theorem eqL_len : ∀ {xs bs : List T}, eqL xs bs = true → xs.length = bs.length
  | [], [], _ => rfl
  | a :: r, b :: q, h => by
    rw [eqL, Bool.and_eq_true] at h
    simp [eqL_len h.2]
  | [], _ :: _, h => by rw [eqL] at h; cases h
  | _ :: _, [], h => by rw [eqL] at h; cases h
theorem eqL_at : ∀ {xs bs : List T}, xs.length = bs.length → (∀ (j : Nat) (a b : T), xs[j]? = some a → bs[j]? = some b → eqT a b = true) → eqL xs bs = true
  | [], [], _, _ => by rw [eqL]
  | a :: r, b :: q, hl, h => by
    rw [eqL, Bool.and_eq_true]
    exact ⟨h 0 a b rfl rfl, eqL_at (by simpa using hl) fun j x y hx hy => h (j + 1) x y (by simpa using hx) (by simpa using hy)⟩
  | [], _ :: _, hl, _ => by simp at hl
  | _ :: _, [], hl, _ => by simp at hl
theorem eqL_of : ∀ {xs bs : List T}, eqL xs bs = true → ∀ (j : Nat) (a b : T), xs[j]? = some a → bs[j]? = some b → eqT a b = true
  | [], _, _, j, a, b, ha, _ => by simp at ha
  | a :: r, b :: q, h, j, x, y, hx, hy => by
    rw [eqL, Bool.and_eq_true] at h
    cases j with
    | zero => simp at hx hy; subst hx; subst hy; exact h.1
    | succ j => exact eqL_of h.2 j x y (by simpa using hx) (by simpa using hy)
  | _ :: _, [], h, _, _, _, _, hy => by simp at hy
theorem eqL_not {xs bs : List T} {j : Nat} {a b : T} (ha : xs[j]? = some a) (hb : bs[j]? = some b) (h : eqT a b = false) : eqL xs bs = false := by
  cases hq : eqL xs bs with
  | false => rfl
  | true => rw [eqL_of hq j a b ha hb] at h; cases h
theorem eqL_nl {xs bs : List T} (h : xs.length ≠ bs.length) : eqL xs bs = false := by
  cases hq : eqL xs bs with
  | false => rfl
  | true => exact absurd (eqL_len hq) h
theorem eqT_mk (k n k' n' : Int) (s s' : List UInt8) (ks ks' : List T) : eqT (.mk k n s ks) (.mk k' n' s' ks') = ((k == k') && ((n == n') && ((s == s') && eqL ks ks'))) := by rw [eqT]
theorem eqT_self (t : T) : eqT t t = true := by
  induction t using T.ind with
  | h k n s ks ih =>
    rw [eqT_mk]
    have : eqL ks ks = true := eqL_at rfl fun j a b ha hb => by
      rw [ha] at hb; cases hb
      exact ih a (List.mem_of_getElem? ha)
    simp [this]

/-- what a comparison's loop says of the kids that were looked at -/
theorem eqL_all {xs bs : List T} {N : Nat} (h1 : xs.length = N) (h2 : bs.length = N) (h : ∀ j, j < N → ∀ (a b : T), xs[j]? = some a → bs[j]? = some b → eqT a b = true) : eqL xs bs = true :=
  eqL_at (h1.trans h2.symm) fun j a b ha hb => h j (by
    rcases Nat.lt_or_ge j xs.length with hl | hl
    · omega
    · rw [List.getElem?_eq_none hl] at ha; cases ha) a b ha hb

/-- what eqExpr promises: true, of values that read as the same -/
def EqE (t : T) : Prop := ∀ (v v' : Value) (w : World), Ex w w.heap.size v t → Ex w w.heap.size v' t → Calls Try.prog 30 #[v, v'] w fun e w' => e = .returned (.bool true) ∧ Below w.heap.size w w'
set_option maxHeartbeats 2000000 in
theorem eqES (ks : List T) (ih : ∀ a ∈ ks, EqE a) (A A' : Option Addr) (c c' : Nat) (vs vs' : Nat → Value) (w : World) (hk : Kids w w.heap.size A ks vs) (hk' : Kids w w.heap.size A' ks vs') (hl : ks.length ≤ 9223372036854775807) :
    Calls Try.prog 59 #[.slice A ks.length c, .slice A' ks.length c'] w fun e w' => e = .returned (.bool true) ∧ Below w.heap.size w w' := by
  generalize hL : ks.length = N at *
  have hcmp : ((N : Int) != (N : Int)) = false := bne_self_eq_false _
  go_enter Try.func59, Try.ntmps59
  go_wp2_with fail
  go_loopw [5] (fun i wr => ∃ m : Nat, m ≤ N ∧ i = .int .i64 m ∧ Below w.heap.size w wr) (fun i _ => N - (Go.RowKit.intOf i).toNat)
  case atStart => exact ⟨0, Nat.zero_le _, rfl, Below.refl _ _⟩
  case round =>
    obtain ⟨m, hm, rfl, hb⟩ := hrel
    by_cases hlt : m < N
    · have hkr := hk.go hb
      have hkr' := hk'.go hb
      obtain ⟨ad, rfl, _, c0, c1, c2, c3, e1, k0, k1, k2, k3⟩ := hkr.cell m (by omega)
      obtain ⟨ad', rfl, _, d0, d1, d2, d3, e2, l0, l1, l2, l3⟩ := hkr'.cell m (by omega)
      have hu : ks[m]? = some ks[m] := List.getElem?_eq_getElem (by omega)
      have x1 := hkr.kid m _ hu
      have x2 := hkr'.kid m _ hu
      rw [e1] at x1
      rw [e2] at x2
      have hih := ih ks[m] (List.getElem_mem _)
      have cE := hid (fun (d : Nat) (os : Array Obj) => Calls.regrown_of (d := d) (os := os) (hih _ _ (grow (redrawn wr d) os) (x1.go (below_regrown wr d os)) (x2.go (below_regrown wr d os))))
      replace k0 := cell_regrown k0
      replace k1 := cell_regrown k1
      replace k2 := cell_regrown k2
      replace k3 := cell_regrown k3
      replace l0 := cell_regrown l0
      replace l1 := cell_regrown l1
      replace l2 := cell_regrown l2
      replace l3 := cell_regrown l3
      replace hb := hid hb
      clear hkr hkr' x1 x2 hu e1 e2 hih
      go_wp2_with fail
      refine wp_region_quiet_below (by kernel_rfl) (by kernel_rfl) ?_
      repeat (quiet_step (exact cE.out _ _))
      refine wpQuiet_nil ?_
      intro _ hw'
      obtain ⟨⟨dq, osq⟩, hw''⟩ := hw'
      subst hw''
      have hq := hid (hb.out.trans ((below_regrown wr dq osq).mono hb.out.size))
      clear k0 k1 k2 k3 l0 l1 l2 l3 cE hb
      generalize grow (redrawn wr dq) osq = wq at *
      go_wp2_with fail
      exact ⟨⟨m + 1, hlt, by go_num, hq.out⟩, by simp [Go.RowKit.intOf]; omega⟩
    · obtain rfl : m = N := by omega
      go_wp2_with fail
      go_ret
      exact ⟨rfl, hb⟩
set_option maxHeartbeats 1000000 in
theorem eqE (t : T) : EqE t := by
  induction t using T.ind with
  | h k n s ks ih =>
    intro v v' w hv hv'
    obtain ⟨A, c, vs, rfl, hs, hl, hk⟩ := hv.kids
    obtain ⟨A', c', vs', rfl, _, _, hk'⟩ := hv'.kids
    have n1 : (k != k) = false := bne_self_eq_false _
    have n2 : (n != n) = false := bne_self_eq_false _
    have n3 : (s != s) = false := bne_self_eq_false _
    have s1 := size_alloc' w (.cells #[.int .i64 k, .int .i64 n, sv s, .slice A ks.length c] 26)
    have hb1 := box_below w (.cells #[.int .i64 k, .int .i64 n, sv s, .slice A ks.length c] 26)
    have hb2 := hb1.trans ((box_below (w.alloc (.cells #[.int .i64 k, .int .i64 n, sv s, .slice A ks.length c] 26)) (.cells #[.int .i64 k, .int .i64 n, sv s, .slice A' ks.length c'] 26)).mono (by omega))
    have hcl := hid (eqES ks ih A A' c c' vs vs' _ (hk.go hb2) (hk'.go hb2) hl)
    replace hb2 := hid hb2
    clear hk hk' hb1 s1 hv hv'
    go_enter Try.func30, Try.ntmps30
    go_wp2_with fail
    refine hcl.out.mono ?_
    rintro e w2 ⟨rfl, hb3⟩
    have hb3 := hid (hb2.out.trans (hb3.mono hb2.out.size))
    go_wp2_with fail
    go_ret
    exact ⟨rfl, hb3.out⟩
/-- what the comparison promises -/
def EqS (t : T) : Prop := ∀ (t' : T) (v v' : Value) (w : World), Ex w w.heap.size v t → Ex w w.heap.size v' t' → Calls Try.prog 32 #[v, v'] w fun e w' => e = .returned (.bool (eqT t t')) ∧ Below w.heap.size w w'
set_option maxHeartbeats 4000000 in
theorem eqS_loop (k n : Int) (s : List UInt8) (ks ks' : List T) (ih : ∀ a ∈ ks, EqS a) (A A' : Option Addr) (c c' : Nat) (vs vs' : Nat → Value) (w : World) (hk : Kids w w.heap.size A ks vs) (hk' : Kids w w.heap.size A' ks' vs') (hl : ks.length ≤ 9223372036854775807)
    (hlen : ks.length = ks'.length) :
    Calls Try.prog 32 #[nv k n s A ks.length c, nv k n s A' ks.length c'] w fun e w' => e = .returned (.bool (eqL ks ks')) ∧ Below w.heap.size w w' := by
  have n1 : (k != k) = false := bne_self_eq_false _
  have n2 : (n != n) = false := bne_self_eq_false _
  have n3 : (s != s) = false := bne_self_eq_false _
  have s1 := size_alloc' w (.cells #[.int .i64 k, .int .i64 n, sv s, .slice A ks.length c] 26)
  have hB1 := box_blk w k n s A ks.length c 26
  have hb1 := box_below w (.cells #[.int .i64 k, .int .i64 n, sv s, .slice A ks.length c] 26)
  have hB2 := box_blk (w.alloc (.cells #[.int .i64 k, .int .i64 n, sv s, .slice A ks.length c] 26)) k n s A' ks.length c' 26
  have hb2 := hb1.trans ((box_below (w.alloc (.cells #[.int .i64 k, .int .i64 n, sv s, .slice A ks.length c] 26)) (.cells #[.int .i64 k, .int .i64 n, sv s, .slice A' ks.length c'] 26)).mono (by omega))
  replace hB1 := hB1.alloc (.cells #[.int .i64 k, .int .i64 n, sv s, .slice A' ks.length c'] 26)
  rw [s1] at hB2
  have hk1 := hk.go hb2
  have hk2 := hk'.go hb2
  replace hb2 := hid hb2
  have hlen' : ks'.length = ks.length := hlen.symm
  generalize hL : ks.length = N at *
  have hcmp : ((N : Int) != (N : Int)) = false := bne_self_eq_false _
  clear hk hk' hb1 s1 hlen
  replace hB1 := hid hB1
  replace hB2 := hid hB2
  replace hk1 := hid hk1
  replace hk2 := hid hk2
  go_enter Try.func32, Try.ntmps32
  go_wp2_with fail
  generalize ((w.alloc (.cells #[.int .i64 k, .int .i64 n, sv s, .slice A N c] 26)).alloc (.cells #[.int .i64 k, .int .i64 n, sv s, .slice A' N c'] 26)) = w1 at *
  go_loopw [5] (fun i wr => ∃ m : Nat, m ≤ N ∧ i = .int .i64 m ∧ (∀ j, j < m → ∀ (a b : T), ks[j]? = some a → ks'[j]? = some b → eqT a b = true) ∧ Below w1.heap.size w1 wr) (fun i _ => N - (Go.RowKit.intOf i).toNat)
  case atStart => exact ⟨0, Nat.zero_le _, rfl, fun j hj => by omega, Below.refl _ _⟩
  case round =>
    obtain ⟨m, hm, rfl, hall, hb⟩ := hrel
    have b1 := (hB1.out.below hb hB1.out.lt).cell 3
    have b2 := (hB2.out.below hb hB2.out.lt).cell 3
    replace hall := hid hall
    by_cases hlt : m < N
    · have hkr := hk1.out.go hb
      have hkr' := hk2.out.go hb
      obtain ⟨ad, rfl, _, c0, c1, c2, c3, e1, k0, k1, k2, k3⟩ := hkr.cell m (by omega)
      obtain ⟨ad', rfl, _, d0, d1, d2, d3, e2, l0, l1, l2, l3⟩ := hkr'.cell m (by omega)
      have hu : ks[m]? = some ks[m] := List.getElem?_eq_getElem (by omega)
      have hu' : ks'[m]? = some ks'[m] := List.getElem?_eq_getElem (by omega)
      have x1 := hkr.kid m _ hu
      have x2 := hkr'.kid m _ hu'
      rw [e1] at x1
      rw [e2] at x2
      have hih := ih ks[m] (List.getElem_mem _) ks'[m]
      have cE := hid (fun (d : Nat) (os : Array Obj) => Calls.regrown_of (d := d) (os := os) (hih _ _ (grow (redrawn wr d) os) (x1.go (below_regrown wr d os)) (x2.go (below_regrown wr d os))))
      have b1' : wr.cell? ⟨w.heap.size, 3, none⟩ = some (.slice (some ad) N c) := b1
      have b2' : wr.cell? ⟨w.heap.size + 1, 3, none⟩ = some (.slice (some ad') N c') := b2
      have g1 := cell_regrown b1'
      have g2 := cell_regrown b2'
      replace k0 := cell_regrown k0
      replace k1 := cell_regrown k1
      replace k2 := cell_regrown k2
      replace k3 := cell_regrown k3
      replace l0 := cell_regrown l0
      replace l1 := cell_regrown l1
      replace l2 := cell_regrown l2
      replace l3 := cell_regrown l3
      replace hb := hid hb
      have hnext := hid (fun (he : eqT ks[m] ks'[m] = true) (j : Nat) (hj : j < m + 1) (a b : T) (ha : ks[j]? = some a) (hb : ks'[j]? = some b) => show eqT a b = true from by
        by_cases hjm : j = m
        · subst hjm
          rw [hu] at ha; rw [hu'] at hb; cases ha; cases hb; exact he
        · exact hall.out j (by omega) a b ha hb)
      have hstop := hid (fun (he : eqT ks[m] ks'[m] = false) => eqL_not hu hu' he)
      clear hkr hkr' x1 x2 hu hu' e1 e2 hih b1 b2
      go_wp2_with fail
      refine wp_region_quiet_below (by kernel_rfl) (by kernel_rfl) ?_
      repeat (quiet_step (exact cE.out _ _))
      refine wpQuiet_nil ?_
      intro _ hw'
      obtain ⟨⟨dq, osq⟩, hw''⟩ := hw'
      subst hw''
      have hq := hid (hb.out.trans ((below_regrown wr dq osq).mono hb.out.size))
      clear k0 k1 k2 k3 l0 l1 l2 l3 cE hb g1 g2 b1' b2'
      generalize grow (redrawn wr dq) osq = wq at *
      cases he : eqT ks[m] ks'[m] with
      | true =>
        have hn := hid (hnext.out he)
        go_wp2_with fail
        exact ⟨⟨m + 1, hlt, by go_num, hn.out, hq.out⟩, by simp [Go.RowKit.intOf]; omega⟩
      | false =>
        have hst := hid (hstop.out he)
        go_wp2_with fail
        go_ret
        exact ⟨by rw [hst.out]; rfl, hb2.out.trans (hq.out.mono hb2.out.size)⟩
    · obtain rfl : m = N := by omega
      have hf := hid (eqL_all hL hlen' hall.out)
      replace hb := hid hb
      go_wp2_with fail
      go_ret
      exact ⟨by rw [hf.out]; rfl, hb2.out.trans (hb.out.mono hb2.out.size)⟩
set_option maxHeartbeats 2000000 in
theorem eqS_not (k n k' n' : Int) (s s' : List UInt8) (l l' : Nat) (A A' : Option Addr) (c c' : Nat) (w : World) (h : ¬ (k = k' ∧ n = n' ∧ s = s' ∧ l = l')) :
    Calls Try.prog 32 #[nv k n s A l c, nv k' n' s' A' l' c'] w fun e w' => e = .returned (.bool false) ∧ Below w.heap.size w w' := by
  have s1 := size_alloc' w (.cells #[.int .i64 k, .int .i64 n, sv s, .slice A l c] 26)
  have hb1 := box_below w (.cells #[.int .i64 k, .int .i64 n, sv s, .slice A l c] 26)
  have hb2 := hid (hb1.trans ((box_below (w.alloc (.cells #[.int .i64 k, .int .i64 n, sv s, .slice A l c] 26)) (.cells #[.int .i64 k', .int .i64 n', sv s', .slice A' l' c'] 26)).mono (by omega)))
  clear s1 hb1
  by_cases h1 : k = k'
  · subst h1
    have n1 : (k != k) = false := bne_self_eq_false _
    by_cases h2 : n = n'
    · subst h2
      have n2 : (n != n) = false := bne_self_eq_false _
      by_cases h3 : s = s'
      · subst h3
        have n3 : (s != s) = false := bne_self_eq_false _
        have h4 : ((l : Int) != (l' : Int)) = true := by
          rw [bne_iff_ne]; intro e; exact h ⟨rfl, rfl, rfl, by omega⟩
        clear h
        go_enter Try.func32, Try.ntmps32
        go_wp2_with fail
        go_ret
        exact ⟨rfl, hb2.out⟩
      · have n3 : (s == s') = false := beq_eq_false_iff_ne.2 h3
        clear h h3
        go_enter Try.func32, Try.ntmps32
        go_wp2_with fail
        go_ret
        exact ⟨rfl, hb2.out⟩
    · have n2 : (n != n') = true := bne_iff_ne.2 h2
      clear h h2
      go_enter Try.func32, Try.ntmps32
      go_wp2_with fail
      go_ret
      exact ⟨rfl, hb2.out⟩
  · have n1 : (k != k') = true := bne_iff_ne.2 h1
    clear h h1
    go_enter Try.func32, Try.ntmps32
    go_wp2_with fail
    go_ret
    exact ⟨rfl, hb2.out⟩
theorem eqT_no {k n k' n' : Int} {s s' : List UInt8} {ks ks' : List T} (h : ¬ (k = k' ∧ n = n' ∧ s = s' ∧ ks.length = ks'.length)) : eqT (.mk k n s ks) (.mk k' n' s' ks') = false := by
  rw [eqT_mk]
  cases hq : ((k == k') && ((n == n') && ((s == s') && eqL ks ks'))) with
  | false => rfl
  | true =>
    simp only [Bool.and_eq_true, beq_iff_eq] at hq
    exact absurd ⟨hq.1, hq.2.1, hq.2.2.1, eqL_len hq.2.2.2⟩ h
theorem eqS (t : T) : EqS t := by
  induction t using T.ind with
  | h k n s ks ih =>
    intro t' v v' w hv hv'
    obtain ⟨k', n', s', ks'⟩ := t'
    obtain ⟨A, c, vs, rfl, hs, hl, hk⟩ := hv.kids
    obtain ⟨A', c', vs', rfl, _, _, hk'⟩ := hv'.kids
    by_cases h : k = k' ∧ n = n' ∧ s = s' ∧ ks.length = ks'.length
    · obtain ⟨rfl, rfl, rfl, hlen⟩ := h
      have e : eqT (.mk k n s ks) (.mk k n s ks') = eqL ks ks' := by rw [eqT_mk]; simp
      rw [e, ← hlen]
      exact eqS_loop k n s ks ks' ih A A' c c' vs vs' w hk hk' hl hlen
    · rw [eqT_no h]
      exact eqS_not k n k' n' s s' _ _ A A' c c' w h
end Go.Proofs.Ytlkfejcnkckgkaa.Tr
