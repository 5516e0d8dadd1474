/- The model's reader of tokens: which operator comes; names. -/
import Derived.Test.YteenkdplpalofaaGreatDoorZC6b
set_option maxRecDepth 100000
namespace Go.Proofs.YteenkdplpalofaaGreatDoor.Tk
open Go.RowKit Go.Lib Go.Sort Go.Proofs.YteenkdplpalofaaGreatDoor.Num Go.Proofs.YteenkdplpalofaaGreatDoor.Com Go.Proofs.YteenkdplpalofaaGreatDoor.Mem Go.Proofs.YteenkdplpalofaaGreatDoor.Os Go.Proofs.YteenkdplpalofaaGreatDoor.Tr

theorem opsOf_few (l : Nat) : (opsOf l).length ≤ 8 := by
  unfold opsOf
  split <;> simp
/-- the first of these operators whose symbol is seen -/
def fop (f : List UInt8 → Bool) (ks : List Int) : Int := (ks.find? fun op => f (C3.symL op)).getD 0
theorem fop_none {f : List UInt8 → Bool} {ks : List Int} (h : ∀ j (hj : j < ks.length), f (C3.symL ks[j]) = false) : fop f ks = 0 := by
  unfold fop
  rw [List.find?_eq_none.2 (fun x hx => by
    obtain ⟨j, hj, rfl⟩ := List.getElem_of_mem hx
    simp [h j hj])]
  rfl
theorem fop_at {f : List UInt8 → Bool} {ks : List Int} {j : Nat} (hj : j < ks.length) (h : ∀ m (hm : m < ks.length), m < j → f (C3.symL ks[m]) = false) (hs : f (C3.symL ks[j]) = true) : fop f ks = ks[j] := by
  unfold fop
  have e : ks = ks.take j ++ (ks[j] :: ks.drop (j + 1)) := by rw [List.getElem_cons_drop, List.take_append_drop]
  have : ks.find? (fun op => f (C3.symL op)) = some ks[j] := by
    conv => lhs; rw [e]
    rw [List.find?_append, List.find?_eq_none.2 (fun x hx => by
      obtain ⟨m, hm, rfl⟩ := List.getElem_of_mem hx
      rw [List.length_take] at hm
      rw [List.getElem_take]
      simp [h m (by omega) (by omega)]), List.find?_cons_of_pos (p := fun op => f (C3.symL op)) hs]
    rfl
  rw [this]; rfl
theorem fop_snoc {f : List UInt8 → Bool} {ks : List Int} {m : Nat} (hm : m < ks.length) (h : ∀ j (hj : j < ks.length), j < m → f (C3.symL ks[j]) = false) (hs : f (C3.symL ks[m]) = false) : ∀ j (hj : j < ks.length), j < m + 1 → f (C3.symL ks[j]) = false := fun j hj h2 => by
  by_cases e : j = m
  · subst e; exact hs
  · exact h j hj (by omega)
theorem fop_sees (ts : List Tok) (l i : Nat) : fop (seesB ts i) (opsOf l) = opAt ts l i := rfl
theorem fop_no (l : Nat) : fop (fun _ => false) (opsOf l) = 0 := fop_none fun _ _ => rfl
set_option maxHeartbeats 1000000 in
theorem mop_gen (f : List UInt8 → Bool) (g : Nat) (A : Option Addr) (c : Nat) (ts : List Tok) (en i : Nat) (bad : Int) (l : Nat) (h1 : 1 ≤ l) (h5 : l ≤ 5) (w : World) (h : Rdr w g A c ts en i bad)
    (hs : ∀ s w1, Rdr w1 g A c ts en i bad → Calls Tryz.prog 64 #[.pointer (some ⟨g, 0, none⟩), .string ⟨s.toArray⟩] w1 fun e w' => e = .returned (.bool (f s)) ∧ Below w1.heap.size w1 w') :
    Calls Tryz.prog 39 #[.pointer (some ⟨g, 0, none⟩), .int .i64 (l : Nat)] w fun e w' => e = .returned (.int .i64 (fop f (opsOf l))) ∧ Below w.heap.size w w' := by
  have hlv : Calls Tryz.prog 66 #[] w fun e w' => ∃ B b, e = .returned (.slice (some ⟨B, 0, none⟩) 6 6) ∧ Below w.heap.size w w' ∧ w'.cell? ⟨B, l, none⟩ = some (.slice (some ⟨b, 0, none⟩) (opsOf l).length (opsOf l).length) ∧ Rd w' w'.heap.size (some ⟨b, 0, none⟩) ((opsOf l).map (Value.int .i64)) ∧ w.heap.size ≤ b :=
    (levs_any w).mono fun e w' ⟨B, he, hb, hr⟩ => by
      obtain ⟨b, h⟩ := hr l h1 h5
      exact ⟨B, b, he, hb, h⟩
  have h8 := opsOf_few l
  generalize opsOf l = ks at *
  have hlv := hid hlv
  have hs := hid hs
  have h := hid h
  go_enter Tryz.func39, Tryz.ntmps39
  go_wp2_with fail
  refine hlv.out.mono ?_
  rintro e w1 ⟨B, b, rfl, hb1, hc, hrd, hbb⟩
  have hb1 := hid hb1
  have hrd := hid hrd
  clear hlv
  go_wp2_with fail
  go_loopw [6] (fun x wr => ∃ m : Nat, m ≤ ks.length ∧ x = .int .i64 m ∧ (∀ j (hj : j < ks.length), j < m → f (C3.symL ks[j]) = false) ∧ Below w1.heap.size w1 wr) (fun x _ => ks.length - (Go.RowKit.intOf x).toNat)
  case atStart => exact ⟨0, Nat.zero_le _, rfl, fun j _ h => absurd h (Nat.not_lt_zero _), Below.refl _ _⟩
  case round =>
    obtain ⟨m, hm, rfl, hno, hb⟩ := hrel
    have hno := hid hno
    have hp := hid (h.out.below (hb1.out.trans (hb.mono hb1.out.size)))
    by_cases hlt : m < ks.length
    · have t1 : decide ((m : Int) < (ks.length : Int)) = true := decide_eq_true (by omega)
      obtain ⟨ad, e0, _, hcm⟩ := (hrd.out.below hb).at_ (k := m) (by simpa using hlt)
      cases e0
      rw [List.getElem_map, Os.add_zero] at hcm
      have hsy := hid (fun w => C3.ssymbol_any ks[m] w)
      have hse := hid (fun w1 h1 => hs.out (C3.symL ks[m]) w1 h1)
      have hat := hid (fun hs => fop_at hlt hno.out hs)
      have hnx := hid (fop_snoc hlt hno.out)
      generalize C3.symL ks[m] = S at *
      generalize hK : ks[m] = K at *
      have hb := hid hb
      go_wp2_with fail
      refine (hsy.out _).mono ?_
      rintro e w2 ⟨rfl, hb2⟩
      have hp2 := hid (hp.out.below hb2)
      have hb2 := hid (hb.out.trans (hb2.mono hb.out.size))
      go_wp2_with fail
      refine (hse.out _ hp2.out).mono ?_
      rintro e w3 ⟨rfl, hb3⟩
      have hcm3 := (hrd.out.below (hb2.out.trans (hb3.mono hb2.out.size))).at_ (k := m) (by simpa using hlt)
      obtain ⟨ad, e0, _, hcm3⟩ := hcm3
      cases e0
      rw [List.getElem_map, Os.add_zero, hK] at hcm3
      have hb3 := hid (hb2.out.trans (hb3.mono hb2.out.size))
      cases hq : f S with
      | false =>
        have hn2 := hid (hnx.out hq)
        go_wp2_with fail
        exact ⟨⟨m + 1, hlt, by go_num, hn2.out, hb3.out⟩, by simp [Go.RowKit.intOf]; omega⟩
      | true =>
        have ha := hid (hat.out hq)
        go_wp2_with fail
        go_ret
        rw [ha.out]
        exact ⟨rfl, hb1.out.trans (hb3.out.mono hb1.out.size)⟩
    · obtain rfl : m = ks.length := by omega
      have t1 : decide ((ks.length : Int) < (ks.length : Int)) = false := decide_eq_false (by omega)
      have ha := hid (fop_none (fun j hj => hno.out j hj hj))
      have hb := hid hb
      go_wp2_with fail
      go_ret
      rw [ha.out]
      exact ⟨rfl, hb1.out.trans (hb.out.mono hb1.out.size)⟩
/-- token number i is a name -/
def nameB (t : Tok) : Bool := decide (t.k = 1) && C2.validB t.s
set_option maxHeartbeats 1000000 in
theorem misName_any (g : Nat) (A : Option Addr) (c : Nat) (ts : List Tok) (en i : Nat) (w : World) (h : Rdr w g A c ts en i (-1)) (hlt : i < ts.length) (hsl : ts[i].s.length ≤ 400) :
    Calls Tryz.prog 96 #[.pointer (some ⟨g, 0, none⟩)] w fun e w' => e = .returned (.bool (nameB ts[i])) ∧ Below w.heap.size w w' := by
  obtain ⟨c0, c1, c2, c3⟩ := h.cells
  obtain ⟨ad, rfl, k0, k1, k2, k3⟩ := rd_at h hlt
  have hiw := fun w => C2.svalid_any ts[i].s w (by omega)
  have t1 : decide ((i : Int) < (ts.length : Int)) = true := decide_eq_true (by omega)
  generalize ts[i] = t at *
  obtain ⟨tk, tn, tp, tx⟩ := t
  dsimp only at k0 k1 k2 k3 hiw
  unfold nameB
  dsimp only
  replace c0 := cell_regrown c0
  replace c1 := cell_regrown c1
  replace c3 := cell_regrown c3
  replace k0 := cell_regrown k0
  replace k3 := cell_regrown k3
  clear h c2 k1 k2
  by_cases hk : tk = 1
  · subst hk
    rw [decide_eq_true rfl, Bool.true_and]
    generalize C2.validB tx = b at *
    cases b
    all_goals
      have cM := hid (fun (d : Nat) (os : Array Obj) => Calls.regrown_of (d := d) (os := os) (hiw (grow (redrawn w d) os)))
      clear hiw
      go_enter Tryz.func96, Tryz.ntmps96
      go_wp2_with fail
      refine wp_region_quiet_below (by kernel_rfl) (by kernel_rfl) ?_
      repeat (go_big_quiet_step (exact cM.out _ _))
      refine wpQuiet_nil ?_
      intro _ hw'
      obtain ⟨⟨dq, osq⟩, hw''⟩ := hw'
      subst hw''
      have hq := hid (below_regrown w dq osq)
      clear c0 c1 c3 k0 k3 cM
      generalize grow (redrawn w dq) osq = wq at *
      go_wp2_with fail
      go_ret
      exact ⟨rfl, hq.out⟩
  · rw [decide_eq_false hk, Bool.false_and]
    have tk1 : (tk == 1) = false := beq_false_of_ne hk
    clear hiw
    go_enter Tryz.func96, Tryz.ntmps96
    go_wp2_with fail
    refine wp_region_quiet_below (by kernel_rfl) (by kernel_rfl) ?_
    repeat (go_big_quiet_step (fail))
    refine wpQuiet_nil ?_
    intro _ hw'
    obtain ⟨⟨dq, osq⟩, hw''⟩ := hw'
    subst hw''
    have hq := hid (below_regrown w dq osq)
    clear c0 c1 c3 k0 k3
    generalize grow (redrawn w dq) osq = wq at *
    go_wp2_with fail
    go_ret
    exact ⟨rfl, hq.out⟩
end Go.Proofs.YteenkdplpalofaaGreatDoor.Tk
