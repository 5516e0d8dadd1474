/- The program's RunProgram and Terminates. -/
import Derived.Test.YtnmomlaimffonaaGreatZI12
import Derived.Test.YtnmomlaimffonaaGreatZM13
import Derived.Test.YtnmomlaimffonaaGreatZXi
import Derived.Lib.SliceRun
set_option maxHeartbeats 8000000
set_option maxRecDepth 100000
namespace Go.Proofs.YtnmomlaimffonaaGreat.Rn
open Go.RowKit Go.Lib Go.Sort Com Mem YtnmomlaimffonaaGreat.Os Ow Tr Pl Gd C2 C3 Oc Gs Kd Sr
theorem iAll {V : List (List UInt8)} {AV : Option Addr} {cV f base g lo hi : Nat} (hbg : base ≤ g) (hbl : base ≤ lo) (hbh : base ≤ hi) (hf : f ≤ 400) (hnv : V.length ≤ maxI) (hA : Base AV) (n : Nat) : ISts V AV cV f base g lo hi n := by
  have key : ∀ n, ISt V AV cV f base g lo hi n := fun n => by
    induction n using Nat.strongRecOn with
    | ind n ih => exact iStmt hbg hbl hbh hf hnv hA ih
  exact iStmts hbg (key n)
theorem ist_run {r : Int} (h : r = 1 ∨ r = 2 ∨ r = 3) : ist (if r = 1 then 0 else r) = r := by
  rcases h with rfl | rfl | rfl <;> rfl
theorem clone_any (A : Option Addr) (c : Nat) (l : List Int) (w : World) (h : Rd w w.heap.size A (l.map iv)) (hN : A = none → l.length = 0 ∧ c = 0) (hl : l.length ≤ 1048576) :
    Calls Tryz.prog 32 #[.slice A l.length c] w fun e w' => ∃ v, e = .returned v ∧ Grow 3 w w' v (l.map iv) := by
  have q22 : ∀ (w : World) (a : Option Addr) (n c n' c' : Nat), (binOp .eql 28 (.slice a n c) (.slice none n' c')).run Tryz.prog w = .ok (.bool a.isNone) w := fun w a n c n' c' => Lib.run_eql_slice_nil w _ _ a n c n' c' Tryz.underlying28
  cases A with
  | none =>
    obtain ⟨h1, rfl⟩ := hN rfl
    obtain rfl := List.eq_nil_of_length_eq_zero h1
    have hg := hid (Grow.nil_ w 3 (Below.refl w.heap.size w))
    go_enter Tryz.func32, Tryz.ntmps32
    go_wp2_with fail
    go_ret
    exact ⟨_, rfl, hg.out⟩
  | some ad =>
    have hr := hid (h.below (Grow.lit0 3 w).2)
    go_enter Tryz.func32, Tryz.ntmps32
    go_wp2_with (at_builtin; refine (Grow.lit0 3 w).appendAll intR (some ad) l.length c w.heap.size (l.map iv) (by simp) (fun e => by cases e) hr.out (one_ivs l) (by simp; omega) rfl _ _ rfl rfl rfl ?_; intro v7 w7 hg7 _ _; replace hg7 := hid hg7)
    go_ret
    exact ⟨_, rfl, hg7.out⟩
theorem istate (A AV : Option Addr) (c cV : Nat) (S : List Int) (n : Nat) (w : World) (h : Rd w w.heap.size A (S.map iv)) (hl : S.length ≤ I63) (hn : n ≤ I63) :
    Calls Tryz.prog 31 #[.slice AV n cV, .slice A S.length c] w fun e w' => e = .returned (.bool (wB S n)) ∧ w = w' := by
  have hl' : S.length ≤ 9223372036854775807 := hl
  have hn' : n ≤ 9223372036854775807 := hn
  have cW := fun x w => isWord_any x w
  have hR : wB S n = (S.all isW && ((S.length : Int) == (n : Int))) := rfl
  generalize wB S n = R at *
  replace cW := hid cW
  by_cases hne : S.length = n
  · subst hne
    rw [beq_self_eq_true, Bool.and_true] at hR
    have t2 : ((S.length : Int) != (S.length : Int)) = false := bne_self_eq_false _
    replace hR := hid hR
    go_enter Tryz.func31, Tryz.ntmps31
    go_wp2_with fail
    go_loop [14] (fun i => ∃ m : Nat, m ≤ S.length ∧ i = .int .i64 m ∧ Hid (∀ j, (hj : j < S.length) → j < m → isW S[j] = true)) (fun i => S.length - (Go.RowKit.intOf i).toNat)
    case atStart => exact ⟨0, Nat.zero_le _, rfl, hid fun j _ h => absurd h (Nat.not_lt_zero _)⟩
    case round =>
      obtain ⟨m, hm, rfl, hall⟩ := hrel
      by_cases hlt : m < S.length
      · have t0 : decide ((m : Int) < (S.length : Int)) = true := decide_eq_true (by omega)
        have t1 : (m : Int) < (S.length : Int) := by omega
        obtain ⟨ad, rfl, _, hc⟩ := rd_int h hlt
        have hw := hid (cW.out S[m] w)
        cases hq : isW S[m] with
        | true =>
          have hnx := hid (show ∀ j, (hj : j < S.length) → j < m + 1 → isW S[j] = true from fun j hj h2 => by
            by_cases e : j = m
            · subst e; exact hq
            · exact hall.out j hj (by omega))
          rw [hq] at hw
          clear hq
          generalize S[m] = x at *
          go_wp2_with fail
          refine hw.out.mono ?_
          rintro e w2 ⟨rfl, rfl⟩
          go_wp2_with fail
          go_round
          case rel => exact ⟨m + 1, hlt, by go_num, hnx⟩
          case measure => simp [Go.RowKit.intOf]; omega
        | false =>
          have hf := hid (show R = false by
            rw [hR.out, List.all_eq_false]
            exact ⟨S[m], List.getElem_mem hlt, by rw [hq]; simp⟩)
          rw [hq] at hw
          clear hq
          generalize S[m] = x at *
          go_wp2_with fail
          refine hw.out.mono ?_
          rintro e w2 ⟨rfl, rfl⟩
          go_wp2_with fail
          go_ret
          exact ⟨by rw [hf.out]; rfl, rfl⟩
      · obtain rfl : m = S.length := by omega
        have t0 : decide ((S.length : Int) < (S.length : Int)) = false := decide_eq_false (by omega)
        have hf := hid (show R = true by
          rw [hR.out, List.all_eq_true]
          intro x hx
          obtain ⟨j, hj, e⟩ := List.getElem_of_mem hx
          rw [← e]; exact hall.out j hj hj)
        go_wp2_with fail
        go_ret
        exact ⟨by rw [hf.out]; rfl, rfl⟩
  · have t2 : ((S.length : Int) != (n : Int)) = true := bne_iff_ne.2 (by omega)
    have hf := hid (show R = false by rw [hR, beq_false_of_ne (show (S.length : Int) ≠ (n : Int) by omega), Bool.and_false])
    clear hR hne
    go_enter Tryz.func31, Tryz.ntmps31
    go_wp2_with fail
    go_ret
    exact ⟨by rw [hf.out]; rfl, rfl⟩
theorem irun_any (p : Pg) (A : Option Addr) (c : Nat) (Bb : Option Addr) (cb : Nat) (S : List Int) (AS : Option Addr) (cS : Nat) (fuel : Int) (w : World) (hV : Rd w w.heap.size A (p.vs.map sv)) (hA : ∀ ad, A = some ad → ad = ⟨ad.block, 0, none⟩) (hVl : p.vs.length ≤ maxI) (hVs : ∀ x ∈ p.vs, x.length ≤ maxI)
    (hla : LA (pln w) w.heap.size ⟨Bb, cb, p.body⟩) (hBl : p.body.length ≤ maxI) (hcn : cntL p.body ≤ 4000000) (hex : exL p.body ≤ 1048576) (hS : Rd w w.heap.size AS (S.map iv)) (hSl : S.length ≤ I63) (hN : AS = none → S.length = 0 ∧ cS = 0) :
    Calls Tryz.prog 9 #[.agg #[.slice A p.vs.length c, .slice Bb p.body.length cb], .slice AS S.length cS, .int .i64 fuel] w fun e w' => ∃ r, e = .returned r ∧ OwnOc w.heap.size w'.heap.size w' r (runO p S fuel) ∧ Below w.heap.size w w' := by
  obtain ⟨V, L⟩ := p
  dsimp only at hV hVl hVs hla hBl hcn hex ⊢
  have b1 := box_below w (.cells #[.slice A V.length c, .slice Bb L.length cb] 27)
  have s1 := size_alloc' w (.cells #[.slice A V.length c, .slice Bb L.length cb] 27)
  have b2 := b1.trans ((box_below _ (.cells #[.int .i64 0, .slice none 0 0, .slice none 0 0, .int .i64 0] 32)).mono b1.size)
  have P2 := (box_blk2 w A V.length c Bb L.length cb 27).alloc (.cells #[.int .i64 0, .slice none 0 0, .slice none 0 0, .int .i64 0] 32)
  have R2 := box_blkO (w.alloc (.cells #[.slice A V.length c, .slice Bb L.length cb] 27)) 0 none 0 0 none 0 0 0 32
  rw [s1] at R2
  have cV := hid (fun (W : World) (h : Below w.heap.size w W) => ivalidP ⟨V, L⟩ W A c Bb cb ((hV.below h).more h.size) hA hVl hVs (la_mono hla h) hcn hex)
  have cW := hid (fun (W : World) (h : Below w.heap.size w W) => istate AS A cS c S V.length W ((hS.below h).more h.size) hSl (show V.length ≤ I63 from hVl))
  have cC := hid (fun (W : World) (h : Below w.heap.size w W) (h2 : S.length ≤ 2) => clone_any AS cS S W ((hS.below h).more h.size) hN (by omega))
  have hno := hid (runO_no (p := ⟨V, L⟩) (S := S) (fuel := fuel))
  have hyes := hid (fun f (hf : fuel = ((f : Nat) : Int)) h1 h2 h3 => hf ▸ runO_yes (p := ⟨V, L⟩) (S := S) (f := f) h1 h2 (hf ▸ h3))
  have hlenS := hid (fun h : wB S V.length = true => (wB_iff h).2)
  have hin : inB fuel 0 400 = (decide (0 ≤ fuel) && decide (fuel ≤ 400)) := rfl
  have hok : okP ⟨V, L⟩ = true → okSts V L = true := fun h => by
    unfold okP at h
    simp only [Bool.and_eq_true] at h
    exact h.2.2.2
  have hV2 := hid (fun h : okP ⟨V, L⟩ = true => show V.length ≤ 2 from by
    unfold okP varsB at h
    simp only [Bool.and_eq_true, decide_eq_true_eq] at h
    exact h.1.2.1)
  have hV' := hid (fun (W : World) (h : Below w.heap.size w W) => (hV.below h))
  obtain ⟨rows, hB⟩ := la_rows hla
  have hB' := hid (fun (W : World) (h : Below w.heap.size w W) => show Row W w.heap.size 1 Bb (dl L) rows from hB.cry (fun p v hp hv => by
    have := (pln_cell hv).1
    rw [h.cell hp]; exact this) (Nat.le_refl _))
  have hA := hid hA
  dsimp only at cV cW hno hyes
  generalize okP ⟨V, L⟩ = o1 at *
  generalize wB S V.length = o2 at *
  generalize inB fuel 0 400 = o3 at *
  generalize runO ⟨V, L⟩ S fuel = RO at *
  replace b2 := hid b2
  replace P2 := hid P2
  replace R2 := hid R2
  clear hV hB b1 s1 hcn hex hVs hla hN hS
  cases o1 with
  | false =>
    have hf := hid (hno.out (Or.inl rfl))
    obtain ⟨k0, k1⟩ := two P2.out
    clear hok hno hyes cW cC hV' hB' hin
    go_enter Tryz.func9, Tryz.ntmps9
    go_wp2_with fail
    refine (cV.out _ b2.out).mono ?_
    rintro e w3 ⟨rfl, hb⟩
    have b3 := hid (b2.out.trans (hb.mono b2.out.size))
    have R3 := hid (R2.out.below hb R2.out.lt)
    obtain ⟨q0, q1, q2, q3⟩ := fourO R3.out
    have f0 := R3.out.frozen 0
    have f1 := R3.out.frozen 1
    have f2 := R3.out.frozen 2
    have f3 := R3.out.frozen 3
    obtain ⟨F1, F2, F3⟩ := fin_zero R3.out b3.out (Nat.le_succ _)
    clear hb k0 k1 cV b2 P2 R2 R3
    go_wp2_with fail
    exact bodyPost_ret (results_cell_row Tryz.results9 _ _ (w.heap.size + 1) 32 _ (0, 0) _ rfl F1.out Tryz.underlying32 rfl (by kernel_rfl)) rfl ⟨_, rfl, by rw [hf.out]; exact F2.out, F3.out⟩
  | true =>
    obtain ⟨k0, k1⟩ := two P2.out
    go_enter Tryz.func9, Tryz.ntmps9
    go_wp2_with fail
    refine (cV.out _ b2.out).mono ?_
    rintro e w3 ⟨rfl, hb⟩
    have b3 := hid (b2.out.trans (hb.mono b2.out.size))
    have R3 := hid (R2.out.below hb R2.out.lt)
    have P3 := hid (P2.out.below hb P2.out.lt)
    have c3 := hid (cW.out w3 b3.out)
    clear hb k0 k1 cV b2 P2 R2 cW
    obtain ⟨k0, k1⟩ := two P3.out
    cases o2 with
    | false =>
      have hf := hid (hno.out (Or.inr (Or.inl rfl)))
      clear hok hno hyes hV' hB' hin cC
      go_wp2_with fail
      refine c3.out.mono ?_
      rintro e w4 ⟨rfl, rfl⟩
      obtain ⟨q0, q1, q2, q3⟩ := fourO R3.out
      have f0 := R3.out.frozen 0
      have f1 := R3.out.frozen 1
      have f2 := R3.out.frozen 2
      have f3 := R3.out.frozen 3
      obtain ⟨F1, F2, F3⟩ := fin_zero R3.out b3.out (Nat.le_succ _)
      clear k0 k1 P3 R3 b3 c3
      go_wp2_with fail
      exact bodyPost_ret (results_cell_row Tryz.results9 _ _ (w.heap.size + 1) 32 _ (0, 0) _ rfl F1.out Tryz.underlying32 rfl (by kernel_rfl)) rfl ⟨_, rfl, by rw [hf.out]; exact F2.out, F3.out⟩
    | true =>
      by_cases hlow : fuel < 0
      · have t1 : decide (fuel < 0) = true := decide_eq_true hlow
        have hf := hid (hno.out (Or.inr (Or.inr (by rw [hin, decide_eq_false (show ¬ (0 ≤ fuel) by omega)]; rfl))))
        clear hok hno hyes hV' hB' hin cC hlow
        go_wp2_with fail
        refine c3.out.mono ?_
        rintro e w4 ⟨rfl, rfl⟩
        obtain ⟨q0, q1, q2, q3⟩ := fourO R3.out
        have f0 := R3.out.frozen 0
        have f1 := R3.out.frozen 1
        have f2 := R3.out.frozen 2
        have f3 := R3.out.frozen 3
        obtain ⟨F1, F2, F3⟩ := fin_zero R3.out b3.out (Nat.le_succ _)
        clear k0 k1 P3 R3 b3 c3
        go_wp2_with fail
        exact bodyPost_ret (results_cell_row Tryz.results9 _ _ (w.heap.size + 1) 32 _ (0, 0) _ rfl F1.out Tryz.underlying32 rfl (by kernel_rfl)) rfl ⟨_, rfl, by rw [hf.out]; exact F2.out, F3.out⟩
      have t1 : decide (fuel < 0) = false := decide_eq_false hlow
      by_cases hhigh : 400 < fuel
      · have t2 : decide (400 < fuel) = true := decide_eq_true hhigh
        have hf := hid (hno.out (Or.inr (Or.inr (by rw [hin, decide_eq_false (show ¬ (fuel ≤ 400) by omega), Bool.and_false]))))
        clear hok hno hyes hV' hB' hin cC hlow hhigh
        go_wp2_with fail
        refine c3.out.mono ?_
        rintro e w4 ⟨rfl, rfl⟩
        obtain ⟨q0, q1, q2, q3⟩ := fourO R3.out
        have f0 := R3.out.frozen 0
        have f1 := R3.out.frozen 1
        have f2 := R3.out.frozen 2
        have f3 := R3.out.frozen 3
        obtain ⟨F1, F2, F3⟩ := fin_zero R3.out b3.out (Nat.le_succ _)
        clear k0 k1 P3 R3 b3 c3
        go_wp2_with fail
        exact bodyPost_ret (results_cell_row Tryz.results9 _ _ (w.heap.size + 1) 32 _ (0, 0) _ rfl F1.out Tryz.underlying32 rfl (by kernel_rfl)) rfl ⟨_, rfl, by rw [hf.out]; exact F2.out, F3.out⟩
      have t2 : decide (400 < fuel) = false := decide_eq_false hhigh
      have ho3 : o3 = true := by rw [hin, decide_eq_true (show 0 ≤ fuel by omega), decide_eq_true (show fuel ≤ 400 by omega)]; rfl
      subst ho3
      obtain ⟨f, rfl⟩ : ∃ f : Nat, fuel = f := ⟨fuel.toNat, by omega⟩
      have hf4 : f ≤ 400 := by omega
      have hlS := hlenS.out (by trivial)
      have hS2 : S.length ≤ 2 := by have := hV2.out (by trivial); omega
      replace hlS := hid hlS
      have hRO := hid (hyes.out f rfl (by trivial) (by trivial) (by trivial))
      have hokL := hid (hok (by trivial))
      have lo3 := b3.out.size
      have lP := P3.out.lt
      have lR := R3.out.lt
      have bD : Below w3.heap.size w3 w3.drew := (Below.refl _ _).drew
      have cC3 := cC.out w3.drew (b3.out.trans (bD.mono b3.out.size)) hS2
      have PD : Blk w3.drew _ _ _ := P3.out.below bD P3.out.lt
      have RD : Blk w3.drew _ _ _ := R3.out.below bD R3.out.lt
      replace bD := hid bD
      replace PD := hid PD
      replace RD := hid RD
      replace cC3 := hid cC3
      clear hlenS hyes hok hno hV2 cC hin hlow hhigh
      go_wp2_with fail
      refine c3.out.mono ?_
      rintro e w4 ⟨rfl, rfl⟩
      clear c3
      go_wp2_with fail
      go_region_with (first | (go_at_call 32; refine cC3.out.mono ?_; rintro e w4 ⟨v4, rfl, hG⟩; obtain ⟨A4, c4, rfl, -⟩ := hG.len; rw [List.length_map] at hG; have P4 := hid (PD.out.below hG.2 PD.out.lt); have hG := hid hG; obtain ⟨i0, i1⟩ := two P4.out))
      all_goals
        have z4 : w3.heap.size ≤ w4.heap.size := hG.out.2.size
        have X5 : XAt (layI (.slice A V.length c) f) RI (w4.alloc (.cells #[.int .i64 1, .slice A4 S.length c4, .slice none 0 0, .int .i64 0, .slice A V.length c, .int .i64 f] RI)) w4.heap.size w3.heap.size w4.heap.size ⟨0, S, [], 0⟩ (.slice A4 S.length c4) (.slice none 0 0) :=
          ⟨Blk.new w4 RI [.int .i64 1, .slice A4 S.length c4, .slice none 0 0, .int .i64 0, .slice A V.length c, .int .i64 f], Own.same (own_of_row hG.out.1) (same_below (box_below w4 _) (Nat.le_refl _)), World.ownsRow_nil _ _ _ _, by decide, by rw [size_alloc']; exact Nat.le_succ _⟩
        have b5 := box_below w4 (.cells #[.int .i64 1, .slice A4 S.length c4, .slice none 0 0, .int .i64 0, .slice A V.length c, .int .i64 f] RI)
        have B4 : Below w3.heap.size w3 w4 := bD.out.trans hG.out.2
        have B5 := B4.trans (b5.mono z4)
        have B05 := b3.out.trans (B5.mono lo3)
        have R5 := hid (R3.out.below B5 lR)
        have P5 := P4.out.below b5 P4.out.lt
        have hrow := (hB'.out _ B05).cry (fun _ _ _ h => h) lo3
        have hrv := (hV'.out _ B05).more lo3
        have call := hid (iAll (base := w3.heap.size) (g := w4.heap.size) (lo := w3.heap.size) (hi := w4.heap.size) z4 (Nat.le_refl _) z4 hf4 hVl hA.out f L ⟨0, S, [], 0⟩ Bb cb rows _ _ _ hokL.out hBl rfl (Nat.zero_le _) (Nat.le_refl _) hlS.out (Nat.le_refl _) X5 hrow hrv)
        rw [runZ_start] at call
        have B05 := hid B05
        obtain ⟨v0, v1⟩ := two P5
        have hst := run_st (V := V) f L S
        clear X5 b5 B4 B5 P5 hrow hrv k0 k1 i0 i1 hG P4 PD RD bD R3 P3
        generalize run V f L S = RR at *
        obtain ⟨rst, rsg, rou, rco⟩ := RR
        dsimp only at hRO call hst
        generalize hgo : goB ⟨if rst = 1 then 0 else rst, rsg, rou, rco⟩ = bb at *
        go_wp2_with fail
        generalize (w4.alloc (.cells #[.int .i64 1, .slice A4 S.length c4, .slice none 0 0, .int .i64 0, .slice A V.length c, .int .i64 f] RI)) = w5 at *
        refine call.out.mono ?_
        rintro x w6 ⟨rfl, ⟨vO6, X6⟩, B6, -⟩
        have R6 := R5.out.below B6 lR
        have B06 := B05.out.trans (B6.mono lo3)
        obtain ⟨A6, l6, c6, rfl⟩ := own_form X6.ou
        clear v0 v1 call B6 B05 R5 hgo
        obtain ⟨p0, p1, p2, p3, p4, p5⟩ := six X6.blk
        rw [ist_run hst] at p0
        obtain ⟨q0, q1, q2, q3⟩ := fourO R6
        have g0 := R6.frozen 0
        have g1 := R6.frozen 1
        have g2 := R6.frozen 2
        have g3 := R6.frozen 3
        obtain ⟨F1, F2, F3⟩ := fin_run X6 R6 B06 (Nat.le_succ _) lR z4 rst hRO.out
        clear X6 R6 B06 hRO hst
        dsimp only at p0 p1 p2 p3 F1 F2 F3
        go_wp2_with fail
        exact bodyPost_ret (results_cell_row Tryz.results9 _ _ (w.heap.size + 1) 32 _ (0, 0) _ rfl F1.out Tryz.underlying32 rfl (by kernel_rfl)) rfl ⟨_, rfl, F2.out, F3.out⟩
end Go.Proofs.YtnmomlaimffonaaGreat.Rn
