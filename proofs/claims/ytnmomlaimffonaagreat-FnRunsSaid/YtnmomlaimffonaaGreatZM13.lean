/- The model's RunProgram and Terminates. -/
import Derived.Test.YtnmomlaimffonaaGreatZM12
import Derived.Test.YtnmomlaimffonaaGreatZRo11
set_option maxHeartbeats 8000000
set_option maxRecDepth 100000
namespace Go.Proofs.YtnmomlaimffonaaGreat.Rn
open Go.RowKit Go.Lib Go.Sort Com Mem YtnmomlaimffonaaGreat.Os Ow Tr Gd C2 C3 Oc
theorem mAll {V : List (List UInt8)} {AV : Option Addr} {cV f base g lo hi : Nat} (hbg : base ≤ g) (hbl : base ≤ lo) (hbh : base ≤ hi) (hf : f ≤ 400) (hnv : V.length ≤ maxI) (n : Nat) : MSts V AV cV f base g lo hi n := by
  induction n using Nat.strongRecOn with
  | ind n ih => exact mStmts (mStmt hbg hbl hbh hf hnv ih)
theorem mwords (A : Option Addr) (c : Nat) (S : List Int) (n : Nat) (w : World) (h : Rd w w.heap.size A (S.map iv)) (hl : S.length ≤ I63) :
    Calls Tryz.prog 36 #[.slice A S.length c, .int .i64 n] w fun e w' => e = .returned (.bool (wB S n)) ∧ w = w' := by
  have hl' : S.length ≤ 9223372036854775807 := hl
  have cW := fun x w => sisWord_any x w
  have hR : wB S n = (S.all isW && ((S.length : Int) == (n : Int))) := rfl
  generalize wB S n = R at *
  replace cW := hid cW
  replace hR := hid hR
  go_enter Tryz.func36, Tryz.ntmps36
  go_wp2_with fail
  go_loop [5] (fun i => ∃ m : Nat, m ≤ S.length ∧ i = .int .i64 m ∧ Hid (∀ j, (hj : j < S.length) → j < m → isW S[j] = true)) (fun i => S.length - (Go.RowKit.intOf i).toNat)
  case atStart => exact ⟨0, Nat.zero_le _, rfl, hid fun j _ h => absurd h (Nat.not_lt_zero _)⟩
  case round =>
    obtain ⟨m, hm, rfl, hall⟩ := hrel
    by_cases hlt : m < S.length
    · obtain ⟨ad, rfl, _, hc⟩ := rd_int h hlt
      have hw := hid (cW.out S[m] w)
      cases hq : isW S[m] with
      | true =>
        have hnx := hid (show ∀ j, (hj : j < S.length) → j < m + 1 → isW S[j] = true from fun j hj h2 => by
          by_cases e : j = m
          · subst e; exact hq
          · exact hall.out j hj (by omega))
        rw [hq] at hw
        clear hq
        generalize S[m] = x at *
        go_wp2_with fail
        refine hw.out.mono ?_
        rintro e w2 ⟨rfl, rfl⟩
        go_wp2_with fail
        go_round
        case rel => exact ⟨m + 1, hlt, by go_num, hnx⟩
        case measure => simp [Go.RowKit.intOf]; omega
      | false =>
        have hf := hid (show R = false by
          rw [hR.out]
          have : S.all isW = false := by
            rw [List.all_eq_false]
            exact ⟨S[m], List.getElem_mem hlt, by rw [hq]; simp⟩
          rw [this]; rfl)
        rw [hq] at hw
        clear hq
        generalize S[m] = x at *
        go_wp2_with fail
        refine hw.out.mono ?_
        rintro e w2 ⟨rfl, rfl⟩
        go_wp2_with fail
        go_ret
        exact ⟨by rw [hf.out]; rfl, rfl⟩
    · obtain rfl : m = S.length := by omega
      have hf := hid (show R = ((S.length : Int) == (n : Int)) by
        rw [hR.out]
        have : S.all isW = true := by
          rw [List.all_eq_true]
          intro x hx
          obtain ⟨j, hj, e⟩ := List.getElem_of_mem hx
          rw [← e]; exact hall.out j hj hj
        rw [this, Bool.true_and])
      go_wp2_with fail
      go_ret
      exact ⟨by rw [hf.out]; rfl, rfl⟩
theorem srun_full (p : Pg) (cs : List Value) (S : List Int) (AS : Option Addr) (cS : Nat) (fuel : Int) (w : World) (hr : Rd8 w w.heap.size cs p.d) (hcn : cntL p.body ≤ 1900000) (hex : exL p.body ≤ 1900000) (hS : Rd w w.heap.size AS (S.map iv)) (hSl : S.length ≤ I63) (hN : AS = none → S.length = 0 ∧ cS = 0) :
    Calls Tryz.prog 11 #[.agg cs.toArray, .slice AS S.length cS, .int .i64 fuel] w fun e w' => ∃ r, e = .returned r ∧ OwnOc w.heap.size w'.heap.size w' r (runO p S fuel) ∧ Below w.heap.size w w' ∧ ((runO p S fuel).st = 0 → r = .agg #[.int .i64 0, .slice none 0 0, .slice none 0 0, .int .i64 0]) := by
  have hr0 := hr
  obtain ⟨A, c, Bb, cb, rows, rfl, hV, hVs, ⟨hVl, hVc⟩, hB, hBl⟩ := pg_inv hr
  obtain ⟨V, L⟩ := p
  dsimp only at hV hVs hVl hVc hB hBl hcn hex
  have b1 := box_below w (.cells #[.slice A V.length c, .slice Bb L.length cb] 27)
  have s1 := size_alloc' w (.cells #[.slice A V.length c, .slice Bb L.length cb] 27)
  have b2 := b1.trans ((box_below _ (.cells #[.int .i64 0, .slice none 0 0, .slice none 0 0, .int .i64 0] 32)).mono b1.size)
  have P2 := (box_blk2 w A V.length c Bb L.length cb 27).alloc (.cells #[.int .i64 0, .slice none 0 0, .slice none 0 0, .int .i64 0] 32)
  have R2 := box_blkO (w.alloc (.cells #[.slice A V.length c, .slice Bb L.length cb] 27)) 0 none 0 0 none 0 0 0 32
  rw [s1] at R2
  have hrd := hid (fun (W : World) (h : Below w.heap.size w W) => show Rd8 W W.heap.size _ (Pg.d ⟨V, L⟩) from hr0.go h)
  have cV := hid (fun (W : World) (h : Below w.heap.size w W) => svalidP ⟨V, L⟩ hex hcn (pc A V.length c Bb L.length cb) W (hr0.go h))
  have cW := hid (fun (W : World) (h : Below w.heap.size w W) => mwords AS cS S V.length W ((hS.below h).more h.size) hSl)
  have cI := hid (fun (W : World) => l1In_any fuel 0 400 W)
  have hno := hid (runO_no (p := ⟨V, L⟩) (S := S) (fuel := fuel))
  have hyes := hid (fun f (hf : fuel = ((f : Nat) : Int)) h1 h2 h3 => hf ▸ runO_yes (p := ⟨V, L⟩) (S := S) (f := f) h1 h2 (hf ▸ h3))
  have hlenS := hid (fun h : wB S V.length = true => (wB_iff h).2)
  have hfin := hid (fun h : inB fuel 0 400 = true => show ∃ f : Nat, fuel = f ∧ f ≤ 400 from by
    unfold inB at h
    simp only [Bool.and_eq_true, decide_eq_true_eq] at h
    exact ⟨fuel.toNat, by omega, by omega⟩)
  have hok : okP ⟨V, L⟩ = true → okSts V L = true := fun h => by
    unfold okP at h
    simp only [Bool.and_eq_true] at h
    exact h.2.2.2
  have hV2 := hid (fun h : okP ⟨V, L⟩ = true => show V.length ≤ 2 from by
    unfold okP varsB at h
    simp only [Bool.and_eq_true, decide_eq_true_eq] at h
    exact h.1.2.1)
  have hV' := hid (fun (W : World) (h : Below w.heap.size w W) => (hV.below h))
  have hB' := hid (fun (W : World) (h : Below w.heap.size w W) => row_blw hB h)
  have hS' := hid (fun (W : World) (h : Below w.heap.size w W) => (hS.below h))
  dsimp only at cV cW hno hyes
  generalize okP ⟨V, L⟩ = o1 at *
  generalize wB S V.length = o2 at *
  generalize inB fuel 0 400 = o3 at *
  generalize runO ⟨V, L⟩ S fuel = RO at *
  replace b2 := hid b2
  replace P2 := hid P2
  replace R2 := hid R2
  clear hr hr0 hV hB b1 s1 hcn hex hVs hVc
  cases o1 with
  | false =>
    have hf := hid (hno.out (Or.inl rfl))
    obtain ⟨k0, k1⟩ := two P2.out
    clear hok hno hyes cW cI hV' hB' hS' hrd
    go_enter Tryz.func11, Tryz.ntmps11
    go_wp2_with fail
    refine (cV.out _ b2.out).mono ?_
    rintro e w3 ⟨rfl, hb⟩
    have b3 := hid (b2.out.trans (hb.mono b2.out.size))
    have R3 := R2.out.below hb R2.out.lt
    obtain ⟨q0, q1, q2, q3⟩ := fourO R3
    have f0 := R3.frozen 0
    have f1 := R3.frozen 1
    have f2 := R3.frozen 2
    have f3 := R3.frozen 3
    obtain ⟨F1, F2, F3⟩ := fin_zero R3 b3.out (Nat.le_succ _)
    clear hb k0 k1 cV b2 P2 R2 R3
    go_wp2_with fail
    exact bodyPost_ret (results_cell_row Tryz.results11 _ _ (w.heap.size + 1) 32 _ (0, 0) _ rfl F1.out Tryz.underlying32 rfl (by kernel_rfl)) rfl ⟨_, rfl, by rw [hf.out]; exact F2.out, F3.out, fun _ => rfl⟩
  | true =>
    obtain ⟨k0, k1⟩ := two P2.out
    go_enter Tryz.func11, Tryz.ntmps11
    go_wp2_with fail
    refine (cV.out _ b2.out).mono ?_
    rintro e w3 ⟨rfl, hb⟩
    have b3 := hid (b2.out.trans (hb.mono b2.out.size))
    have R3 := hid (R2.out.below hb R2.out.lt)
    have P3 := hid (P2.out.below hb P2.out.lt)
    have c3 := hid (cW.out w3 b3.out)
    clear hb k0 k1 cV b2 P2 R2 cW
    obtain ⟨k0, k1⟩ := two P3.out
    cases o2 with
    | false =>
      have hf := hid (hno.out (Or.inr (Or.inl rfl)))
      clear hok hno hyes hV' hB' hS' hrd
      go_wp2_with fail
      refine c3.out.mono ?_
      rintro e w4 ⟨rfl, rfl⟩
      obtain ⟨q0, q1, q2, q3⟩ := fourO R3.out
      have f0 := R3.out.frozen 0
      have f1 := R3.out.frozen 1
      have f2 := R3.out.frozen 2
      have f3 := R3.out.frozen 3
      obtain ⟨F1, F2, F3⟩ := fin_zero R3.out b3.out (Nat.le_succ _)
      clear k0 k1 P3 R3 b3 c3
      go_wp2_with fail
      exact bodyPost_ret (results_cell_row Tryz.results11 _ _ (w.heap.size + 1) 32 _ (0, 0) _ rfl F1.out Tryz.underlying32 rfl (by kernel_rfl)) rfl ⟨_, rfl, by rw [hf.out]; exact F2.out, F3.out, fun _ => rfl⟩
    | true =>
      cases o3 with
      | false =>
        have hf := hid (hno.out (Or.inr (Or.inr rfl)))
        clear hok hno hyes hV' hB' hS' hrd
        go_wp2_with fail
        refine c3.out.mono ?_
        rintro e w4 ⟨rfl, rfl⟩
        go_wp2_with fail
        refine (cI.out w3).mono ?_
        rintro e w4 ⟨rfl, rfl⟩
        obtain ⟨q0, q1, q2, q3⟩ := fourO R3.out
        have f0 := R3.out.frozen 0
        have f1 := R3.out.frozen 1
        have f2 := R3.out.frozen 2
        have f3 := R3.out.frozen 3
        obtain ⟨F1, F2, F3⟩ := fin_zero R3.out b3.out (Nat.le_succ _)
        clear k0 k1 P3 R3 b3 c3 cI
        go_wp2_with fail
        exact bodyPost_ret (results_cell_row Tryz.results11 _ _ (w.heap.size + 1) 32 _ (0, 0) _ rfl F1.out Tryz.underlying32 rfl (by kernel_rfl)) rfl ⟨_, rfl, by rw [hf.out]; exact F2.out, F3.out, fun _ => rfl⟩
      | true =>
        clear hno
        go_wp2_with fail
        refine c3.out.mono ?_
        rintro e w4 ⟨rfl, rfl⟩
        go_wp2_with fail
        refine (cI.out w3).mono ?_
        rintro e w4 ⟨rfl, rfl⟩
        clear c3 cI
        obtain ⟨f, rfl, hf4⟩ := hfin.out trivial
        have hlS := hlenS.out trivial
        have hS2 : S.length ≤ 2 := by have := hV2.out trivial; omega
        replace hlS := hid hlS
        have hRO := hid (hyes.out f rfl trivial trivial trivial)
        have hokL := hid (hok trivial)
        have bA : Below w3.heap.size w3 (w3.alloc (.cells #[] 3)).drew := (box_below w3 (.cells #[] 3)).drew
        have zA : (w3.alloc (.cells #[] 3)).drew.heap.size = w3.heap.size + 1 := size_alloc' w3 _
        have oA : (w3.alloc (.cells #[] 3)).drew.ownsRow w3.heap.size 3 1 (.slice (some ⟨w3.heap.size, 0, none⟩) 0 0) 0 [] := (Grow.lit0 3 w3).1
        have rA := (hS'.out _ (b3.out.trans (bA.mono b3.out.size))).more (show w.heap.size ≤ (w3.alloc (.cells #[] 3)).drew.heap.size by rw [zA]; have := b3.out.size; omega)
        have PA : Blk (w3.alloc (.cells #[] 3)).drew _ _ _ := P3.out.below bA P3.out.lt
        have RA : Blk (w3.alloc (.cells #[] 3)).drew _ _ _ := R3.out.below bA R3.out.lt
        have hzb : w3.heap.size ≤ (w3.alloc (.cells #[] 3)).drew.heap.size := by rw [zA]; omega
        have hN' := hid hN
        have lo3 := b3.out.size
        replace zA := hid zA
        replace bA := hid bA
        replace oA := hid oA
        replace rA := hid rA
        replace PA := hid PA
        replace RA := hid RA
        obtain ⟨j0, j1⟩ := two (P3.out.alloc (.cells #[] 3))
        have lP := P3.out.lt
        have lR := R3.out.lt
        clear hlenS hfin hyes hok hN hrd hV2
        go_wp2_with fail
        go_region_law (first | (refine step_all intR rfl (.tmp 28) (.tmp 29) rfl w3.heap.size (.slice (some ⟨w3.heap.size, 0, none⟩) 0 0) [] rfl oA.out AS S.length cS (S.map iv) rfl hN'.out (List.length_map _) rA.out (one_ivs S) (by simp; omega) hzb ?_; intro v4 w4 ho hg; obtain ⟨A4, l4, c4, rfl⟩ := own_form ho; have hg := hid (show World.grownBy _ w4 (some w3.heap.size) from hg); have P4 := hid (PA.out.gb hg.out (by omega)); have ho := hid ho; obtain ⟨i0, i1⟩ := two P4.out))
        all_goals
          have z4 : w3.heap.size + 1 ≤ w4.heap.size := by have := hg.out.size; rw [zA.out] at this; exact this
          have X5 : XAt (layM (.slice A V.length c) f) RM (w4.alloc (.cells #[.slice A V.length c, .int .i64 f, .int .i64 0, .slice A4 l4 c4, .slice none 0 0, .int .i64 0] RM)) w4.heap.size w3.heap.size w4.heap.size ⟨0, S, [], 0⟩ (.slice A4 l4 c4) (.slice none 0 0) :=
            ⟨Blk.new w4 RM [.slice A V.length c, .int .i64 f, .int .i64 0, .slice A4 l4 c4, .slice none 0 0, .int .i64 0], Own.same (own_of_row ho.out) (same_below (box_below w4 _) (Nat.le_refl _)), World.ownsRow_nil _ _ _ _, by decide, by rw [size_alloc']; exact Nat.le_succ _⟩
          have b5 := box_below w4 (.cells #[.slice A V.length c, .int .i64 f, .int .i64 0, .slice A4 l4 c4, .slice none 0 0, .int .i64 0] RM)
          have B4 : Below w3.heap.size w3 w4 := bgb bA.out hg.out hzb (Nat.le_refl _)
          have B5 := B4.trans (b5.mono (by omega))
          have B05 := b3.out.trans (B5.mono lo3)
          have R5 := hid ((RA.out.gb hg.out (by omega)).below b5 (by have := (RA.out.gb hg.out (by omega)).lt; exact this))
          have P5 := P4.out.below b5 P4.out.lt
          have hrow := (hB'.out _ B05).cry (fun _ _ _ h => h) lo3
          have hrv := (hV'.out _ B05).more lo3
          have call := hid (mAll (base := w3.heap.size) (g := w4.heap.size) (lo := w3.heap.size) (hi := w4.heap.size) (by omega) (Nat.le_refl _) (by omega) hf4 hVl f L ⟨0, S, [], 0⟩ Bb cb rows _ _ _ hokL.out hBl (Nat.zero_le _) (Nat.le_refl _) hlS.out (Nat.le_refl _) X5 hrow hrv)
          rw [runZ_start] at call
          have B05 := hid B05
          obtain ⟨v0, v1⟩ := two P5
          have hst := run_st (V := V) f L S
          clear X5 b5 B4 B5 P5 hrow hrv k0 k1 j0 j1 i0 i1 ho hg P4 RA PA rA oA bA zA hzb R3 P3
          generalize run V f L S = RR at *
          obtain ⟨rst, rsg, rou, rco⟩ := RR
          dsimp only at hRO call hst
          go_wp2_with fail
          generalize (w4.alloc (.cells #[.slice A V.length c, .int .i64 f, .int .i64 0, .slice A4 l4 c4, .slice none 0 0, .int .i64 0] RM)) = w5 at *
          refine call.out.mono ?_
          rintro x w6 ⟨rfl, ⟨vO6, X6⟩, B6, -⟩
          have R6 := R5.out.below B6 (by omega)
          have B06 := B05.out.trans (B6.mono lo3)
          obtain ⟨A6, l6, c6, rfl⟩ := own_form X6.ou
          clear v0 v1 call B6 B05 R5
          by_cases h1 : rst = 1
          · rw [if_pos h1] at X6
            have hX7 := putM_st X6 1
            have R7 : Blk (w6.setCell ⟨w4.heap.size, 2, none⟩ (.int .i64 1)) _ _ _ := R6.far (p := ⟨w4.heap.size, 2, none⟩) (show w.heap.size + 1 ≠ w4.heap.size by omega) _
            have B07 := B06.setCell (p := ⟨w4.heap.size, 2, none⟩) (show w.heap.size ≤ w4.heap.size by omega) (.int .i64 1)
            obtain ⟨p0, p1, p2, p3, p4, p5⟩ := six X6.blk
            have f2 := X6.blk.frozen 2
            obtain ⟨q0, q1, q2, q3⟩ := fourO R6
            have g0 := R6.frozen 0
            have g1 := R6.frozen 1
            have g2 := R6.frozen 2
            have g3 := R6.frozen 3
            have hRO2 := hRO.out
            rw [h1] at hRO2
            obtain ⟨F1, F2, F3⟩ := fin_run hX7 R7 B07 (Nat.le_succ _) (show w.heap.size + 1 < w3.heap.size by omega) (by omega) 1 hRO2
            have hne := hid (show RO.st ≠ 0 by rw [hRO2]; show (1 : Int) ≠ 0; decide)
            clear X6 hX7 R7 B07 R6 B06 hRO hRO2 hst h1
            dsimp only at p2 p3 p4 p5 F1 F2 F3
            go_wp2_with fail
            exact bodyPost_ret (results_cell_row Tryz.results11 _ _ (w.heap.size + 1) 32 _ (0, 0) _ rfl F1.out Tryz.underlying32 rfl (by kernel_rfl)) rfl ⟨_, rfl, F2.out, F3.out, fun h => absurd h hne.out⟩
          · rw [if_neg h1] at X6
            have t9 : (rst == 0) = false := beq_false_of_ne (by omega)
            obtain ⟨p0, p1, p2, p3, p4, p5⟩ := six X6.blk
            obtain ⟨q0, q1, q2, q3⟩ := fourO R6
            have g0 := R6.frozen 0
            have g1 := R6.frozen 1
            have g2 := R6.frozen 2
            have g3 := R6.frozen 3
            obtain ⟨F1, F2, F3⟩ := fin_run X6 R6 B06 (Nat.le_succ _) (show w.heap.size + 1 < w3.heap.size by omega) (by omega) rst hRO.out
            have hne := hid (show RO.st ≠ 0 by rw [hRO.out]; show rst ≠ 0; omega)
            clear X6 R6 B06 hRO hst h1
            dsimp only at p2 p3 p4 p5 F1 F2 F3
            go_wp2_with fail
            exact bodyPost_ret (results_cell_row Tryz.results11 _ _ (w.heap.size + 1) 32 _ (0, 0) _ rfl F1.out Tryz.underlying32 rfl (by kernel_rfl)) rfl ⟨_, rfl, F2.out, F3.out, fun h => absurd h hne.out⟩
theorem srun_any (p : Pg) (cs : List Value) (S : List Int) (AS : Option Addr) (cS : Nat) (fuel : Int) (w : World) (hr : Rd8 w w.heap.size cs p.d) (hcn : cntL p.body ≤ 1900000) (hex : exL p.body ≤ 1900000) (hS : Rd w w.heap.size AS (S.map iv)) (hSl : S.length ≤ I63) (hN : AS = none → S.length = 0 ∧ cS = 0) :
    Calls Tryz.prog 11 #[.agg cs.toArray, .slice AS S.length cS, .int .i64 fuel] w fun e w' => ∃ r, e = .returned r ∧ OwnOc w.heap.size w'.heap.size w' r (runO p S fuel) ∧ Below w.heap.size w w' :=
  (srun_full p cs S AS cS fuel w hr hcn hex hS hSl hN).mono fun _ _ ⟨r, h1, h2, h3, _⟩ => ⟨r, h1, h2, h3⟩
theorem srun_bad (p : Pg) (cs : List Value) (S : List Int) (AS : Option Addr) (cS : Nat) (fuel : Int) (w : World) (hr : Rd8 w w.heap.size cs p.d) (hcn : cntL p.body ≤ 1900000) (hex : exL p.body ≤ 1900000) (hS : Rd w w.heap.size AS (S.map iv)) (hSl : S.length ≤ I63) (hN : AS = none → S.length = 0 ∧ cS = 0) (h0 : (runO p S fuel).st = 0) :
    Calls Tryz.prog 11 #[.agg cs.toArray, .slice AS S.length cS, .int .i64 fuel] w fun e w' => e = .returned (.agg #[.int .i64 0, .slice none 0 0, .slice none 0 0, .int .i64 0]) ∧ Below w.heap.size w w' :=
  (srun_full p cs S AS cS fuel w hr hcn hex hS hSl hN).mono fun _ _ ⟨r, h1, _, h3, h4⟩ => ⟨by rw [h1, h4 h0], h3⟩
end Go.Proofs.YtnmomlaimffonaaGreat.Rn
