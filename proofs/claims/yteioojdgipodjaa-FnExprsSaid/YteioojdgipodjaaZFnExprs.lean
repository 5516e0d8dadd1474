/- FnExprs: valid expressions respect the limits, and variables are listed in order: the walk. -/
import Derived.Test.YteioojdgipodjaaZDr4
import Derived.Test.YteioojdgipodjaaZC4a
import Derived.Test.YteioojdgipodjaaZXm
import Derived.Test.YteioojdgipodjaaZXq
import Derived.Test.YteioojdgipodjaaZNvx
import Derived.Test.YteioojdgipodjaaZEx5
import Derived.Test.YteioojdgipodjaaZRi
import Derived.Deep.RegionHeld3
import Derived.Test.YteioojdgipodjaaZBig
set_option maxRecDepth 100000
namespace Go.Proofs.Yteioojdgipodjaa.FnExprs
open Go.RowKit Go.Lib Go.Sort Go.Proofs.Yteioojdgipodjaa.Com Go.Proofs.Yteioojdgipodjaa.Mem Go.Proofs.Yteioojdgipodjaa.Os Go.Proofs.Yteioojdgipodjaa.Tr Go.Proofs.Yteioojdgipodjaa.Nm
set_option maxRecDepth 100000 in
set_option maxHeartbeats 8000000 in
theorem walk (w : World) (A : Option Addr) (k : Nat) (xs : List UInt8) (hr : Rd w w.heap.size A (xs.map bv)) (_ : xs.length ≤ 9223372036854775807) :
    Calls Try.prog 7 #[.slice A xs.length k] w fun e w' => e = .returned (.bool true) ∧ Below w.heap.size w w' := by
  have hbig := hid (Big.big_any A xs.length k w)
  by_cases hb : 1048576 < xs.length
  · rw [decide_eq_true (show 1048576 < (xs.length : Int) by omega)] at hbig
    go_enter Try.func7, Try.ntmps7
    go_wp2_with fail
    refine hbig.out.mono ?_
    rintro e w1 ⟨rfl, rfl⟩
    go_wp2_with fail
    go_ret
    exact ⟨rfl, Below.refl _ _⟩
  rw [decide_eq_false (show ¬ 1048576 < (xs.length : Int) by omega)] at hbig
  have hd1 := hid (Dr.drawIsValid A k xs w hr (by omega))
  clear hb hr
  go_enter Try.func7, Try.ntmps7
  go_wp2_with fail
  refine hbig.out.mono ?_
  rintro e w1 ⟨rfl, rfl⟩
  go_wp2_with fail
  refine hd1.out.mono ?_
  rintro e w1 ⟨v, t, rfl, hO, hcn, hb1⟩
  obtain ⟨ek, en, es, eA, el, ec, rfl⟩ := OwnE.form hO
  have hbx := box_below w1 (.cells #[.int .i64 ek, .int .i64 en, sv es, .slice eA el ec] 46)
  have E2 := hid (box_blk w1 ek en es eA el ec 46)
  have O2 := hid (hO.same (same_below hbx (Nat.le_refl _)))
  have B2 := hid (hb1.trans (hbx.mono hb1.size))
  have hz1 := hb1.size
  clear hO hb1 hbx hbig hd1
  go_wp2_with fail
  generalize (w1.alloc (.cells #[.int .i64 ek, .int .i64 en, sv es, .slice eA el ec] 46)) = w2 at *
  refine (ivalidE t _ _ O2.out.ex).mono ?_
  rintro e w3 ⟨rfl, hb⟩
  have O3 := hid (O2.out.same (same_below hb (Nat.le_of_lt E2.out.lt)))
  have E3 := hid (E2.out.below hb E2.out.lt)
  have B3 := hid (B2.out.trans (hb.mono B2.out.size))
  clear hb O2 E2 B2
  have hdc := dep_cnt t
  have hok : okT t = true → cntT t ≤ 12 ∧ depT t ≤ 5 := fun h => by
    unfold okT at h
    simp only [Bool.and_eq_true, decide_eq_true_eq] at h
    exact ⟨h.1, h.2.1⟩
  have G : ∀ d os, OwnX w.heap.size w1.heap.size (grow (redrawn w3 d) os) (nv ek en es eA el ec) t := fun d os => O3.out.same (same_below (below_regrown w3 d os) (Nat.le_of_lt E3.out.lt))
  have c14 := hid (fun d os => Calls.regrown_of (svalidE t _ (grow (redrawn w3 d) os) (G d os).ex (by omega)))
  have c15 := hid (fun d os => Calls.regrown_of (iequal t t _ _ _ _ _ _ (grow (redrawn w3 d) os) (G d os) (G d os) (by omega)))
  have c16 := hid (fun d os => Calls.regrown_of (depth_c (grow (redrawn w3 d) os) (G d os) (by omega)))
  have c17 := hid (fun d os => Calls.regrown_of (icount_c (grow (redrawn w3 d) os) (G d os) (by omega)))
  have c18 := hid (fun d os => Calls.regrown_of (scount t _ (grow (redrawn w3 d) os) (G d os).ex (by omega)))
  rw [eqT_self] at c15
  have m0 : (okT t != okT t) = false := bne_self_eq_false _
  have m1 : decide ((cntT t : Int) < (depT t : Int)) = false := decide_eq_false (by omega)
  have m2 : ((cntT t : Int) != (cntT t : Int)) = false := bne_self_eq_false _
  have hvl := varsT_len t
  clear G
  generalize hoe : okT t = o at *
  generalize hce : cntT t = cn at *
  generalize hde : depT t = dp at *
  obtain ⟨x0, x1, x2, x3⟩ := four E3.out
  have k0 := cell_regrown x0
  have k1 := cell_regrown x1
  have k2 := cell_regrown x2
  have k3 := cell_regrown x3
  go_wp2_with fail
  refine wp_region_quiet_below (by kernel_rfl) (by kernel_rfl) ?_
  repeat (quiet_step (first | exact c14.out _ _ | exact c15.out _ _ | exact c16.out _ _ | exact c17.out _ _ | exact c18.out _ _))
  refine wpQuiet_nil ?_
  rintro _ ⟨⟨dq, osq⟩, rfl⟩
  have hbq := below_regrown w3 dq osq
  have O4 := hid (O3.out.same (same_below hbq (Nat.le_of_lt E3.out.lt)))
  have E4 := hid (E3.out.below hbq E3.out.lt)
  have B4 := hid (B3.out.trans (hbq.mono B3.out.size))
  clear k0 k1 k2 k3 x0 x1 x2 x3 c14 c15 c16 c17 c18 hbq O3 E3 B3
  generalize grow (redrawn w3 dq) osq = w4 at *
  go_wp2_with fail
  have O0 := O4
  have E0 := E4
  have b0 := B4
  clear O4 E4 B4
  generalize w4 = W0 at *
  obtain ⟨x0, x1, x2, x3⟩ := four E0.out
  cases o
  · go_wp2_with fail
    refine wp_region_held_drew (S := (fun w' => (w'.cell? ⟨w1.heap.size, 0, none⟩ = some (.int .i64 ek) ∧ w'.cell? ⟨w1.heap.size, 1, none⟩ = some (.int .i64 en) ∧ w'.cell? ⟨w1.heap.size, 2, none⟩ = some (sv es) ∧ w'.cell? ⟨w1.heap.size, 3, none⟩ = some (.slice eA el ec)))) (by kernel_rfl) ?_ (fun hHeld => ?_)
    · refine ⟨?_, ?_, ?_, ?_⟩ <;> assumption
    refine wpAnyH_take (i := 0) (oi := { dst := some 35, op := Op.load 46 (Operand.tmp 3), type := 46, pos := "laws.go:247", after := #[], guard := none }) (v := (.agg #[.int .i64 ek, .int .i64 en, sv es, .slice eA el ec])) rfl (by kernel_rfl) (by kernel_rfl) (by kernel_rfl) (fun _ _ _ h => h) (Or.inl ⟨by rfl, fun w' hSw => ?_⟩) (by assumption) ?_
    · (try dsimp only at hSw); first | (go_simp; done) | (go_simp; with_reducible rfl)
    try simp only [Act.put, List.setIfInBounds_toArray, List.set_cons_zero, List.set_cons_succ]
    refine wpAnyH_ready (rs := [1]) (by kernel_rfl) (by simp) ?_
    refine AllReadyH.cons (o := { dst := some 36, op := Op.call { callee := Callee.value (Operand.func 39), args := #[Operand.tmp 35], argTypes := #[46] }, type := 29, pos := "laws.go:247", after := #[{ on := 0, ground := Ground.data }], guard := none }) rfl (fun K hK => ?_) AllReadyH.nil
    go_simp
    refine (ivarsOf t _ _ _ _ (O0.out.same (same_below (Below.refl _ _).drew (Nat.le_of_lt E0.out.lt))) (by omega)).mono ?_; rintro e W1 ⟨r1, rfl, o1, hb⟩; have b1 := hid (b0.out.trans (((Below.refl _ _).drew.trans hb).mono b0.out.size)); have E1 := hid (E0.out.below ((Below.refl _ _).drew.trans hb) E0.out.lt); have O1 := hid (O0.out.same (same_below (B := W0.heap.size) ((Below.refl _ _).drew.trans hb) (Nat.le_of_lt E0.out.lt))); have q1 := four E1.out; have z1 := E1.out.lt; have o1 := hid o1; have zz1 : W0.heap.size ≤ W1.heap.size := hb.size; clear hb
    refine hK.out _ _ q1 (fun hHeld => ?_)
    clear hK K
    try simp only [Act.put, List.setIfInBounds_toArray, List.set_cons_zero, List.set_cons_succ]
    refine wpAnyH_ready (rs := [2]) (by kernel_rfl) (by simp) ?_
    refine AllReadyH.cons (o := { dst := some 37, op := Op.call { callee := Callee.value (Operand.func 38), args := #[Operand.tmp 36], argTypes := #[29] }, type := 4, pos := "laws.go:247", after := #[{ on := 1, ground := Ground.data }, { on := 1, ground := Ground.chain }], guard := none }) rfl (fun K hK => ?_) AllReadyH.nil
    go_simp
    refine (Ri.rising_own _ o1.out (sortU_asc _)).mono ?_; rintro e W2 ⟨rfl, hb⟩; have b2 := hid (b1.out.trans (hb.mono b1.out.size)); have E2 := hid (E1.out.below hb E1.out.lt); have O2 := hid (O1.out.same (same_below (B := W1.heap.size) hb (Nat.le_of_lt E1.out.lt))); have q2 := four E2.out; have z2 := E2.out.lt; clear hb
    refine hK.out _ _ q2 (fun hHeld => ?_)
    clear hK K
    try simp only [Act.put, List.setIfInBounds_toArray, List.set_cons_zero, List.set_cons_succ]
    refine wpAnyH_take (i := 3) (oi := { dst := some 38, op := Op.move (Operand.tmp 37), type := 4, pos := "laws.go:247", after := #[{ on := 2, ground := Ground.data }, { on := 2, ground := Ground.chain }], guard := none }) (v := .bool true) rfl (by kernel_rfl) (by kernel_rfl) (by kernel_rfl) (fun _ _ _ h => h) (Or.inl ⟨by rfl, fun w' hSw => ?_⟩) (by assumption) ?_
    · (try dsimp only at hSw); first | (go_simp; done) | (go_simp; with_reducible rfl)
    try simp only [Act.put, List.setIfInBounds_toArray, List.set_cons_zero, List.set_cons_succ]
    refine wpAnyH_take (i := 4) (oi := { dst := some 39, op := Op.load 46 (Operand.tmp 3), type := 46, pos := "laws.go:247", after := #[{ on := 3, ground := Ground.guard }], guard := some (3, true) }) (v := (.agg #[.int .i64 ek, .int .i64 en, sv es, .slice eA el ec])) rfl (by kernel_rfl) (by kernel_rfl) (by kernel_rfl) (fun _ _ _ h => h) (Or.inl ⟨by rfl, fun w' hSw => ?_⟩) (by assumption) ?_
    · (try dsimp only at hSw); first | (go_simp; done) | (go_simp; with_reducible rfl)
    try simp only [Act.put, List.setIfInBounds_toArray, List.set_cons_zero, List.set_cons_succ]
    refine wpAnyH_take (i := 6) (oi := { dst := some 41, op := Op.load 46 (Operand.tmp 3), type := 46, pos := "laws.go:247", after := #[{ on := 3, ground := Ground.guard }], guard := some (3, true) }) (v := (.agg #[.int .i64 ek, .int .i64 en, sv es, .slice eA el ec])) rfl (by kernel_rfl) (by kernel_rfl) (by kernel_rfl) (fun _ _ _ h => h) (Or.inl ⟨by rfl, fun w' hSw => ?_⟩) (by assumption) ?_
    · (try dsimp only at hSw); first | (go_simp; done) | (go_simp; with_reducible rfl)
    try simp only [Act.put, List.setIfInBounds_toArray, List.set_cons_zero, List.set_cons_succ]
    refine wpAnyH_ready (rs := [5]) (by kernel_rfl) (by simp) ?_
    refine AllReadyH.cons (o := { dst := some 40, op := Op.call { callee := Callee.value (Operand.func 39), args := #[Operand.tmp 39], argTypes := #[46] }, type := 29, pos := "laws.go:247", after := #[{ on := 4, ground := Ground.data }, { on := 3, ground := Ground.chain }, { on := 3, ground := Ground.guard }], guard := some (3, true) }) rfl (fun K hK => ?_) AllReadyH.nil
    go_simp
    refine (ivarsOf t _ _ _ _ O2.out (by omega)).mono ?_; rintro e W3 ⟨r3, rfl, o3, hb⟩; have b3 := hid (b2.out.trans (hb.mono b2.out.size)); have E3 := hid (E2.out.below hb E2.out.lt); have O3 := hid (O2.out.same (same_below (B := W2.heap.size) hb (Nat.le_of_lt E2.out.lt))); have q3 := four E3.out; have z3 := E3.out.lt; have o3 := hid o3; have zz3 : W2.heap.size ≤ W3.heap.size := hb.size; clear hb
    refine hK.out _ _ q3 (fun hHeld => ?_)
    clear hK K
    try simp only [Act.put, List.setIfInBounds_toArray, List.set_cons_zero, List.set_cons_succ]
    refine wpAnyH_ready (rs := [7]) (by kernel_rfl) (by simp) ?_
    refine AllReadyH.cons (o := { dst := some 42, op := Op.call { callee := Callee.value (Operand.func 41), args := #[Operand.tmp 41], argTypes := #[46] }, type := 29, pos := "laws.go:247", after := #[{ on := 6, ground := Ground.data }, { on := 5, ground := Ground.chain }, { on := 3, ground := Ground.guard }], guard := some (3, true) }) rfl (fun K hK => ?_) AllReadyH.nil
    go_simp
    refine (svarsOf t _ _ O3.out.ex (by omega)).mono ?_; rintro e W4 ⟨r4, rfl, o4, hb⟩; have b4 := hid (b3.out.trans (hb.mono b3.out.size)); have E4 := hid (E3.out.below hb E3.out.lt); have O4 := hid (O3.out.same (same_below (B := W3.heap.size) hb (Nat.le_of_lt E3.out.lt))); have q4 := four E4.out; have z4 := E4.out.lt; have o34 := hid (o3.out.same (same_below hb (Nat.le_refl _))); have o4 := hid o4; clear hb
    refine hK.out _ _ q4 (fun hHeld => ?_)
    clear hK K
    try simp only [Act.put, List.setIfInBounds_toArray, List.set_cons_zero, List.set_cons_succ]
    refine wpAnyH_ready (rs := [8]) (by kernel_rfl) (by simp) ?_
    refine AllReadyH.cons (o := { dst := some 43, op := Op.call { callee := Callee.value (Operand.func 40), args := #[Operand.tmp 40, Operand.tmp 42], argTypes := #[29, 29] }, type := 4, pos := "laws.go:247", after := #[{ on := 5, ground := Ground.data }, { on := 7, ground := Ground.data }, { on := 7, ground := Ground.chain }, { on := 3, ground := Ground.guard }], guard := some (3, true) }) rfl (fun K hK => ?_) AllReadyH.nil
    go_simp
    refine (Ri.same_own _ o34.out o4.out).mono ?_; rintro e W5 ⟨rfl, hb⟩; have b5 := hid (b4.out.trans (hb.mono b4.out.size)); have E5 := hid (E4.out.below hb E4.out.lt); have O5 := hid (O4.out.same (same_below (B := W4.heap.size) hb (Nat.le_of_lt E4.out.lt))); have q5 := four E5.out; have z5 := E5.out.lt; clear hb
    refine hK.out _ _ q5 (fun hHeld => ?_)
    clear hK K
    try simp only [Act.put, List.setIfInBounds_toArray, List.set_cons_zero, List.set_cons_succ]
    refine wpAnyH_take (i := 9) (oi := { dst := some 44, op := Op.pick (Operand.tmp 38) (Operand.tmp 43) (Operand.const (Value.bool false)), type := 4, pos := "laws.go:247", after := #[{ on := 3, ground := Ground.data }, { on := 8, ground := Ground.data }], guard := none }) (v := .bool true) rfl (by kernel_rfl) (by kernel_rfl) (by kernel_rfl) (fun _ _ _ h => h) (Or.inl ⟨by rfl, fun w' hSw => ?_⟩) (by assumption) ?_
    · (try dsimp only at hSw); first | (go_simp; done) | (go_simp; with_reducible rfl)
    try simp only [Act.put, List.setIfInBounds_toArray, List.set_cons_zero, List.set_cons_succ]
    refine wpAnyH_take (i := 10) (oi := { dst := some 45, op := Op.move (Operand.tmp 44), type := 4, pos := "laws.go:247", after := #[{ on := 9, ground := Ground.data }, { on := 8, ground := Ground.chain }], guard := none }) (v := .bool true) rfl (by kernel_rfl) (by kernel_rfl) (by kernel_rfl) (fun _ _ _ h => h) (Or.inl ⟨by rfl, fun w' hSw => ?_⟩) (by assumption) ?_
    · (try dsimp only at hSw); first | (go_simp; done) | (go_simp; with_reducible rfl)
    try simp only [Act.put, List.setIfInBounds_toArray, List.set_cons_zero, List.set_cons_succ]
    refine wpAnyH_take (i := 11) (oi := { dst := some 46, op := Op.move (Operand.tmp 4), type := 4, pos := "laws.go:247", after := #[{ on := 10, ground := Ground.guard }], guard := some (10, true) }) (v := .bool false) rfl (by kernel_rfl) (by kernel_rfl) (by kernel_rfl) (fun _ _ _ h => h) (Or.inl ⟨by rfl, fun w' hSw => ?_⟩) (by assumption) ?_
    · (try dsimp only at hSw); first | (go_simp; done) | (go_simp; with_reducible rfl)
    try simp only [Act.put, List.setIfInBounds_toArray, List.set_cons_zero, List.set_cons_succ]
    refine wpAnyH_take (i := 12) (oi := { dst := some 47, op := Op.unOp UnOp.not 4 (Operand.tmp 46), type := 4, pos := "laws.go:247", after := #[{ on := 11, ground := Ground.data }, { on := 10, ground := Ground.guard }], guard := some (10, true) }) (v := .bool true) rfl (by kernel_rfl) (by kernel_rfl) (by kernel_rfl) (fun _ _ _ h => h) (Or.inl ⟨by rfl, fun w' hSw => ?_⟩) (by assumption) ?_
    · (try dsimp only at hSw); first | (go_simp; done) | (go_simp; with_reducible rfl)
    try simp only [Act.put, List.setIfInBounds_toArray, List.set_cons_zero, List.set_cons_succ]
    refine wpAnyH_take (i := 13) (oi := { dst := some 48, op := Op.move (Operand.tmp 47), type := 4, pos := "laws.go:247", after := #[{ on := 12, ground := Ground.data }, { on := 10, ground := Ground.chain }, { on := 10, ground := Ground.guard }], guard := some (10, true) }) (v := .bool true) rfl (by kernel_rfl) (by kernel_rfl) (by kernel_rfl) (fun _ _ _ h => h) (Or.inl ⟨by rfl, fun w' hSw => ?_⟩) (by assumption) ?_
    · (try dsimp only at hSw); first | (go_simp; done) | (go_simp; with_reducible rfl)
    try simp only [Act.put, List.setIfInBounds_toArray, List.set_cons_zero, List.set_cons_succ]
    refine wpAnyH_take (i := 14) (oi := { dst := some 49, op := Op.load 46 (Operand.tmp 3), type := 46, pos := "laws.go:247", after := #[{ on := 13, ground := Ground.guard }], guard := some (13, false) }) (v := undef) rfl (by kernel_rfl) (by kernel_rfl) (by kernel_rfl) (fun _ _ _ h => h) (Or.inr ⟨by rfl, rfl⟩) (by assumption) ?_
    try simp only [Act.put, List.setIfInBounds_toArray, List.set_cons_zero, List.set_cons_succ]
    refine wpAnyH_take (i := 15) (oi := { dst := some 50, op := Op.call { callee := Callee.value (Operand.func 36), args := #[Operand.tmp 49], argTypes := #[46] }, type := 3, pos := "laws.go:247", after := #[{ on := 14, ground := Ground.data }, { on := 13, ground := Ground.chain }, { on := 13, ground := Ground.guard }], guard := some (13, false) }) (v := undef) rfl (by kernel_rfl) (by kernel_rfl) (by kernel_rfl) (fun _ _ _ h => h) (Or.inr ⟨by rfl, rfl⟩) (by assumption) ?_
    try simp only [Act.put, List.setIfInBounds_toArray, List.set_cons_zero, List.set_cons_succ]
    refine wpAnyH_take (i := 16) (oi := { dst := some 51, op := Op.binOp BinOp.leq 3 (Operand.tmp 50) (Operand.const (Value.int IntKind.i64 12)) 3, type := 4, pos := "laws.go:247", after := #[{ on := 15, ground := Ground.data }, { on := 13, ground := Ground.guard }], guard := some (13, false) }) (v := undef) rfl (by kernel_rfl) (by kernel_rfl) (by kernel_rfl) (fun _ _ _ h => h) (Or.inr ⟨by rfl, rfl⟩) (by assumption) ?_
    try simp only [Act.put, List.setIfInBounds_toArray, List.set_cons_zero, List.set_cons_succ]
    refine wpAnyH_take (i := 17) (oi := { dst := some 52, op := Op.move (Operand.tmp 51), type := 4, pos := "laws.go:247", after := #[{ on := 16, ground := Ground.data }, { on := 15, ground := Ground.chain }, { on := 13, ground := Ground.guard }], guard := some (13, false) }) (v := undef) rfl (by kernel_rfl) (by kernel_rfl) (by kernel_rfl) (fun _ _ _ h => h) (Or.inr ⟨by rfl, rfl⟩) (by assumption) ?_
    try simp only [Act.put, List.setIfInBounds_toArray, List.set_cons_zero, List.set_cons_succ]
    refine wpAnyH_take (i := 18) (oi := { dst := some 53, op := Op.load 46 (Operand.tmp 3), type := 46, pos := "laws.go:247", after := #[{ on := 17, ground := Ground.guard }], guard := some (17, true) }) (v := undef) rfl (by kernel_rfl) (by kernel_rfl) (by kernel_rfl) (fun _ _ _ h => h) (Or.inr ⟨by rfl, rfl⟩) (by assumption) ?_
    try simp only [Act.put, List.setIfInBounds_toArray, List.set_cons_zero, List.set_cons_succ]
    refine wpAnyH_take (i := 19) (oi := { dst := some 54, op := Op.call { callee := Callee.value (Operand.func 35), args := #[Operand.tmp 53], argTypes := #[46] }, type := 3, pos := "laws.go:247", after := #[{ on := 18, ground := Ground.data }, { on := 17, ground := Ground.chain }, { on := 17, ground := Ground.guard }], guard := some (17, true) }) (v := undef) rfl (by kernel_rfl) (by kernel_rfl) (by kernel_rfl) (fun _ _ _ h => h) (Or.inr ⟨by rfl, rfl⟩) (by assumption) ?_
    try simp only [Act.put, List.setIfInBounds_toArray, List.set_cons_zero, List.set_cons_succ]
    refine wpAnyH_take (i := 20) (oi := { dst := some 55, op := Op.binOp BinOp.leq 3 (Operand.tmp 54) (Operand.const (Value.int IntKind.i64 5)) 3, type := 4, pos := "laws.go:247", after := #[{ on := 19, ground := Ground.data }, { on := 17, ground := Ground.guard }], guard := some (17, true) }) (v := undef) rfl (by kernel_rfl) (by kernel_rfl) (by kernel_rfl) (fun _ _ _ h => h) (Or.inr ⟨by rfl, rfl⟩) (by assumption) ?_
    try simp only [Act.put, List.setIfInBounds_toArray, List.set_cons_zero, List.set_cons_succ]
    refine wpAnyH_take (i := 21) (oi := { dst := some 56, op := Op.pick (Operand.tmp 52) (Operand.tmp 55) (Operand.const (Value.bool false)), type := 4, pos := "laws.go:247", after := #[{ on := 17, ground := Ground.data }, { on := 20, ground := Ground.data }, { on := 13, ground := Ground.guard }], guard := some (13, false) }) (v := undef) rfl (by kernel_rfl) (by kernel_rfl) (by kernel_rfl) (fun _ _ _ h => h) (Or.inr ⟨by rfl, rfl⟩) (by assumption) ?_
    try simp only [Act.put, List.setIfInBounds_toArray, List.set_cons_zero, List.set_cons_succ]
    refine wpAnyH_take (i := 22) (oi := { dst := some 57, op := Op.pick (Operand.tmp 48) (Operand.const (Value.bool true)) (Operand.tmp 56), type := 4, pos := "laws.go:247", after := #[{ on := 13, ground := Ground.data }, { on := 21, ground := Ground.data }, { on := 10, ground := Ground.guard }], guard := some (10, true) }) (v := .bool true) rfl (by kernel_rfl) (by kernel_rfl) (by kernel_rfl) (fun _ _ _ h => h) (Or.inl ⟨by rfl, fun w' hSw => ?_⟩) (by assumption) ?_
    · (try dsimp only at hSw); first | (go_simp; done) | (go_simp; with_reducible rfl)
    try simp only [Act.put, List.setIfInBounds_toArray, List.set_cons_zero, List.set_cons_succ]
    refine wpAnyH_take (i := 23) (oi := { dst := some 58, op := Op.pick (Operand.tmp 45) (Operand.tmp 57) (Operand.const (Value.bool false)), type := 4, pos := "laws.go:247", after := #[{ on := 10, ground := Ground.data }, { on := 22, ground := Ground.data }], guard := none }) (v := .bool true) rfl (by kernel_rfl) (by kernel_rfl) (by kernel_rfl) (fun _ _ _ h => h) (Or.inl ⟨by rfl, fun w' hSw => ?_⟩) (by assumption) ?_
    · (try dsimp only at hSw); first | (go_simp; done) | (go_simp; with_reducible rfl)
    try simp only [Act.put, List.setIfInBounds_toArray, List.set_cons_zero, List.set_cons_succ]
    refine wpAnyH_take (i := 24) (oi := { dst := some 2, op := Op.assign (Operand.tmp 58), type := 4, pos := "laws.go:247", after := #[{ on := 23, ground := Ground.data }, { on := 19, ground := Ground.chain }, { on := 0, ground := Ground.phase }, { on := 1, ground := Ground.phase }, { on := 2, ground := Ground.phase }, { on := 3, ground := Ground.phase }, { on := 4, ground := Ground.phase }, { on := 5, ground := Ground.phase }, { on := 6, ground := Ground.phase }, { on := 7, ground := Ground.phase }, { on := 8, ground := Ground.phase }, { on := 9, ground := Ground.phase }, { on := 10, ground := Ground.phase }, { on := 11, ground := Ground.phase }, { on := 12, ground := Ground.phase }, { on := 13, ground := Ground.phase }, { on := 14, ground := Ground.phase }, { on := 15, ground := Ground.phase }, { on := 16, ground := Ground.phase }, { on := 17, ground := Ground.phase }, { on := 18, ground := Ground.phase }, { on := 19, ground := Ground.phase }, { on := 20, ground := Ground.phase }, { on := 21, ground := Ground.phase }, { on := 22, ground := Ground.phase }, { on := 23, ground := Ground.phase }], guard := none }) (v := .bool true) rfl (by kernel_rfl) (by kernel_rfl) (by kernel_rfl) (fun _ _ _ h => h) (Or.inl ⟨by rfl, fun w' hSw => ?_⟩) (by assumption) ?_
    · (try dsimp only at hSw); first | (go_simp; done) | (go_simp; with_reducible rfl)
    try simp only [Act.put, List.setIfInBounds_toArray, List.set_cons_zero, List.set_cons_succ]
    refine wpAnyH_done (by kernel_rfl) ?_ _
    go_wp2_with fail
    go_ret
    exact ⟨rfl, b5.out⟩
  · obtain ⟨h12, h5⟩ := hok rfl
    have t12 : decide ((cn : Int) ≤ 12) = true := decide_eq_true (by omega)
    have t5 : decide ((dp : Int) ≤ 5) = true := decide_eq_true (by omega)
    go_wp2_with fail
    go_region_held3 (fun w' => (w'.cell? ⟨w1.heap.size, 0, none⟩ = some (.int .i64 ek) ∧ w'.cell? ⟨w1.heap.size, 1, none⟩ = some (.int .i64 en) ∧ w'.cell? ⟨w1.heap.size, 2, none⟩ = some (sv es) ∧ w'.cell? ⟨w1.heap.size, 3, none⟩ = some (.slice eA el ec))) (first | (exact q1) | (exact q2) | (exact q3) | (exact q4) | (exact q5) | (exact q6) | (exact q7) | go_keep)
      (first
      | (go_at_call 35; refine (depth_c _ O6.out (by omega)).mono ?_; rintro e W7 ⟨rfl, hb⟩; have b7 := hid (b6.out.trans (hb.mono b6.out.size)); have E7 := hid (E6.out.below hb E6.out.lt); have O7 := hid (O6.out.same (same_below (B := W6.heap.size) hb (Nat.le_of_lt E6.out.lt))); have q7 := four E7.out; have z7 := E7.out.lt; clear hb)
      | (go_at_call 36; refine (icount_c _ O5.out (by omega)).mono ?_; rintro e W6 ⟨rfl, hb⟩; have b6 := hid (b5.out.trans (hb.mono b5.out.size)); have E6 := hid (E5.out.below hb E5.out.lt); have O6 := hid (O5.out.same (same_below (B := W5.heap.size) hb (Nat.le_of_lt E5.out.lt))); have q6 := four E6.out; have z6 := E6.out.lt; clear hb)
      | (go_at_call 40; refine (Ri.same_own _ o34.out o4.out).mono ?_; rintro e W5 ⟨rfl, hb⟩; have b5 := hid (b4.out.trans (hb.mono b4.out.size)); have E5 := hid (E4.out.below hb E4.out.lt); have O5 := hid (O4.out.same (same_below (B := W4.heap.size) hb (Nat.le_of_lt E4.out.lt))); have q5 := four E5.out; have z5 := E5.out.lt; clear hb)
      | (go_at_call 41; refine (svarsOf t _ _ O3.out.ex (by omega)).mono ?_; rintro e W4 ⟨r4, rfl, o4, hb⟩; have b4 := hid (b3.out.trans (hb.mono b3.out.size)); have E4 := hid (E3.out.below hb E3.out.lt); have O4 := hid (O3.out.same (same_below (B := W3.heap.size) hb (Nat.le_of_lt E3.out.lt))); have q4 := four E4.out; have z4 := E4.out.lt; have o34 := hid (o3.out.same (same_below hb (Nat.le_refl _))); have o4 := hid o4; clear hb)
      | (go_at_call 38; refine (Ri.rising_own _ o1.out (sortU_asc _)).mono ?_; rintro e W2 ⟨rfl, hb⟩; have b2 := hid (b1.out.trans (hb.mono b1.out.size)); have E2 := hid (E1.out.below hb E1.out.lt); have O2 := hid (O1.out.same (same_below (B := W1.heap.size) hb (Nat.le_of_lt E1.out.lt))); have q2 := four E2.out; have z2 := E2.out.lt; clear hb)
      | (go_at_call 39; have _o := O2; clear _o; refine (ivarsOf t _ _ _ _ O2.out (by omega)).mono ?_; rintro e W3 ⟨r3, rfl, o3, hb⟩; have b3 := hid (b2.out.trans (hb.mono b2.out.size)); have E3 := hid (E2.out.below hb E2.out.lt); have O3 := hid (O2.out.same (same_below (B := W2.heap.size) hb (Nat.le_of_lt E2.out.lt))); have q3 := four E3.out; have z3 := E3.out.lt; have o3 := hid o3; have zz3 : W2.heap.size ≤ W3.heap.size := hb.size; clear hb)
      | (go_at_call 39; refine (ivarsOf t _ _ _ _ (O0.out.same (same_below (Below.refl _ _).drew (Nat.le_of_lt E0.out.lt))) (by omega)).mono ?_; rintro e W1 ⟨r1, rfl, o1, hb⟩; have b1 := hid (b0.out.trans (((Below.refl _ _).drew.trans hb).mono b0.out.size)); have E1 := hid (E0.out.below ((Below.refl _ _).drew.trans hb) E0.out.lt); have O1 := hid (O0.out.same (same_below (B := W0.heap.size) ((Below.refl _ _).drew.trans hb) (Nat.le_of_lt E0.out.lt))); have q1 := four E1.out; have z1 := E1.out.lt; have o1 := hid o1; have zz1 : W0.heap.size ≤ W1.heap.size := hb.size; clear hb))
    go_wp2_with fail
    go_ret
    exact ⟨rfl, b7.out⟩
end Go.Proofs.Yteioojdgipodjaa.FnExprs
