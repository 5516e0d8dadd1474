/- FnPrograms: valid programs respect the limits and assign only their variables: the walk (l8Bent's contract handed in). -/
import Derived.Test.YtklcbagddijkgaaGreatZDr18
import Derived.Test.YtklcbagddijkgaaGreatZRi
import Derived.Test.YtklcbagddijkgaaGreatZBig
import Derived.Test.YtklcbagddijkgaaGreatZNm
import Derived.Test.YtklcbagddijkgaaGreatZDr16
set_option maxRecDepth 100000
namespace Go.Proofs.YtklcbagddijkgaaGreat.FnPrograms
open Go.RowKit Go.Lib Go.Sort Go.Proofs.YtklcbagddijkgaaGreat.Com Go.Proofs.YtklcbagddijkgaaGreat.Mem Go.Proofs.YtklcbagddijkgaaGreat.Os Go.Proofs.YtklcbagddijkgaaGreat.Ow Go.Proofs.YtklcbagddijkgaaGreat.Tr Go.Proofs.YtklcbagddijkgaaGreat.Nm Go.Proofs.YtklcbagddijkgaaGreat.Gd Go.Proofs.YtklcbagddijkgaaGreat.Pl Go.Proofs.YtklcbagddijkgaaGreat.Gs Go.Proofs.YtklcbagddijkgaaGreat.Sr
set_option maxRecDepth 100000 in
set_option maxHeartbeats 8000000 in
theorem walk0 (hB : BentP) (w : World) (A : Option Addr) (k : Nat) (xs : List UInt8) (hr : Rd w w.heap.size A (xs.map bv)) (_ : xs.length ≤ 9223372036854775807) :
    Calls Tryz.prog 3 #[.slice A xs.length k] w fun e w' => e = .returned (.bool true) ∧ Below w.heap.size w w' := by
  have hbig := hid (Big.big_any A xs.length k w)
  by_cases hb : 1048576 < xs.length
  · rw [decide_eq_true (show 1048576 < (xs.length : Int) by omega)] at hbig
    go_enter Tryz.func3, Tryz.ntmps3
    go_wp2_with fail
    refine hbig.out.mono ?_
    rintro e w1 ⟨rfl, rfl⟩
    go_wp2_with fail
    go_ret
    exact ⟨rfl, Below.refl _ _⟩
  rw [decide_eq_false (show ¬ 1048576 < (xs.length : Int) by omega)] at hbig
  have hd1 := hid (drawValid8 hB A k xs w hr (by omega))
  clear hb hr hB
  go_enter Tryz.func3, Tryz.ntmps3
  go_wp2_with fail
  refine hbig.out.mono ?_
  rintro e w1 ⟨rfl, rfl⟩
  go_wp2_with fail
  refine hd1.out.mono ?_
  rintro e w1 ⟨v, V, L, rfl, hO, n1, n2, n3, n4, hb1⟩
  obtain ⟨VA, vc, B, bc, rfl, f1, f2, f3, f4, hF⟩ := hO.form
  have hVm : V.length ≤ maxI := by unfold maxI; omega
  have hVs : ∀ x ∈ V, x.length ≤ maxI := fun x hx => by have := n2 x hx; unfold maxI; omega
  have hbx := box_below w1 (.cells #[.slice VA V.length vc, .slice B L.length bc] PI)
  have z1 := hb1.size
  have z2 := size_alloc' w1 (.cells #[.slice VA V.length vc, .slice B L.length bc] PI)
  have P2 := hid (Blk.new w1 PI [.slice VA V.length vc, .slice B L.length bc])
  have B2 := hid (hb1.trans (hbx.mono hb1.size))
  have F := hid (fun (W : World) (h : Below (w1.alloc (.cells #[.slice VA V.length vc, .slice B L.length bc] PI)).heap.size (w1.alloc (.cells #[.slice VA V.length vc, .slice B L.length bc] PI)) W) => hF W (hbx.trans (h.mono hbx.size)))
  replace f4 := hid f4
  replace hVs := hid hVs
  clear hO hb1 hbx hbig hd1 hF
  go_wp2_with fail
  generalize (w1.alloc (.cells #[.slice VA V.length vc, .slice B L.length bc] PI)) = w2 at *
  obtain ⟨r1, -, r3⟩ := F.out w2 (Below.refl _ _)
  refine (ivalidP ⟨V, L⟩ w2 VA vc B bc r1 f4.out hVm hVs.out r3 (by dsimp only; omega) (by dsimp only; omega)).mono ?_
  clear r1 r3
  rintro e w3 ⟨rfl, hb⟩
  have P3 := hid (P2.out.below hb P2.out.lt)
  have B3 := hid (B2.out.trans (hb.mono B2.out.size))
  have z3 := hb.size
  have F3 := hid (fun (W : World) (h : Below w3.heap.size w3 W) => F.out W (hb.trans (h.mono hb.size)))
  clear hb P2 B2 F
  have hasg := hid (fun h => asg_keep (p := ⟨V, L⟩) h)
  have hlim : okP ⟨V, L⟩ = true → V.length ≤ 2 ∧ cntL L ≤ 8 := fun h => by
    unfold okP varsB at h
    simp only [Bool.and_eq_true, decide_eq_true_eq] at h
    exact ⟨h.1.2.1, h.2.1⟩
  have hlen := hid (asgL_len _ L rfl)
  have c14 := hid (fun d os => Calls.regrown_of (show Calls Tryz.prog 7 #[.agg #[.slice VA V.length vc, .slice B L.length bc]] (grow (redrawn w3 d) os) _ from by
    obtain ⟨r1, ⟨rows, r2⟩, -⟩ := F3.out _ (below_regrown w3 d os)
    exact svalidP ⟨V, L⟩ (by dsimp only; omega) (by dsimp only; omega) _ _ (rd_pg r1 hVs.out hVm f1 r2 f3 f2)))
  have c19 := hid (fun d os => Calls.regrown_of (show Calls Tryz.prog 8 #[.agg #[.slice VA V.length vc, .slice B L.length bc], .agg #[.slice VA V.length vc, .slice B L.length bc]] (grow (redrawn w3 d) os) _ from by
    obtain ⟨r1, -, r3⟩ := F3.out _ (below_regrown w3 d os)
    have hin : PgIn (grow (redrawn w3 d) os) (.agg #[.slice VA V.length vc, .slice B L.length bc]) ⟨V, L⟩ := ⟨VA, vc, B, bc, rfl, r1, hVm, hVs.out, r3⟩
    exact iequalP ⟨V, L⟩ ⟨V, L⟩ _ _ _ hin hin (by dsimp only; omega) (by dsimp only; omega)))
  have c25 := hid (fun d os => Calls.regrown_of (show Calls Tryz.prog 9 #[.slice B L.length bc] (grow (redrawn w3 d) os) _ from icountL ⟨B, bc, L⟩ _ (F3.out _ (below_regrown w3 d os)).2.2 (by dsimp only; omega)))
  have c28 := hid (fun d os => Calls.regrown_of (show Calls Tryz.prog 10 #[.slice B L.length bc] (grow (redrawn w3 d) os) _ from by
    obtain ⟨-, ⟨rows, r2⟩, -⟩ := F3.out _ (below_regrown w3 d os)
    exact scountS _ L rfl (by omega) B bc rows _ r2))
  have c34 := hid (fun d os => Calls.regrown_of (show Calls Tryz.prog 11 #[.slice B L.length bc] (grow (redrawn w3 d) os) _ from idepthL ⟨B, bc, L⟩ _ (F3.out _ (below_regrown w3 d os)).2.2 (by dsimp only; omega)))
  have c37 := hid (fun d os => Calls.regrown_of (show Calls Tryz.prog 12 #[.slice B L.length bc] (grow (redrawn w3 d) os) _ from by
    obtain ⟨-, ⟨rows, r2⟩, -⟩ := F3.out _ (below_regrown w3 d os)
    exact sdepS _ L rfl (by omega) B bc rows _ r2))
  rw [sameP_self] at c19
  dsimp only at c25 c34
  have m0 : (okP ⟨V, L⟩ != okP ⟨V, L⟩) = false := bne_self_eq_false _
  have m2 : ((cntL L : Int) != (cntL L : Int)) = false := bne_self_eq_false _
  have m3 : ((depL L : Int) != (depL L : Int)) = false := bne_self_eq_false _
  obtain ⟨x0, x1⟩ := two P3.out
  have k0 := cell_regrown x0
  have k1 := cell_regrown x1
  replace x0 := hid x0
  replace x1 := hid x1
  generalize hoe : okP ⟨V, L⟩ = o at *
  generalize hce : cntL L = cn at *
  generalize hde : depL L = dp at *
  replace hoe := hid hoe
  replace hlim := hid hlim
  go_wp2_with fail
  refine wp_region_quiet_below (by kernel_rfl) (by kernel_rfl) ?_
  repeat (go_big_quiet_step (first | exact c14.out _ _ | exact c19.out _ _ | exact c25.out _ _ | exact c28.out _ _ | exact c34.out _ _ | exact c37.out _ _))
  refine wpQuiet_nil ?_
  intro _ hw'
  obtain ⟨⟨dq, osq⟩, hw''⟩ := hw'
  subst hw''
  have hq := below_regrown w3 dq osq
  have z5 := hq.size
  have B5 := hid (B3.out.trans (hq.mono B3.out.size))
  have P5 := hid (P3.out.below hq P3.out.lt)
  have F5 := hid (fun (W : World) (h : Below (grow (redrawn w3 dq) osq).heap.size (grow (redrawn w3 dq) osq) W) => F3.out W (hq.trans (h.mono hq.size)))
  clear k0 k1 c14 c19 c25 c28 c34 c37 m0 m2 m3 hq P3 B3 F3 x0 x1
  generalize grow (redrawn w3 dq) osq = w5 at *
  obtain ⟨x0, x1⟩ := two P5.out
  have hia := hid (show Calls Tryz.prog 13 #[.slice B L.length bc] w5 _ from Gs.iassigned ⟨B, bc, L⟩ w5 (F5.out _ (Below.refl _ _)).2.2 (by dsimp only; omega))
  dsimp only at hia
  go_wp2_with fail
  refine hia.out.mono ?_
  rintro e w6 ⟨r, rfl, o6, hb⟩
  have z6 := hb.size
  have B6 := hid (B5.out.trans (hb.mono B5.out.size))
  have P6 := hid (P5.out.below hb P5.out.lt)
  have F6 := hid (fun (W : World) (h : Below w6.heap.size w6 W) => F5.out W (hb.trans (h.mono hb.size)))
  replace o6 := hid o6
  clear hb B5 P5 F5 hia x0 x1
  obtain ⟨x0, x1⟩ := two P6.out
  go_wp2_with fail
  refine (Ri.rising_own w6 o6.out (sortU_asc _)).mono ?_
  rintro e w7 ⟨rfl, hb⟩
  have z7 := hb.size
  have B7 := hid (B6.out.trans (hb.mono B6.out.size))
  have P7 := hid (P6.out.below hb P6.out.lt)
  have F7 := hid (fun (W : World) (h : Below w7.heap.size w7 W) => F6.out W (hb.trans (h.mono hb.size)))
  have o7 := hid (o6.out.same (same_below hb (Nat.le_refl _)))
  clear hb B6 P6 F6 o6 x0 x1
  obtain ⟨x0, x1⟩ := two P7.out
  have hsa := hid (show Calls Tryz.prog 16 #[.slice B L.length bc] w7 _ from by
    obtain ⟨-, ⟨rows, r2⟩, -⟩ := F7.out _ (Below.refl _ _)
    exact sassigned L (by omega) f3 B bc rows _ r2)
  go_wp2_with fail
  refine hsa.out.mono ?_
  rintro e w8 ⟨r8, rfl, o8, hb⟩
  have z8 := hb.size
  have B8 := hid (B7.out.trans (hb.mono B7.out.size))
  have P8 := hid (P7.out.below hb P7.out.lt)
  have F8 := hid (fun (W : World) (h : Below w8.heap.size w8 W) => F7.out W (hb.trans (h.mono hb.size)))
  have o7 := hid (o7.out.same (same_below hb (by omega)))
  replace o8 := hid o8
  clear hb B7 P7 F7 hsa x0 x1
  obtain ⟨x0, x1⟩ := two P8.out
  go_wp2_with fail
  refine (Ri.same_own w8 o7.out o8.out).mono ?_
  rintro e w9 ⟨rfl, hb⟩
  have z9 := hb.size
  have B9 := hid (B8.out.trans (hb.mono B8.out.size))
  have P9 := hid (P8.out.below hb P8.out.lt)
  have F9 := hid (fun (W : World) (h : Below w9.heap.size w9 W) => F8.out W (hb.trans (h.mono hb.size)))
  have o9 := o7.out.same (same_below hb (by omega))
  clear hb B8 P8 F8 o8 x0 x1
  obtain ⟨x0, x1⟩ := two P9.out
  cases o with
  | false =>
    clear o9
    go_wp2_with fail
    go_ret
    exact ⟨rfl, B9.out⟩
  | true =>
    obtain ⟨hV2, hc8⟩ := hlim.out rfl
    have tV : decide ((V.length : Int) ≤ 2) = true := decide_eq_true (by omega)
    have tC : decide ((cn : Int) ≤ 8) = true := decide_eq_true (by omega)
    have hic := hid (show Calls Tryz.prog 9 #[.slice B L.length bc] w9 _ from icountL ⟨B, bc, L⟩ w9 (F9.out _ (Below.refl _ _)).2.2 (by dsimp only; omega))
    dsimp only at hic
    rw [hce] at hic
    go_wp2_with fail
    refine hic.out.mono ?_
    rintro e w10 ⟨rfl, hb⟩
    have B10 := hid (B9.out.trans (hb.mono B9.out.size))
    have P10 := hid (P9.out.below hb P9.out.lt)
    have F10 := hid (F9.out w10 hb)
    have o10 := o9.same (same_below hb (by omega))
    clear hb B9 P9 F9 o9 x0 x1 hic
    obtain ⟨x0, x1⟩ := two P10.out
    obtain ⟨rA, rc, rfl, rrd, -⟩ := OwnS.read_ (l := sortU (asgL L)) o10
    have hwo := hid (C2.swithout_any rA VA rc vc (sortU (asgL L)) V w10 rrd F10.out.1 (by have := sortU_len (asgL L); have := hlen.out; omega) (by omega))
    rw [hasg.out trivial] at hwo
    clear o10 rrd
    go_wp2_with fail
    refine hwo.out.mono ?_
    rintro e w11 ⟨r11, rfl, o11⟩
    obtain ⟨A11, c11, rfl, -⟩ := o11.len
    have B11 := hid (B10.out.trans (o11.2.mono B10.out.size))
    clear o11 hwo
    go_wp2_with fail
    go_ret
    exact ⟨rfl, B11.out⟩
end Go.Proofs.YtklcbagddijkgaaGreat.FnPrograms

/- FnPrograms: valid programs respect the limits and assign only their variables. -/
set_option maxRecDepth 100000
namespace Go.Proofs.YtklcbagddijkgaaGreat.FnPrograms
open Go.RowKit Go.Lib Go.Proofs.YtklcbagddijkgaaGreat.Com Go.Proofs.YtklcbagddijkgaaGreat.Mem Go.Proofs.YtklcbagddijkgaaGreat.Os Go.Proofs.YtklcbagddijkgaaGreat.Gd
theorem walk (w : World) (A : Option Addr) (k : Nat) (xs : List UInt8) (hr : Rd w w.heap.size A (xs.map bv)) (hl : xs.length ≤ 9223372036854775807) :
    Calls Tryz.prog 3 #[.slice A xs.length k] w fun e w' => e = .returned (.bool true) ∧ Below w.heap.size w w' := walk0 (fun g A c xs w hc => bent8 g A c xs w hc) w A k xs hr hl
end Go.Proofs.YtklcbagddijkgaaGreat.FnPrograms
