/- The model's executions: an evaluation. -/
import Derived.Test.YtnmomlaimffonaaGreatZXe11
set_option maxHeartbeats 4000000
set_option maxRecDepth 100000
namespace Go.Proofs.YtnmomlaimffonaaGreat.Rn
open Go.RowKit Go.Lib Go.Sort Com Mem YtnmomlaimffonaaGreat.Os Ow Tr Gd
abbrev RM : TypeId := 65
abbrev layM (vV : Value) (f : Nat) : Lay := fun st vS vO co => [vV, .int .i64 f, .int .i64 st, vS, vO, .int .i64 co]
theorem six {w : World} {g ty : Nat} {c0 c1 c2 c3 c4 c5 : Value} (h : Blk w g ty [c0, c1, c2, c3, c4, c5]) :
    w.cell? ⟨g, 0, none⟩ = some c0 ∧ w.cell? ⟨g, 1, none⟩ = some c1 ∧ w.cell? ⟨g, 2, none⟩ = some c2 ∧ w.cell? ⟨g, 3, none⟩ = some c3 ∧ w.cell? ⟨g, 4, none⟩ = some c4 ∧ w.cell? ⟨g, 5, none⟩ = some c5 :=
  ⟨h.cell 0, h.cell 1, h.cell 2, h.cell 3, h.cell 4, h.cell 5⟩
section
variable {w w' : World} {g lo hi f : Nat} {z : Ex1} {vS vO vV : Value}
theorem putM_st (h : XAt (layM vV f) RM w g lo hi z vS vO) (s : Int) : XAt (layM vV f) RM (w.setCell ⟨g, 2, none⟩ (.int .i64 s)) g lo hi ⟨s, z.sg, z.ou, z.co⟩ vS vO := h.put 2 _ s z.co rfl
theorem putM_co (h : XAt (layM vV f) RM w g lo hi z vS vO) : XAt (layM vV f) RM (w.setCell ⟨g, 5, none⟩ (.int .i64 ((z.co : Int) + 1))) g lo hi ⟨z.st, z.sg, z.ou, z.co + 1⟩ vS vO :=
  h.put 5 _ z.st (z.co + 1) rfl
end
theorem evZ_no {V : List (List UInt8)} {f : Nat} {e : T} {z : Ex1} (h : f ≤ z.co) : evZ V f e z = (⟨3, z.sg, z.ou, z.co⟩, 0) := if_pos h
theorem evZ_yes {V : List (List UInt8)} {f : Nat} {e : T} {z : Ex1} (h : ¬ f ≤ z.co) : evZ V f e z = (⟨if (evT V z.sg e).2 = true then 0 else 2, z.sg, z.ou, z.co + 1⟩, (evT V z.sg e).1) := if_neg h
theorem mEval (V : List (List UInt8)) (AV : Option Addr) (cV f base g lo hi : Nat) (z : Ex1) (e : T) (v vS vO : Value) (w : World) (hX : XAt (layM (.slice AV V.length cV) f) RM w g lo hi z vS vO) (hz : z.st = 0) (hf : f ≤ 400) (hbg : base ≤ g) (hv : Ex w base v e) (hc : cntT e ≤ 2000000)
    (hV : Rd w base AV (V.map sv)) (hn : V.length ≤ maxI) :
    Calls Tryz.prog 91 #[.pointer (some ⟨g, 0, none⟩), v] w fun x w' => x = .returned (.int .i64 (evZ V f e z).2) ∧ XAt (layM (.slice AV V.length cV) f) RM w' g lo hi (evZ V f e z).1 vS vO ∧ w.grownBy w' (some g) := by
  obtain ⟨k, n, s, EA, l, c, rfl⟩ := hv.form
  obtain ⟨zs, S, O, co⟩ := z
  obtain rfl : zs = 0 := hz
  obtain ⟨AS, cS, rfl, -, hSl, -⟩ := hX.state
  dsimp only at hSl hX ⊢
  have hb1 := box_below w (.cells #[.int .i64 k, .int .i64 n, sv s, .slice EA l c] 92)
  have z1 := hb1.size
  have E1 := hid (box_blk w k n s EA l c 92)
  have hX1 := hX.below hb1
  have hv1 := hv.blw (hb1.mono (by have := hX.lt; omega))
  have hV1 := hV.below (hb1.mono (by have := hX.lt; omega))
  have G1 := gb_below (gb_refl w (some g)) hb1
  have hgl := hX.lt
  generalize hw1 : (w.alloc (.cells #[.int .i64 k, .int .i64 n, sv s, .slice EA l c] 92)) = w1 at *
  have dr := fun q => bdr (Below.refl w1.heap.size w1) q
  by_cases hfc : f ≤ co
  · have hR := hid (evZ_no (V := V) (e := e) (z := ⟨0, S, O, co⟩) hfc)
    have t1 : decide (f ≤ co) = true := decide_eq_true hfc
    have hF := hid (fun q => putM_st (hX1.below (dr q)) 3)
    have G2 := hid (fun q => gb_set (gb_below G1 (dr q)) 2 (.int .i64 3))
    obtain ⟨p0, p1, p2, p3, p4, p5⟩ := six hX1.blk
    have f2 := hX1.blk.frozen 2
    replace hX1 := hid hX1
    clear hX hb1 hv hV hv1 hV1 G1 hSl hc hn hfc dr z1 hgl
    subst hw1
    go_enter Tryz.func91, Tryz.ntmps91
    go_wp2_with fail
    generalize (w.alloc (.cells #[.int .i64 k, .int .i64 n, sv s, .slice EA l c] 92)) = w1 at *
    go_quiet (fail)
    go_wp2_with fail
    go_ret
    exact ⟨by rw [hR.out]; rfl, by rw [hR.out]; exact hF.out _, G2.out _⟩
  · have hR := hid (evZ_yes (V := V) (e := e) (z := ⟨0, S, O, co⟩) hfc)
    have t1 : decide (f ≤ co) = false := decide_eq_false hfc
    have hcs : co + 1 ≤ 400 := by omega
    have hF := fun q => putM_co (hX1.below (dr q))
    have G2 := hid (fun q => gb_set (gb_below G1 (dr q)) 5 (.int .i64 ((co : Int) + 1)))
    have B2 := fun q => bgb (Below.refl base w1) (gb_set (gb_below (gb_refl w1 (some g)) (dr q)) 5 (.int .i64 ((co : Int) + 1))) (by omega) hbg
    have zq : ∀ q, ((w1.drewN q).setCell ⟨g, 5, none⟩ (.int .i64 ((co : Int) + 1))).heap.size = w1.heap.size := fun q => by simp [World.setCell]
    have E2 := hid (fun q => show Blk ((w1.drewN q).setCell ⟨g, 5, none⟩ (.int .i64 ((co : Int) + 1))) _ _ _ from (E1.out.below (dr q) (E1.out.lt)).far (p := ⟨g, 5, none⟩) (show w.heap.size ≠ g by omega) _)
    have V2 := hid (fun q => (hV1.below (B2 q)).more (show base ≤ ((w1.drewN q).setCell ⟨g, 5, none⟩ (.int .i64 ((co : Int) + 1))).heap.size by rw [zq]; omega))
    have v2 := hid (fun q => (hv1.blw (B2 q)).more (show base ≤ ((w1.drewN q).setCell ⟨g, 5, none⟩ (.int .i64 ((co : Int) + 1))).heap.size by rw [zq]; omega))
    have hF := hid hF
    obtain ⟨p0, p1, p2, p3, p4, p5⟩ := six hX1.blk
    have f5 := hX1.blk.frozen 5
    replace hX1 := hid hX1
    clear hX hb1 hv hV hv1 hV1 G1 hfc dr z1 hgl B2 zq
    subst hw1
    go_enter Tryz.func91, Tryz.ntmps91
    go_wp2_with fail
    generalize (w.alloc (.cells #[.int .i64 k, .int .i64 n, sv s, .slice EA l c] 92)) = w1 at *
    go_quiet (fail)
    go_wp2_with fail
    have F2 := hid (hF.out nq)
    have E3 := hid (E2.out nq)
    have V3 := hid (V2.out nq)
    have v3 := hid (v2.out nq)
    have G3 := hid (G2.out nq)
    clear hF E2 V2 v2 G2 p0 p1 p2 p3 p4 p5 f5 hX1 E1
    generalize ((w1.drewN nq).setCell ⟨g, 5, none⟩ (.int .i64 ((co : Int) + 1))) = w2 at *
    obtain ⟨p0, p1, p2, p3, p4, p5⟩ := six F2.out.blk
    obtain ⟨e0, e1, e2, e3⟩ := four E3.out
    obtain ⟨AS', cS', eS, hS2, -, -⟩ := F2.out.state
    dsimp only at eS hS2
    injection eS with q1 _ q2
    subst q1 q2
    have hcl := fun (d : Nat) (os : Array Obj) => Calls.regrown_of (d := d) (os := os) (sevalOf V S hn hSl e (nv k n s EA l c) AV AS cV cS (grow (redrawn w2 d) os) (v3.out.go (below_regrown w2 d os)) hc (rd_go V3.out (below_regrown w2 d os)) (rd_go hS2 (below_regrown w2 d os)))
    have F2' := hid (fun d os => F2.out.below (below_regrown w2 d os))
    have G3' := hid (fun d os => gb_below G3.out (below_regrown w2 d os))
    generalize evT V S e = R at *
    obtain ⟨x, ok⟩ := R
    dsimp only at hcl hR
    have cM := hid hcl
    replace p0 := cell_regrown p0
    replace p1 := cell_regrown p1
    replace p2 := cell_regrown p2
    replace p3 := cell_regrown p3
    replace p4 := cell_regrown p4
    replace p5 := cell_regrown p5
    replace e0 := cell_regrown e0
    replace e1 := cell_regrown e1
    replace e2 := cell_regrown e2
    replace e3 := cell_regrown e3
    clear hcl hS2 E3 V3 v3 F2 G3 hc hn hSl
    refine wp_region_quiet_below (by kernel_rfl) (by kernel_rfl) ?_
    repeat (go_big_quiet_step (exact cM.out _ _))
    refine wpQuiet_nil ?_
    intro _ hw'
    obtain ⟨⟨dq, osq⟩, hw''⟩ := hw'
    subst hw''
    have F4 := F2'.out dq osq
    have G4 := hid (G3'.out dq osq)
    clear p0 p1 p2 p3 p4 p5 e0 e1 e2 e3 cM F2' G3'
    generalize grow (redrawn w2 dq) osq = w4 at *
    obtain ⟨p0, p1, p2, p3, p4, p5⟩ := six F4.blk
    have f2 := F4.blk.frozen 2
    cases ok with
    | true =>
      have F4 := hid F4
      go_wp2_with fail
      go_ret
      exact ⟨by rw [hR.out]; rfl, by rw [hR.out]; exact F4.out, G4.out⟩
    | false =>
      have F5 := hid (putM_st F4 2)
      have G5 := hid (gb_set G4.out 2 (.int .i64 2))
      have F4 := hid F4
      go_wp2_with fail
      go_ret
      exact ⟨by rw [hR.out]; rfl, by rw [hR.out]; exact F5.out, G5.out⟩
end Go.Proofs.YtnmomlaimffonaaGreat.Rn
