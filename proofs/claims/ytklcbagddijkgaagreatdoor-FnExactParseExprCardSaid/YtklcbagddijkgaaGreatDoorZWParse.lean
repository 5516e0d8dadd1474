/- FnExactParseExpr: the law's walk. -/
import Derived.Test.YtklcbagddijkgaaGreatDoorZP6i
import Derived.Test.YtklcbagddijkgaaGreatDoorZC6d
import Derived.Test.YtklcbagddijkgaaGreatDoorZHe
set_option maxRecDepth 100000
namespace Go.Proofs.YtklcbagddijkgaaGreatDoor.WExactParseExpr
open Go.RowKit Go.Lib Go.Sort Go.Proofs.YtklcbagddijkgaaGreatDoor.Com Go.Proofs.YtklcbagddijkgaaGreatDoor.Mem Go.Proofs.YtklcbagddijkgaaGreatDoor.Os Go.Proofs.YtklcbagddijkgaaGreatDoor.Ow Go.Proofs.YtklcbagddijkgaaGreatDoor.Tr Go.Proofs.YtklcbagddijkgaaGreatDoor.Tk

/-- an expression of the call's own, in a block of its own behind it -/
structure Boxed (lo b : Nat) (w : World) (K N : Int) (s : List UInt8) (A : Option Addr) (L cc : Nat) (t : T) : Prop where
  own : OwnX lo b w (nv K N s A L cc) t
  box : Blk w b ET [.int .i64 K, .int .i64 N, .string ⟨s.toArray⟩, .slice A L cc]
section
variable {lo b : Nat} {w w' : World} {K N : Int} {s : List UInt8} {A : Option Addr} {L cc : Nat} {t : T}
theorem Boxed.below (h : Boxed lo b w K N s A L cc t) (hb : Below w.heap.size w w') : Boxed lo b w' K N s A L cc t := by
  have hl := h.box.lt
  exact ⟨h.own.same (same_below hb (by omega)), h.box.below hb hl⟩
theorem Boxed.far {lo' hi' : Nat} (h : Boxed lo b w K N s A L cc t) (hc : Chg w w' lo' hi') (hn : b < lo' ∨ hi' ≤ lo) (hn2 : b < lo' ∨ hi' ≤ b) : Boxed lo b w' K N s A L cc t :=
  ⟨h.own.chg hc (by omega), blk_chg h.box hc hn2⟩
theorem Boxed.new (h : OwnX lo w.heap.size w (nv K N s A L cc) t) : Boxed lo w.heap.size (w.alloc (.cells #[.int .i64 K, .int .i64 N, .string ⟨s.toArray⟩, .slice A L cc] ET)) K N s A L cc t :=
  ⟨h.same (same_below (box_below _ _) (Nat.le_refl _)), Blk.new w ET _⟩
end
theorem cnt_parse (S : List UInt8) : cntT (parseV S).1 ≤ 1000000 := by
  unfold parseV
  rcases parse_off S with ⟨t, h, hok⟩ | ⟨a, h, _⟩
  · rw [h]
    have := (by unfold okT at hok; simp only [Bool.and_eq_true, decide_eq_true_eq] at hok; exact hok.1 : cntT t ≤ 12)
    dsimp only
    omega
  · rw [h]
    dsimp only
    rw [cntT_mk]; simp [cntK]
set_option maxHeartbeats 8000000 in
theorem walk (w : World) (hnv : NotV w) (hh : As.Handle w) (S : List UInt8) (hS : S.length ≤ 9223372036854775807) :
    Calls Tryz.prog 7 #[.string ⟨S.toArray⟩] w fun e w' => e = .returned (.bool true) ∧ Below w.heap.size w w' := by
  by_cases hbig : 1048576 < S.length
  · have t1 : decide (1048576 < (S.length : Int)) = true := decide_eq_true (by omega)
    go_enter Tryz.func7, Tryz.ntmps7
    go_wp2_with fail
    go_ret
    exact ⟨rfl, Below.refl _ _⟩
  have t1 : decide (1048576 < (S.length : Int)) = false := decide_eq_false (by omega)
  have hnv := hid (fun (w1 : World) (h : Below w.heap.size w w1) => hnv.below h)
  have hh := hid (fun (w1 : World) (h : Below w.heap.size w w1) => hand_below hh h)
  have hi1 := hid (fun w1 hb => iparse_any S hS w1 (hnv.out w1 hb) (hh.out w1 hb))
  have hi2 := hid (fun w => sparse_any S hS w)
  have hcn := cnt_parse S
  replace hi1 := hid (show ∀ w1, Below w.heap.size w w1 → Calls Tryz.prog 12 #[.string ⟨S.toArray⟩] w1 fun e w' => ∃ K N s A L cc, e = .returned (.tuple #[nv K N s A L cc, .int .i64 (parseV S).2]) ∧ OwnE ET w' w1.heap.size w'.heap.size (nv K N s A L cc) (parseV S).1 ∧ Below w1.heap.size w1 w' from hi1.out)
  replace hi2 := hid (show ∀ w, Calls Tryz.prog 13 #[.string ⟨S.toArray⟩] w fun e w' => ∃ K N s A L cc, e = .returned (.tuple #[nv K N s A L cc, .int .i64 (parseV S).2]) ∧ OwnE ET w' w.heap.size w'.heap.size (nv K N s A L cc) (parseV S).1 ∧ Below w.heap.size w w' from hi2.out)
  generalize parseV S = pv at *
  obtain ⟨t, bad⟩ := pv
  dsimp only at hi1 hi2 hcn
  have bd : markC t ≤ 3000000 := by unfold markC; omega
  have cmp : (bad != bad) = false := bne_self_eq_false _
  have cmpm : ((1 + ((markC t : Nat) : Int)) != (1 + ((markC t : Nat) : Int))) = false := bne_self_eq_false _
  have tm : decide (1 + ((markC t : Nat) : Int) < 0) = false := decide_eq_false (by omega)
  go_enter Tryz.func7, Tryz.ntmps7
  go_wp2_with fail
  refine (hi2.out w).mono ?_
  rintro e w1 ⟨Kw, Nw, sw, Aw, Lw, cw, rfl, o1, hb⟩
  have b2 := box_below w1 (.cells #[.int .i64 Kw, .int .i64 Nw, .string ⟨sw.toArray⟩, .slice Aw Lw cw] ET)
  have B2 := hid (hb.trans (b2.mono hb.size))
  have W2 := hid (Boxed.new o1)
  have z1 := hb.size
  have z2 : (w1.alloc (.cells #[.int .i64 Kw, .int .i64 Nw, .string ⟨sw.toArray⟩, .slice Aw Lw cw] ET)).heap.size = w1.heap.size + 1 := size_alloc' _ _
  clear o1 hb b2 hi2
  go_wp2_with fail
  generalize (w1.alloc (.cells #[.int .i64 Kw, .int .i64 Nw, .string ⟨sw.toArray⟩, .slice Aw Lw cw] ET)) = w2 at *
  generalize hbw : w1.heap.size = bw at *
  refine (hi1.out w2 B2.out).mono ?_
  rintro e w3 ⟨Kg, Ng, sg, Ag, Lg, cg, rfl, o3, hb⟩
  have b4 := box_below w3 (.cells #[.int .i64 Kg, .int .i64 Ng, .string ⟨sg.toArray⟩, .slice Ag Lg cg] ET)
  have z3 := hb.size
  have B4 := hid ((B2.out.trans (hb.mono B2.out.size)).trans (b4.mono (by omega)))
  have W4 := hid ((W2.out.below hb).below b4)
  have G4 := hid (Boxed.new o3)
  have z4 : (w3.alloc (.cells #[.int .i64 Kg, .int .i64 Ng, .string ⟨sg.toArray⟩, .slice Ag Lg cg] ET)).heap.size = w3.heap.size + 1 := size_alloc' _ _
  clear o3 hb b4 W2 B2
  obtain ⟨g0, g1, g2, g3⟩ := Tr.four G4.out.box
  obtain ⟨v0, v1, v2, v3⟩ := Tr.four W4.out.box
  have heq := hid (eqE_own _ G4.out.own W4.out.own)
  go_wp2_with fail
  generalize (w3.alloc (.cells #[.int .i64 Kg, .int .i64 Ng, .string ⟨sg.toArray⟩, .slice Ag Lg cg] ET)) = w4 at *
  generalize hbg : w3.heap.size = bg at *
  have lg := G4.out.box.lt
  refine heq.out.mono ?_
  rintro e w5 ⟨rfl, hb⟩
  have z5 := hb.size
  have W5 := hid (W4.out.below hb)
  have G5 := hid (G4.out.below hb)
  have B5 := hid (B4.out.trans (hb.mono (by omega)))
  clear g0 g1 g2 g3 v0 v1 v2 v3 hb heq W4 G4 B4
  obtain ⟨g0, g1, g2, g3⟩ := Tr.four G5.out.box
  go_wp2_with fail
  refine (markE_own 1 w5 G5.out.own (by omega) (by omega)).mono ?_
  rintro e w6 ⟨rfl, om, hc⟩
  have z6 := hc.size
  have W6 := hid (W5.out.far hc (by omega) (by omega))
  have X6 := hid (blk_chg G5.out.box hc (Or.inr (Nat.le_refl _)))
  have B6 := hid (below_chg B5.out hc (by omega) (by omega))
  have O6 := hid om
  clear g0 g1 g2 g3 hc om W5 G5 B5
  obtain ⟨g0, g1, g2, g3⟩ := Tr.four X6.out
  go_wp2_with fail
  refine (heldE_own 1 w6 O6.out (by omega) (by omega)).mono ?_
  rintro e w7 ⟨rfl, hb⟩
  have z7 := hb.size
  have W7 := hid (W6.out.below hb)
  have G7 := hid (show Boxed _ bg w7 Kg Ng sg Ag Lg cg _ from (Boxed.mk O6.out X6.out).below hb)
  have B7 := hid (B6.out.trans (hb.mono (by omega)))
  clear g0 g1 g2 g3 hb W6 X6 B6 O6
  go_wp2_with fail
  refine (hi1.out w7 B7.out).mono ?_
  rintro e w8 ⟨Kh, Nh, sh, Ah, Lh, ch, rfl, o8, hb⟩
  have b9 := box_below w8 (.cells #[.int .i64 Kh, .int .i64 Nh, .string ⟨sh.toArray⟩, .slice Ah Lh ch] ET)
  have z8 := hb.size
  have B9 := hid ((B7.out.trans (hb.mono (by omega))).trans (b9.mono (by omega)))
  have W9 := hid ((W7.out.below hb).below b9)
  have G9 := hid ((G7.out.below hb).below b9)
  have H9 := hid (Boxed.new o8)
  have z9 : (w8.alloc (.cells #[.int .i64 Kh, .int .i64 Nh, .string ⟨sh.toArray⟩, .slice Ah Lh ch] ET)).heap.size = w8.heap.size + 1 := size_alloc' _ _
  clear o8 hb b9 W7 G7 B7 hi1
  obtain ⟨h0, h1, h2, h3⟩ := Tr.four H9.out.box
  obtain ⟨v0, v1, v2, v3⟩ := Tr.four W9.out.box
  have heq := hid (eqE_own _ H9.out.own W9.out.own)
  clear H9
  go_wp2_with fail
  generalize (w8.alloc (.cells #[.int .i64 Kh, .int .i64 Nh, .string ⟨sh.toArray⟩, .slice Ah Lh ch] ET)) = w9 at *
  refine heq.out.mono ?_
  rintro e w10 ⟨rfl, hb⟩
  have z10 := hb.size
  have G10 := hid (G9.out.below hb)
  have B10 := hid (B9.out.trans (hb.mono (by omega)))
  clear h0 h1 h2 h3 v0 v1 v2 v3 hb heq W9 G9 B9
  obtain ⟨g0, g1, g2, g3⟩ := Tr.four G10.out.box
  go_wp2_with fail
  refine (heldE_own 1 w10 G10.out.own (by omega) (by omega)).mono ?_
  rintro e w11 ⟨rfl, hb⟩
  have B11 := hid (B10.out.trans (hb.mono (by omega)))
  clear g0 g1 g2 g3 hb G10 B10
  go_wp2_with fail
  go_ret
  exact ⟨rfl, B11.out⟩
end Go.Proofs.YtklcbagddijkgaaGreatDoor.WExactParseExpr
