/- Outcomes: two lists of integers between two integers; measured, copied, compared and marked by the laws. -/
import Derived.Test.YtnmomlaimffonaaGreatZOi
set_option maxHeartbeats 1000000
set_option maxRecDepth 100000
namespace Go.Proofs.YtnmomlaimffonaaGreat.Oc
open Go.RowKit Go.Lib Go.Sort Com Mem YtnmomlaimffonaaGreat.Os Ow
structure Oc where
  st : Int
  sg : List Int
  ou : List Int
  co : Int
abbrev ov (st : Int) (A : Option Addr) (l c : Nat) (A' : Option Addr) (l' c' : Nat) (co : Int) : Value := .agg #[.int .i64 st, .slice A l c, .slice A' l' c', .int .i64 co]
abbrev I63 : Nat := 9223372036854775807
theorem bxb (w : World) (o : Obj) : Below w.heap.size w (w.alloc o) := (Below.refl _ _).alloc (Nat.le_refl _) _
theorem fourO {w : World} {g ty : Nat} {a b c d : Value} (h : Blk w g ty [a, b, c, d]) : w.cell? ⟨g, 0, none⟩ = some a ∧ w.cell? ⟨g, 1, none⟩ = some b ∧ w.cell? ⟨g, 2, none⟩ = some c ∧ w.cell? ⟨g, 3, none⟩ = some d := ⟨h.cell 0, h.cell 1, h.cell 2, h.cell 3⟩
theorem box_blkO (w : World) (st : Int) (A : Option Addr) (l c : Nat) (A' : Option Addr) (l' c' : Nat) (co : Int) (ty : TypeId) : Blk (w.alloc (.cells #[.int .i64 st, .slice A l c, .slice A' l' c', .int .i64 co] ty)) w.heap.size ty [.int .i64 st, .slice A l c, .slice A' l' c', .int .i64 co] := Blk.new w ty _
def OcAt (w : World) (B : Nat) (v : Value) (o : Oc) : Prop := ∃ A c A' c', v = ov o.st A o.sg.length c A' o.ou.length c' o.co ∧ Rd w B A (o.sg.map iv) ∧ o.sg.length ≤ I63 ∧ Rd w B A' (o.ou.map iv) ∧ o.ou.length ≤ I63
theorem OcAt.form {w : World} {B : Nat} {v : Value} {o : Oc} (h : OcAt w B v o) : ∃ st A l c A' l' c' co, v = .agg #[.int .i64 st, .slice A l c, .slice A' l' c', .int .i64 co] := by
  obtain ⟨A, c, A', c', e, _⟩ := h
  exact ⟨_, _, _, _, _, _, _, _, e⟩
def OwnOc (lo hi : Nat) (w : World) (v : Value) (o : Oc) : Prop := ∃ vS vO m, v = .agg #[.int .i64 o.st, vS, vO, .int .i64 o.co] ∧ lo ≤ m ∧ m ≤ hi ∧ OwnI lo m w vS o.sg ∧ OwnI m hi w vO o.ou
section
variable {lo hi : Nat} {w w' : World} {v : Value} {o : Oc}
theorem OwnOc.same (h : OwnOc lo hi w v o) (hs : Same lo hi w w') : OwnOc lo hi w' v o := by
  obtain ⟨vS, vO, m, e, h1, h2, h3, h4⟩ := h
  exact ⟨vS, vO, m, e, h1, h2, h3.same fun k h5 h6 => hs k h5 (by omega), h4.same fun k h5 h6 => hs k (by omega) h6⟩
theorem OwnOc.at_ (h : OwnOc lo hi w v o) : OcAt w w.heap.size v o := by
  obtain ⟨vS, vO, m, e, h1, h2, h3, h4⟩ := h
  obtain ⟨A, c, rfl, r1, l1, m1, _⟩ := h3.read_
  obtain ⟨A', c', rfl, r2, l2, m2, _⟩ := h4.read_
  exact ⟨A, c, A', c', e, r1, by unfold maxLen at m1; unfold I63; omega, r2, by unfold maxLen at m2; unfold I63; omega⟩
theorem OwnOc.form (h : OwnOc lo hi w v o) : ∃ st A l c A' l' c' co, v = .agg #[.int .i64 st, .slice A l c, .slice A' l' c', .int .i64 co] := h.at_.form
end
abbrev OT : TypeId := 32
abbrev putO (w : World) (b : Nat) (st : Int) (vS vO : Value) (co : Int) : World := (((w.setCell ⟨b, 0, none⟩ (.int .i64 st)).setCell ⟨b, 1, none⟩ vS).setCell ⟨b, 2, none⟩ vO).setCell ⟨b, 3, none⟩ (.int .i64 co)
theorem putO_at {w a : World} {b lo : Nat} {z0 z1 z2 z3 : Value} (h : Blk w b OT [z0, z1, z2, z3]) (hb : Below lo a w) (hl : lo ≤ b) (st : Int) (vS vO : Value) (co : Int) :
    Blk (putO w b st vS vO co) b OT [.int .i64 st, vS, vO, .int .i64 co] ∧ Below lo a (putO w b st vS vO co) ∧ (∀ k, k ≠ b → (putO w b st vS vO co).heap[k]? = w.heap[k]?) ∧ (putO w b st vS vO co).heap.size = w.heap.size :=
  ⟨(((h.set_ 0 _).set_ 1 _).set_ 2 _).set_ 3 _, (((hb.setCell (p := ⟨b, 0, none⟩) hl _).setCell (p := ⟨b, 1, none⟩) hl _).setCell (p := ⟨b, 2, none⟩) hl _).setCell (p := ⟨b, 3, none⟩) hl _,
    fun k hk => by rw [heap_setCell_other _ _ _ _ hk, heap_setCell_other _ _ _ _ hk, heap_setCell_other _ _ _ _ hk, heap_setCell_other _ _ _ _ hk], by simp [World.setCell]⟩
theorem eqOc_at (o : Oc) (v v' : Value) (w : World) (h : OcAt w w.heap.size v o) (h' : OcAt w w.heap.size v' o) :
    Calls Tryz.prog 20 #[v, v'] w fun e w' => e = .returned (.bool true) ∧ Below w.heap.size w w' := by
  obtain ⟨A, c, A', c', rfl, r1, l1, r2, l2⟩ := h
  obtain ⟨D, d, D', d', rfl, r3, l3, r4, l4⟩ := h'
  obtain ⟨st, sg, ou, co⟩ := o
  dsimp only at *
  have b1 := bxb w (.cells #[.int .i64 st, .slice A sg.length c, .slice A' ou.length c', .int .i64 co] 32)
  have z1 := size_alloc' w (.cells #[.int .i64 st, .slice A sg.length c, .slice A' ou.length c', .int .i64 co] 32)
  have b2 := b1.trans ((bxb (w.alloc (.cells #[.int .i64 st, .slice A sg.length c, .slice A' ou.length c', .int .i64 co] 32)) (.cells #[.int .i64 st, .slice D sg.length d, .slice D' ou.length d', .int .i64 co] 32)).mono (by omega))
  have x1 := (box_blkO w st A sg.length c A' ou.length c' co 32).alloc (.cells #[.int .i64 st, .slice D sg.length d, .slice D' ou.length d', .int .i64 co] 32)
  have x2 := box_blkO (w.alloc (.cells #[.int .i64 st, .slice A sg.length c, .slice A' ou.length c', .int .i64 co] 32)) st D sg.length d D' ou.length d' co 32
  rw [z1] at x2
  have cS := hid (fun wx (hb : Below w.heap.size w wx) => eqI_any A D c d sg wx ((r1.below hb).more hb.size) ((r3.below hb).more hb.size) l1)
  have cO := hid (fun wx (hb : Below w.heap.size w wx) => eqI_any A' D' c' d' ou wx ((r2.below hb).more hb.size) ((r4.below hb).more hb.size) l2)
  have m1 : (st != st) = false := bne_self_eq_false _
  have m2 : (co != co) = false := bne_self_eq_false _
  replace b2 := hid b2
  replace x1 := hid x1
  replace x2 := hid x2
  clear r1 r2 r3 r4 l1 l2 l3 l4 b1 z1
  go_enter Tryz.func20, Tryz.ntmps20
  obtain ⟨k0, k1, k2, k3⟩ := fourO x1.out
  obtain ⟨j0, j1, j2, j3⟩ := fourO x2.out
  go_wp2_with fail
  refine (cS.out _ b2.out).mono ?_
  rintro e3 w3 ⟨rfl, hb⟩
  have b3 := hid (b2.out.trans (hb.mono b2.out.size))
  have y1 := hid (x1.out.below hb x1.out.lt)
  have y2 := hid (x2.out.below hb x2.out.lt)
  clear hb k0 k1 k2 k3 j0 j1 j2 j3 x1 x2 b2 cS
  obtain ⟨k0, k1, k2, k3⟩ := fourO y1.out
  obtain ⟨j0, j1, j2, j3⟩ := fourO y2.out
  go_wp2_with fail
  refine (cO.out _ b3.out).mono ?_
  rintro e4 w4 ⟨rfl, hb⟩
  have b4 := hid (b3.out.trans (hb.mono b3.out.size))
  have y3 := hid (y1.out.below hb y1.out.lt)
  have y4 := hid (y2.out.below hb y2.out.lt)
  clear hb k0 k1 k2 k3 j0 j1 j2 j3 y1 y2 b3 cO
  obtain ⟨k0, k1, k2, k3⟩ := fourO y3.out
  obtain ⟨j0, j1, j2, j3⟩ := fourO y4.out
  go_wp2_with fail
  go_ret
  exact ⟨rfl, b4.out⟩
theorem eqOc_own {lo lo' hi hi' : Nat} {v v' : Value} {o : Oc} (w : World) (h : OwnOc lo hi w v o) (h' : OwnOc lo' hi' w v' o) :
    Calls Tryz.prog 20 #[v, v'] w fun e w' => e = .returned (.bool true) ∧ Below w.heap.size w w' := eqOc_at o v v' w h.at_ h'.at_
def cntOc (o : Oc) : Nat := o.sg.length + o.ou.length
def markO (k : Nat) (o : Oc) : Oc := ⟨o.st, marksI k o.sg.length, marksI (k + o.sg.length) o.ou.length, o.co⟩
theorem markOc_own {lo hi : Nat} {v : Value} {o : Oc} (kI : Int) (w : World) (h : OwnOc lo hi w v o) (h0 : 0 < kI) (h1 : kI + ((cntOc o : Nat) : Int) ≤ 9223372036000000000) (hs : hi ≤ w.heap.size) :
    Calls Tryz.prog 25 #[v, .int .i64 kI] w fun e w' => e = .returned (.int .i64 (kI + ((cntOc o : Nat) : Int))) ∧ OwnOc lo hi w' v (markO kI.toNat o) ∧ Chg w w' lo hi := by
  obtain ⟨vS, vO, m, rfl, g1, g2, oS, oO⟩ := h
  obtain ⟨st, sg, ou, co⟩ := o
  unfold cntOc at *
  dsimp only at *
  have b := bxb w (.cells #[.int .i64 st, vS, vO, .int .i64 co] 32)
  have x := Blk.new w 32 [.int .i64 st, vS, vO, .int .i64 co]
  have z := size_alloc' w (.cells #[.int .i64 st, vS, vO, .int .i64 co] 32)
  have oS1 := oS.same (same_below b (by omega))
  have oO1 := hid (oO.same (same_below b (by omega)))
  have cM := hid (markI_own kI _ oS1 h0 (by omega))
  have cN := hid (fun wx (hx : OwnI m hi wx vO ou) => markI_own (kI + (sg.length : Int)) wx hx (by omega) (by omega))
  have hC := chg_of_below b lo hi
  have oS2 := oS1
  obtain ⟨A, c, rfl, -⟩ := oS.read_
  obtain ⟨A', c', rfl, -⟩ := oO.read_
  have hk : (kI + (sg.length : Int)).toNat = kI.toNat + sg.length := by omega
  have hfin := hid (show kI + ((sg.length + ou.length : Nat) : Int) = kI + (sg.length : Int) + (ou.length : Int) by omega)
  rw [hk] at cN
  replace hC := hid hC
  replace oS2 := hid oS2
  replace hk := hid hk
  replace z := hid z
  have hx := hid x
  clear oS oO b oS1
  go_enter Tryz.func25, Tryz.ntmps25
  obtain ⟨k0, k1, k2, k3⟩ := fourO x
  clear x
  go_wp2_with fail
  generalize (w.alloc (.cells #[.int .i64 st, .slice A sg.length c, .slice A' ou.length c', .int .i64 co] 32)) = w1 at *
  refine cM.out.mono ?_
  rintro e w2 ⟨rfl, p2, hg⟩
  have hne : ∀ q, (Value.slice A sg.length c).ownBlock = some q → lo ≤ q ∧ q < m := fun q hq => by
    obtain ⟨h3, h4, _⟩ := oS2.out.block_ hq
    exact ⟨h3, h4⟩
  have hz := z.out
  have C2 : Chg w1 w2 lo m := ⟨hg.os, hg.tape, hg.output, hg.size, fun k hk hr => hg.block k hk fun e => by
    have := hne k e.symm; omega⟩
  have x2 := hid (show Blk w2 w.heap.size _ _ from (C2.block w.heap.size hx.out.lt (by omega)).trans hx.out)
  have oO2 := oO1.out.same (same_chg C2 (by omega) (by omega))
  have C3 := hid (chg_trans hC.out (chg_mono C2 (Nat.le_refl _) g2))
  have cN2 := hid (cN.out w2 oO2)
  replace oO2 := hid oO2
  have z2 := C2.size
  have p2 := hid p2
  clear hne hg cM cN oS2 oO1 hC k0 k1 k2 k3 C2
  obtain ⟨k0, k1, k2, k3⟩ := fourO x2.out
  go_wp2_with fail
  refine cN2.out.mono ?_
  rintro e w3 ⟨rfl, p3, hg⟩
  have hne : ∀ q, (Value.slice A' ou.length c').ownBlock = some q → m ≤ q ∧ q < hi := fun q hq => by
    obtain ⟨h3, h4, _⟩ := oO2.out.block_ hq
    exact ⟨h3, h4⟩
  have C4 : Chg w2 w3 m hi := ⟨hg.os, hg.tape, hg.output, hg.size, fun k hk hr => hg.block k hk fun e => by
    have := hne k e.symm; omega⟩
  have p4 := hid (show OwnI lo m w3 _ _ from p2.out.same (same_chg C4 (by omega) (by omega)))
  have C5 := hid (chg_trans C3.out (chg_mono C4 g1 (Nat.le_refl _)))
  have p3 := hid p3
  clear hne hg cN2 oO2 C3 C4 p2 k0 k1 k2 k3
  go_wp2_with fail
  go_ret
  refine ⟨by rw [hfin.out]; rfl, ⟨_, _, m, ?_, g1, g2, p4.out, p3.out⟩, C5.out⟩
  rfl
theorem heldOc_own {lo hi : Nat} {v : Value} {o : Oc} (kI : Int) (w : World) (h : OwnOc lo hi w v (markO kI.toNat o)) (h0 : 0 < kI) (h1 : kI + ((cntOc o : Nat) : Int) ≤ 9223372036000000000) :
    Calls Tryz.prog 26 #[v, .int .i64 kI] w fun e w' => e = .returned (.int .i64 (kI + ((cntOc o : Nat) : Int))) ∧ Below w.heap.size w w' := by
  obtain ⟨vS, vO, m, rfl, g1, g2, oS, oO⟩ := h
  obtain ⟨st, sg, ou, co⟩ := o
  unfold cntOc markO at *
  dsimp only at *
  have b := bxb w (.cells #[.int .i64 st, vS, vO, .int .i64 co] 32)
  have x := Blk.new w 32 [.int .i64 st, vS, vO, .int .i64 co]
  have rest : ∀ {lo hi : Nat} {v : Value} {xs : List Value}, Own 3 lo hi w v xs → Own 3 lo hi (w.alloc (.cells #[.int .i64 st, vS, vO, .int .i64 co] 32)) v xs := fun h => h.gb_ (row := none) ⟨b.os, b.tape, b.output, b.size, fun k hk _ => b.block k hk⟩ fun _ _ e => by cases e
  have oS1 := rest oS
  have oO1 := rest oO
  have hk : (kI + (sg.length : Int)).toNat = kI.toNat + sg.length := by omega
  have cM := hid (heldI_own kI _ oS1 h0 (by omega))
  rw [← hk] at oO1
  have cN := hid (heldI_own (kI + (sg.length : Int)) _ oO1 (by omega) (by omega))
  obtain ⟨A, c, rfl, -⟩ := oS.read_
  obtain ⟨A', c', rfl, -⟩ := oO.read_
  have hfin := hid (show kI + ((sg.length + ou.length : Nat) : Int) = kI + (sg.length : Int) + (ou.length : Int) by omega)
  have t1 : decide (kI + (sg.length : Int) < 0) = false := decide_eq_false (by omega)
  have t2 : decide (kI + (sg.length : Int) + (ou.length : Int) < 0) = false := decide_eq_false (by omega)
  simp only [marksI_length] at *
  replace b := hid b
  clear oS oO oS1 oO1 hk rest
  go_enter Tryz.func26, Tryz.ntmps26
  obtain ⟨k0, k1, k2, k3⟩ := fourO x
  clear x
  go_wp2_with fail
  generalize (w.alloc (.cells #[.int .i64 st, .slice A sg.length c, .slice A' ou.length c', .int .i64 co] 32)) = w1 at *
  refine cM.out.mono ?_
  rintro e w2 ⟨rfl, rfl⟩
  go_wp2_with fail
  refine cN.out.mono ?_
  rintro e w3 ⟨rfl, rfl⟩
  go_wp2_with fail
  go_ret
  exact ⟨by rw [hfin.out]; rfl, b.out⟩
theorem markIc_own {lo hi : Nat} {v : Value} {l : List Int} (kI : Int) (w : World) (h : OwnI lo hi w v l) (h0 : 0 < kI) (h1 : kI + ((l.length : Nat) : Int) ≤ 9223372036854775807) :
    Calls Tryz.prog 24 #[v, .int .i64 kI] w fun e w' => e = .returned (.int .i64 (kI + ((l.length : Nat) : Int))) ∧ OwnI lo hi w' v (marksI kI.toNat l.length) ∧ Chg w w' lo hi := by
  have hb := fun q (hq : v.ownBlock = some q) => h.block_ hq
  refine (markI_own kI w h h0 h1).mono fun e w' ⟨e1, o, hg⟩ => ⟨e1, o, ⟨hg.os, hg.tape, hg.output, hg.size, fun k hk hr => hg.block k hk fun e => ?_⟩⟩
  obtain ⟨h3, h4, _⟩ := hb k e.symm
  omega
end Go.Proofs.YtnmomlaimffonaaGreat.Oc
