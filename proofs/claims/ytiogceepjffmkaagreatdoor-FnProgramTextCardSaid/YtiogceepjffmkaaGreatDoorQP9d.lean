/- The program's parser of programs: assignments. -/
import Derived.Test.YtiogceepjffmkaaGreatDoorQP9a
set_option maxHeartbeats 8000000
set_option maxRecDepth 100000
namespace Go.Proofs.YtiogceepjffmkaaGreatDoor.Gd
open Go.RowKit Go.Lib Go.Sort Num Com Mem Ow YtiogceepjffmkaaGreatDoor.Os Tr Tk
theorem door8n {w w4 : World} {g b c i hi : Nat} {us : List Tok} {k ek en' : Int} {s es : List UInt8} {A Bb C : Option Addr} {l c' lb cb lc cc : Nat} {t : St} {x0 : Value} (hB : Blk w4 w.heap.size SI sc0) (hE : Blk w4 (w.heap.size + 1) ErT [x0])
  (hO : OwnD w4 (Iv (w.heap.size + 1 + 1) hi) (sc k s ek en' es A l c' Bb lb cb C lc cc) t.d) (gb : w.grownBy w4 (some g)) (hp : Prs w4 g b c us i) (x : Value) (hg : g < w.heap.size) (hb : b < w.heap.size) :
  Blk (((putN w4 w.heap.size 0 (sc k s ek en' es A l c' Bb lb cb C lc cc)).setCell ⟨w.heap.size + 1, 0, none⟩ x)) w.heap.size SI (sc k s ek en' es A l c' Bb lb cb C lc cc) ∧
  Blk (((putN w4 w.heap.size 0 (sc k s ek en' es A l c' Bb lb cb C lc cc)).setCell ⟨w.heap.size + 1, 0, none⟩ x)) (w.heap.size + 1) ErT [x] ∧
  OwnD (((putN w4 w.heap.size 0 (sc k s ek en' es A l c' Bb lb cb C lc cc)).setCell ⟨w.heap.size + 1, 0, none⟩ x)) (Iv (w.heap.size + 1 + 1) hi) (sc k s ek en' es A l c' Bb lb cb C lc cc) t.d ∧
  w.grownBy (((putN w4 w.heap.size 0 (sc k s ek en' es A l c' Bb lb cb C lc cc)).setCell ⟨w.heap.size + 1, 0, none⟩ x)) (some g) ∧
  Prs (((putN w4 w.heap.size 0 (sc k s ek en' es A l c' Bb lb cb C lc cc)).setCell ⟨w.heap.size + 1, 0, none⟩ x)) g b c us i ∧
  (((putN w4 w.heap.size 0 (sc k s ek en' es A l c' Bb lb cb C lc cc)).setCell ⟨w.heap.size + 1, 0, none⟩ x)).heap.size = w4.heap.size := by
 have h1 := putN_blk (sc k s ek en' es A l c' Bb lb cb C lc cc) 0 hB
 rw [setN_all (cs0 := sc0) (cs := sc k s ek en' es A l c' Bb lb cb C lc cc) rfl] at h1
 have hz := putN_size (sc k s ek en' es A l c' Bb lb cb C lc cc) w4 w.heap.size 0
 have hf := putN_far (sc k s ek en' es A l c' Bb lb cb C lc cc) w4 w.heap.size 0
 have hbl := putN_below (sc k s ek en' es A l c' Bb lb cb C lc cc) (B := w.heap.size) 0 (Below.refl w.heap.size w4) (Nat.le_refl _)
 have hE1 : Blk (putN w4 w.heap.size 0 (sc k s ek en' es A l c' Bb lb cb C lc cc)) (w.heap.size + 1) ErT [x0] := (hf _ (by omega)).trans hE
 generalize putN w4 w.heap.size 0 (sc k s ek en' es A l c' Bb lb cb C lc cc) = w5 at *
 have hb2 : Below w.heap.size w5 (w5.setCell ⟨w.heap.size + 1, 0, none⟩ x) := (Below.refl _ _).setCell (p := ⟨w.heap.size + 1, 0, none⟩) (Nat.le_succ _) _
 have hne : ∀ q, q ≠ w.heap.size + 1 → (w5.setCell ⟨w.heap.size + 1, 0, none⟩ x).heap[q]? = w5.heap[q]? := fun q hq => heap_setCell_other _ _ _ _ hq
 have hall := hbl.trans (hb2.mono (Nat.le_refl _))
 refine ⟨(hne _ (by omega)).trans h1, hE1.set_ 0 x, hO.same fun q hq => (hne q (by have := hq.1; omega)).trans (hf q (by have := hq.1; omega)), ?_, hp.far ((hne _ (by omega)).trans (hf _ (by omega))) ((hne _ (by omega)).trans (hf _ (by omega))), ?_⟩
 ·exact ⟨hall.os.trans gb.os, hall.tape.trans gb.tape, hall.output.trans gb.output, Nat.le_trans gb.size hall.size, fun q h1 h2 => (hall.block q h1).trans (gb.block q h1 h2)⟩
 ·rw [show (w5.setCell ⟨w.heap.size + 1, 0, none⟩ x).heap.size = w5.heap.size by simp [World.setCell], hz]
def asR (ts : List Tok) (en : Nat) (x : List UInt8) (i : Nat) : ResQ :=
 if seesB ts (i + 1) [58, 61] = true then semiR ts en (fun e => .mk 1 x e [] []) (pz ts en 2000 1 (i + 1 + 1)) else .error (errAt ts en (i + 1))
theorem assign_any {ts : List Tok} {en g b c : Nat} (hG : ∀ t ∈ ts, GoodT t) (h150 : ts.length ≤ 150) (i : Nat) (X : List UInt8) (hX : nameAt ts i = some X) (w : World) (h : Prs w g b c (uz ts en) i) :
  Calls Tryz.prog 155 #[.pointer (some ⟨g, 0, none⟩)] w (QOk ts en g b c w (asR ts en X i)) := by
 have hgl := h.lt
 have hbl := h.blt
 have hil := nameAt_lt hX
 have hX8 := nameAt_len hX
 have hb0 := box_below w (.cells sc0.toArray SI)
 have z0 := size_alloc' w (.cells sc0.toArray SI)
 have hb1 := hb0.trans ((box_below (w.alloc (.cells sc0.toArray SI)) (.cells #[.nilIface] ErT)).mono hb0.size)
 have z1 : ((w.alloc (.cells sc0.toArray SI)).alloc (.cells #[.nilIface] ErT)).heap.size = w.heap.size + 1 + 1 := by rw [size_alloc', z0]
 have B1 := hid ((Blk.new w SI sc0).alloc (.cells #[.nilIface] ErT))
 have E1 := Blk.new (w.alloc (.cells sc0.toArray SI)) ErT [.nilIface]
 rw [z0] at E1
 replace E1 := hid E1
 have G1 := hid (gb_below (gb_refl w (some g)) hb1)
 have p1 := hid (h.below hb1)
 have hul : i < (uz ts en).length := by rw [uz_len]; omega
 have hna := nameAt_uz (en := (en : Int)) hG hul
 have hnm := name_any g b c (uz ts en) i _ p1.out hul (by have := uz_len8 (en := (en : Int)) hG hul; omega) (uz_valid hul)
 rw [hX] at hna
 have hva : C2.validB (uz ts en)[i].s = true ∧ (uz ts en)[i].s = X := by
  by_cases hv : C2.validB (uz ts en)[i].s = true
  ·rw [if_pos hv] at hna
   injection hna with e
   exact ⟨hv, e.symm⟩
  ·rw [if_neg hv] at hna; cases hna
 rw [hva.1, hva.2, if_pos rfl] at hnm
 have hnm := hid hnm
 have hcl := hid (fun w1 (h1 : Prs w1 g b c (uz ts en) (i + 1 + 1)) => (parse_all (en := en) (g := g) (b := b) (c := c) hG 2000).1 2000 (Nat.le_refl _) (i + 1 + 1) w1 h1 (by unfold need; omega))
 have hadv := hid (fun e j (hp : pz ts en 2000 1 (i + 1 + 1) = .ok (e, j)) => (pz_adv ts en 2000).1 1 (i + 1 + 1) e j hp)
 have hsz : ∀ (W : World) (u : Value), (W.setCell ⟨w.heap.size + 1, 0, none⟩ u).heap.size = W.heap.size := fun W u => by simp [World.setCell]
 have hne : ∀ (W : World) (u : Value) k, k ≠ w.heap.size + 1 → (W.setCell ⟨w.heap.size + 1, 0, none⟩ u).heap[k]? = W.heap[k]? := fun W u k hk => heap_setCell_other _ _ _ _ hk
 have hasR : asR ts en X i = if seesB ts (i + 1) [58, 61] = true then semiR ts en (fun e => .mk 1 X e [] []) (pz ts en 2000 1 (i + 1 + 1)) else .error (errAt ts en (i + 1)) := rfl
 obtain ⟨RR, hRR⟩ : ∃ RR, RR = asR ts en X i := ⟨_, rfl⟩
 rw [← hRR] at hasR ⊢
 replace hasR := hid hasR
 obtain ⟨r, hr⟩ : ∃ r, r = pz ts en 2000 1 (i + 1 + 1) := ⟨_, rfl⟩
 rw [← hr] at hcl hadv hasR
 clear h hb0 hb1 hna hva hRR hr p1
 go_enter_defers Tryz.func155, Tryz.ntmps155
 go_wp2_with fail
 generalize ((w.alloc (.cells sc0.toArray SI)).alloc (.cells #[.nilIface] ErT)) = w1 at *
 refine hnm.out.mono ?_
 rintro e w2 ⟨rfl, p2, g2⟩
 have p2 : Prs w2 g b c (uz ts en) (i + 1) := p2
 have z2 := g2.size
 have B2 := B1.out.gb g2 (by omega)
 have E2 := E1.out.gb g2 (by omega)
 have G2 := gb_trans G1.out g2
 have e2 := E2.cell 0
 have f2 := E2.frozen 0
 have B3 := hid (show Blk (w2.setCell ⟨w.heap.size + 1, 0, none⟩ .nilIface) w.heap.size SI sc0 from (hne w2 .nilIface _ (by omega)).trans B2)
 have E3 := E2.set_ 0 .nilIface
 have e3 := E3.cell 0
 have E3 := hid (show Blk (w2.setCell ⟨w.heap.size + 1, 0, none⟩ .nilIface) (w.heap.size + 1) ErT [.nilIface] from E3)
 have e3 : (w2.setCell ⟨w.heap.size + 1, 0, none⟩ .nilIface).cell? ⟨w.heap.size + 1, 0, none⟩ = some .nilIface := e3
 have G3 := hid (Dr.gb_new G2 (show w.heap.size ≤ w.heap.size + 1 by omega) 0 .nilIface)
 have p3 := p2.far (w' := w2.setCell ⟨w.heap.size + 1, 0, none⟩ .nilIface) (hne _ _ _ (by omega)) (hne _ _ _ (by omega))
 have z3 := hsz w2 .nilIface
 have hex := hid (expect_any g b c (uz ts en) (i + 1) [58, 61] _ p3 (end_uz ts en))
 rw [sees_uz, errAt_uz ts en (i + 1) hil] at hex
 clear p2 g2 hnm B2 E2 G2 G1 B1 E1 p3
 go_wp2_with fail
 clear e2 f2
 generalize (w2.setCell ⟨w.heap.size + 1, 0, none⟩ .nilIface) = w3 at *
 refine hex.out.mono ?_
 rintro e w4 ⟨rfl, p4, g4⟩
 have z4 := g4.size
 have B4 := B3.out.gb g4 (by omega)
 have E4 := E3.out.gb g4 (by omega)
 have G4 := hid (gb_trans G3.out g4)
 clear e3 g4 hex B3 E3 G3
 cases hs : seesB ts (i + 1) [58, 61] with
 | false =>
  rw [hs] at p4 hasR
  rw [if_neg (by simp)] at hasR
  have p4 : Prs w4 g b c (uz ts en) (i + 1) := p4
  generalize errAt ts en (i + 1) = a at *
  obtain ⟨D1, D2, D3, D4, D5, D6⟩ := door8n B4 E4 (own_zero8 w4 (Iv (w.heap.size + 1 + 1) (w.heap.size + 1 + 1)) 0) G4.out p4 (errV a) hgl hbl
  have e4 := E4.cell 0
  have f4 := E4.frozen 0
  obtain ⟨r0, r1, r2, r3, r4, r5, r6, r7⟩ := eight B4
  have y0 := B4.frozen 0
  have y1 := B4.frozen 1
  have y2 := B4.frozen 2
  have y3 := B4.frozen 3
  have y4 := B4.frozen 4
  have y5 := B4.frozen 5
  have y6 := B4.frozen 6
  have y7 := B4.frozen 7
  have lE := E4.lt
  replace D1 := hid D1
  replace D2 := hid D2
  replace D3 := hid D3
  replace D4 := hid D4
  replace D5 := hid D5
  replace D6 := hid D6
  clear B4 E4 p4 hs hcl hadv
  go_wp2_with fail
  refine leaves_cons (f := 186) (args := #[.pointer (some ⟨g, 0, none⟩), .string ⟨#[59]⟩, .pointer (some ⟨w.heap.size + 1, 0, none⟩)]) (by simp) (by simp [go_sem]) ?_
  refine (leave_err g (w.heap.size + 1) [59] a .returning _ D2.out).mono ?_
  rintro e u' w'' ⟨rfl, rfl, rfl⟩
  exact ⟨_, results_cell2c Tryz.results155 _ _ w.heap.size (w.heap.size + 1) SI _ (0, 0) _ _ rfl D1.out Tryz.underlying60 rfl (by kernel_rfl) rfl (load_err _ _ _ (D2.out.cell 0)),
   _, _, _, _, _, _, _, _, _, _, _, _, _, _, _, _, _, rfl, own_iv D3.out (by omega) (by have := D6.out; omega), D4.out, D5.out, by rw [hasR.out]; rfl⟩
 | true =>
  have hil2 := sees_lt hs
  rw [hs] at p4 hasR
  rw [if_pos rfl] at hasR
  have p4 : Prs w4 g b c (uz ts en) (i + 1 + 1) := p4
  have hcl := hid (hcl.out w4 p4)
  replace B4 := hid B4
  replace E4 := hid E4
  clear hs p4
  go_wp2_with fail
  refine hcl.out.mono ?_
  rintro e w5 ⟨K, N, s, A, l, cc, t, x, j, rfl, ho, hg, hp, hRe⟩
  have z5 := hg.size
  have b6 := box_below w5 (.cells #[.int .i64 K, .int .i64 N, .string ⟨s.toArray⟩, .slice A l cc] ET)
  have z6 := size_alloc' w5 (.cells #[.int .i64 K, .int .i64 N, .string ⟨s.toArray⟩, .slice A l cc] ET)
  have Q3 := Blk.new w5 ET [.int .i64 K, .int .i64 N, .string ⟨s.toArray⟩, .slice A l cc]
  have B3 := (B4.out.gb hg (by omega)).below b6 (B4.out.gb hg (by omega)).lt
  have E3 := (E4.out.gb hg (by omega)).below b6 (E4.out.gb hg (by omega)).lt
  have G3 := hid (gb_below (gb_trans G4.out hg) b6)
  have o3 := hid (ho.same (same_below b6 (Nat.le_refl _)))
  have p3 := hid (hp.below b6)
  have lE := E4.out.lt
  clear ho hg hp hcl G4 B4 E4 b6
  have e3 := E3.cell 0
  have f3 := E3.frozen 0
  have hx : (∃ a, x = errV a ∧ r = .error a) ∨ (x = .nilIface ∧ r = .ok (t, j)) := by
   rcases r with a | ⟨t', j'⟩
   ·exact Or.inl ⟨a, hRe, rfl⟩
   ·obtain ⟨rfl, rfl, rfl⟩ := hRe
    exact Or.inr ⟨rfl, rfl⟩
  clear hRe
  have fix4 : ∀ u, Hid (Blk ((w5.alloc (.cells #[.int .i64 K, .int .i64 N, .string ⟨s.toArray⟩, .slice A l cc] ET)).setCell ⟨w.heap.size + 1, 0, none⟩ u) w5.heap.size ET [.int .i64 K, .int .i64 N, .string ⟨s.toArray⟩, .slice A l cc] ∧
    Blk ((w5.alloc (.cells #[.int .i64 K, .int .i64 N, .string ⟨s.toArray⟩, .slice A l cc] ET)).setCell ⟨w.heap.size + 1, 0, none⟩ u) w.heap.size SI sc0 ∧
    Blk ((w5.alloc (.cells #[.int .i64 K, .int .i64 N, .string ⟨s.toArray⟩, .slice A l cc] ET)).setCell ⟨w.heap.size + 1, 0, none⟩ u) (w.heap.size + 1) ErT [u] ∧
    w.grownBy ((w5.alloc (.cells #[.int .i64 K, .int .i64 N, .string ⟨s.toArray⟩, .slice A l cc] ET)).setCell ⟨w.heap.size + 1, 0, none⟩ u) (some g) ∧
    OwnX w4.heap.size w5.heap.size ((w5.alloc (.cells #[.int .i64 K, .int .i64 N, .string ⟨s.toArray⟩, .slice A l cc] ET)).setCell ⟨w.heap.size + 1, 0, none⟩ u) (nv K N s A l cc) t ∧
    Prs ((w5.alloc (.cells #[.int .i64 K, .int .i64 N, .string ⟨s.toArray⟩, .slice A l cc] ET)).setCell ⟨w.heap.size + 1, 0, none⟩ u) g b c (uz ts en) j) := fun u =>
   hid ⟨(hne _ u _ (by omega)).trans Q3, (hne _ u _ (by omega)).trans B3, E3.set_ 0 u, Dr.gb_new G3.out (by omega) 0 u, o3.out.same fun k h1 h2 => hne _ u k (by omega), p3.out.far (hne _ u _ (by omega)) (hne _ u _ (by omega))⟩
  have zz : ∀ u, ((w5.alloc (.cells #[.int .i64 K, .int .i64 N, .string ⟨s.toArray⟩, .slice A l cc] ET)).setCell ⟨w.heap.size + 1, 0, none⟩ u).heap.size = w5.heap.size + 1 := fun u => by rw [hsz, z6]
  clear Q3 B3 E3 G3 o3 p3
  rcases hx with ⟨a, rfl, rfl⟩ | ⟨rfl, rfl⟩
  ·obtain ⟨Q4, B4, E4, G4, o4, p4⟩ := (fix4 (errV a)).out
   have zq := zz (errV a)
   clear fix4 hadv
   go_wp2_with fail
   clear e3 f3
   generalize ((w5.alloc (.cells #[.int .i64 K, .int .i64 N, .string ⟨s.toArray⟩, .slice A l cc] ET)).setCell ⟨w.heap.size + 1, 0, none⟩ (errV a)) = w6 at *
   obtain ⟨k0, k1, k2, k3⟩ := Tr.four Q4
   have e4 := E4.cell 0
   have f4 := E4.frozen 0
   obtain ⟨r0, r1, r2, r3, r4, r5, r6, r7⟩ := eight B4
   have y0 := B4.frozen 0
   have y1 := B4.frozen 1
   have y2 := B4.frozen 2
   have y3 := B4.frozen 3
   have y4 := B4.frozen 4
   have y5 := B4.frozen 5
   have y6 := B4.frozen 6
   have y7 := B4.frozen 7
   replace B4 := hid B4
   replace E4 := hid E4
   replace G4 := hid G4
   replace o4 := hid o4
   replace p4 := hid p4
   clear Q4
   go_region
   have hst : OwnD w6 (Iv (w.heap.size + 1 + 1) w5.heap.size) (sc 1 X K N s A l cc none 0 0 none 0 0) (St.mk 1 X t [] []).d :=
    own_st_mk (R2 := fun _ => False) (R3 := fun _ => False) (by unfold maxI; omega) o4.out (own_nil8 w6 _ 1) (own_nil8 w6 _ 1) (fun _ hg => ⟨⟨by have := hg.1; omega, hg.2⟩, id, id⟩) (fun _ h => h.elim) (fun _ h => h.elim)
   obtain ⟨D1, D2, D3, D4, D5, D6⟩ := door8 B4.out E4.out hst G4.out p4.out (errV a) hgl hbl
   clear hst e4 f4 r0 r1 r2 r3 r4 r5 r6 r7 y0 y1 y2 y3 y4 y5 y6 y7 k0 k1 k2 k3
   go_wp2_with fail
   refine leaves_cons (f := 186) (args := #[.pointer (some ⟨g, 0, none⟩), .string ⟨#[59]⟩, .pointer (some ⟨w.heap.size + 1, 0, none⟩)]) (by simp) (by simp [go_sem]) ?_
   refine (leave_err g (w.heap.size + 1) [59] a .returning _ D2).mono ?_
   rintro e u' w'' ⟨rfl, rfl, rfl⟩
   exact ⟨_, results_cell2c Tryz.results155 _ _ w.heap.size (w.heap.size + 1) SI _ (0, 0) _ _ rfl D1 Tryz.underlying60 rfl (by kernel_rfl) rfl (load_err _ _ _ (D2.cell 0)),
    _, _, _, _, _, _, _, _, _, _, _, _, _, _, _, _, _, rfl, own_iv D3 (by omega) (by omega), D4, D5, by rw [hasR.out]; rfl⟩
  ·obtain ⟨Q4, B4, E4, G4, o4, p4⟩ := (fix4 .nilIface).out
   have zq := zz .nilIface
   have ha := hadv.out t j rfl
   clear fix4 hadv
   go_wp2_with fail
   clear e3 f3
   generalize ((w5.alloc (.cells #[.int .i64 K, .int .i64 N, .string ⟨s.toArray⟩, .slice A l cc] ET)).setCell ⟨w.heap.size + 1, 0, none⟩ .nilIface) = w6 at *
   obtain ⟨k0, k1, k2, k3⟩ := Tr.four Q4
   have e4 := E4.cell 0
   have f4 := E4.frozen 0
   obtain ⟨r0, r1, r2, r3, r4, r5, r6, r7⟩ := eight B4
   have y0 := B4.frozen 0
   have y1 := B4.frozen 1
   have y2 := B4.frozen 2
   have y3 := B4.frozen 3
   have y4 := B4.frozen 4
   have y5 := B4.frozen 5
   have y6 := B4.frozen 6
   have y7 := B4.frozen 7
   replace B4 := hid B4
   replace E4 := hid E4
   replace G4 := hid G4
   replace o4 := hid o4
   replace p4 := hid p4
   clear Q4
   go_region
   have hst : OwnD w6 (Iv (w.heap.size + 1 + 1) w5.heap.size) (sc 1 X K N s A l cc none 0 0 none 0 0) (St.mk 1 X t [] []).d :=
    own_st_mk (R2 := fun _ => False) (R3 := fun _ => False) (by unfold maxI; omega) o4.out (own_nil8 w6 _ 1) (own_nil8 w6 _ 1) (fun _ hg => ⟨⟨by have := hg.1; omega, hg.2⟩, id, id⟩) (fun _ h => h.elim) (fun _ h => h.elim)
   obtain ⟨D1, D2, D3, D4, D5, D6⟩ := door8 B4.out E4.out hst G4.out p4.out .nilIface hgl hbl
   clear hst e4 f4 r0 r1 r2 r3 r4 r5 r6 r7 y0 y1 y2 y3 y4 y5 y6 y7 k0 k1 k2 k3
   go_wp2_with fail
   refine leaves_cons (f := 186) (args := #[.pointer (some ⟨g, 0, none⟩), .string ⟨#[59]⟩, .pointer (some ⟨w.heap.size + 1, 0, none⟩)]) (by simp) (by simp [go_sem]) ?_
   refine (leave_nil g b c (w.heap.size + 1) (uz ts en) j [59] .returning _ D5 (end_uz ts en) D2 (by omega)).mono ?_
   rintro e u' w'' ⟨rfl, rfl, w7, hp7, hg7, rfl⟩
   obtain ⟨L1, L2, L3, L4, L5⟩ := left8 (if seesB (uz ts en) j [59] = true then .nilIface else errV ((uz ts en)[j]?.getD ⟨0, 0, 0, []⟩).p) D1 D2 D3 (by omega) D4 hp7 hg7 hgl hbl
   refine ⟨_, results_cell2c Tryz.results155 _ _ w.heap.size (w.heap.size + 1) SI _ (0, 0) _ _ rfl L1 Tryz.underlying60 rfl (by kernel_rfl) rfl (load_err _ _ _ L2),
    _, _, _, _, _, _, _, _, _, _, _, _, _, _, _, _, _, rfl, L3, L4, L5, ?_⟩
   rw [sees_uz, errAt_uz ts en j ha.2.1, hasR.out]
   unfold semiR
   simp only
   cases seesB ts j [59] with
   | true => exact ⟨rfl, rfl, rfl⟩
   | false => exact rfl
theorem stT9 : Tryz.prog.underlying 25 = some (.slice (tyI 1)) := Tryz.underlying25
theorem GrowK.form {w : World} {lo hi n : Nat} {v : Value} {L : List (List D)} (h : GrowK w lo hi n v L) : ∃ A c, v = .slice A L.length c := by
 obtain ⟨_, xs, rows, Rs, ⟨_, ho⟩, _⟩ := h
 rcases ho with ⟨rfl, hz⟩ | ⟨g, cap, cur, rfl, _⟩
 ·exact ⟨none, 0, by rw [hz]⟩
 ·exact ⟨_, _, rfl⟩
theorem GrowK.own_lt {w : World} {lo hi n : Nat} {v : Value} {L : List (List D)} (h : GrowK w lo hi n v L) {q : Nat} (e : v.ownBlock = some q) : lo ≤ q ∧ q < w.heap.size := by
 obtain ⟨_, xs, rows, Rs, h1, _⟩ := h
 exact own_ge h1 e
theorem bz_snoc {ts : List Tok} {en n i j : Nat} {R : ResB} {acc : List St} {s : St} (h : R = match bz ts en (n + 1) i with
  | .error a => .error a
  | .ok (L, k) => .ok (acc ++ L, k)) (ha : atSt ts i = true) (hq : qz ts en n i = .ok (s, j)) : R = match bz ts en n j with
  | .error a => .error a
  | .ok (L, k) => .ok ((acc ++ [s]) ++ L, k) := by
 rw [h, bz, if_pos ha, hq]
 simp only
 cases bz ts en n j with
 | error a => rfl
 | ok p => obtain ⟨L, k⟩ := p; simp
theorem stmts_any {ts : List Tok} {en g b c n : Nat} (hG : ∀ t ∈ ts, GoodT t) (h150 : ts.length ≤ 150) (hqp : QP ts en g b c n) : BP ts en g b c (n + 1) := by
 intro m0 hm0 i0 w h hn0
 have hgl := h.lt
 have hbl := h.blt
 have hi0 := h.ilt
 rw [uz_len] at hi0
 obtain ⟨R, hR⟩ : ∃ R, R = bz ts en m0 i0 := ⟨_, rfl⟩
 rw [← hR]
 have hst0 : R = match bz ts en m0 i0 with
  | .error a => .error a
  | .ok (L, k) => .ok (([] : List St) ++ L, k) := by
  rw [hR]
  cases bz ts en m0 i0 with
  | error a => rfl
  | ok p => rfl
 replace hst0 := hid hst0
 replace hqp := hid hqp
 replace hn0 := hid hn0
 have h := hid h
 clear hR
 go_enter Tryz.func72, Tryz.ntmps72
 go_wp2_with fail
 go_loopw [4] (fun v wr => ∃ (acc : List St) (i m hi : Nat), Hid (R = match bz ts en m i with
    | .error a => .error a
    | .ok (L, k) => .ok (acc ++ L, k)) ∧ Hid (needB ts i ≤ m) ∧ m ≤ n + 1 ∧ i ≤ ts.length ∧ acc.length ≤ i ∧ Hid (w.heap.size ≤ hi) ∧ GrowK wr w.heap.size hi 1 v (dl acc) ∧ w.grownBy wr (some g) ∧ Prs wr g b c (uz ts en) i) (fun _ wr => match wr.cell? ⟨g, 0, none⟩ with
    | some (.slice _ n _) => n
    | _ => 0)
 case atStart => exact ⟨[], i0, m0, w.heap.size, hst0, hn0, hm0, by omega, by simp, hid (Nat.le_refl _), GrowK.nil w w.heap.size 1, gb_refl _ _, h.out⟩
 case round =>
  obtain ⟨acc, i, m, hi, hR, hn, hmn, hil, hal, hlh, hK, hG1, hP⟩ := hrel
  obtain ⟨m, rfl⟩ : ∃ k, m = k + 1 := ⟨m - 1, by have := hn.out; unfold needB at this; omega⟩
  have hmes : (match wr.cell? ⟨g, 0, none⟩ with
    | some (.slice _ n _) => n
    | _ => 0) = ts.length + 1 - i := by
   obtain ⟨n', m', hB, hn', _, _⟩ := hP.blk
   rw [hB.cell 0]
   show n' = _
   rw [uz_len] at hn'
   omega
  have hat := isat_any hG i wr hP
  obtain ⟨A, cc, rfl⟩ := hK.form
  rw [dl_len] at *
  replace hP := hid hP
  replace hK := hid hK
  replace hG1 := hid hG1
  replace hmes := hid hmes
  have zr := hG1.out.size
  cases ha : atSt ts i with
  | false =>
   have hF := hid (show BIs R acc .nilIface i by
    rw [hR.out, bz, if_neg (by rw [ha]; simp)]
    exact ⟨by simp, rfl, rfl⟩)
   rw [ha] at hat
   replace hat := hid hat
   clear hR ha
   go_wp2_with fail
   refine hat.out.mono ?_
   rintro e w1 ⟨rfl, hb⟩
   have K1 := hid (hK.out.below (hb.mono hK.out.top))
   have G1 := hid (gb_below hG1.out hb)
   have P1 := hid (hP.out.below hb)
   clear hb hat hK hG1 hP
   go_wp2_with fail
   have hO := K1.out.own
   exact bodyPost_ret (results_tmp2 (t := 2) (u := 3) rfl _ _ _) rfl ⟨A, acc.length, cc, acc, _, i, rfl, own_iv hO (Nat.le_refl _) K1.out.top, G1.out, P1.out, hF.out⟩
  | true =>
   have hil2 := atSt_lt ha
   have hqc := hid (fun w1 (h1 : Prs w1 g b c (uz ts en) i) => hqp.out m (by omega) i w1 h1 ha (by have := hn.out; unfold needB at this; unfold needQ; omega))
   have hsn := hid (fun s j (hq : qz ts en m i = .ok (s, j)) => bz_snoc hR.out ha hq)
   have herr := hid (fun a (hq : qz ts en m i = .error a) => show R = .error a by rw [hR.out, bz, if_pos ha, hq])
   have hadv := hid (fun s j (hq : qz ts en m i = .ok (s, j)) => (adv_all ts en m).1 i s j hq)
   rw [ha] at hat
   replace hat := hid hat
   obtain ⟨r, hr⟩ : ∃ r, r = qz ts en m i := ⟨_, rfl⟩
   rw [← hr] at hqc hsn herr hadv
   clear hR ha hr
   go_wp2_with fail
   refine hat.out.mono ?_
   rintro e w1 ⟨rfl, hb⟩
   have z1 := hb.size
   have K1 := hid (hK.out.below (hb.mono hK.out.top))
   have G1 := hid (gb_below hG1.out hb)
   have P1 := hP.out.below hb
   have hcl := hid (hqc.out w1 P1)
   clear hb hat hK hG1 hP P1 hqc
   go_wp2_with fail
   refine hcl.out.mono ?_
   rintro e w2 ⟨k, s, ek, en', es, A', l', c', Bb, lb, cb, C, lc, cc', t, x, j, rfl, hO, hg, hp, hQ⟩
   have z2 := hg.size
   have b3 := box_below w2 (.cells (sc k s ek en' es A' l' c' Bb lb cb C lc cc').toArray SI)
   have z3 := size_alloc' w2 (.cells (sc k s ek en' es A' l' c' Bb lb cb C lc cc').toArray SI)
   have Q3 := hid (Blk.new w2 SI (sc k s ek en' es A' l' c' Bb lb cb C lc cc'))
   have K3 := hid ((K1.out.gb hgl hg).below (b3.mono (by have := K1.out.top; omega)))
   have G3 := hid (gb_below (gb_trans G1.out hg) b3)
   have O3 := hid (hO.same (w' := w2.alloc (.cells (sc k s ek en' es A' l' c' Bb lb cb C lc cc').toArray SI)) fun q hq => b3.block q hq.2)
   have P3 := hid (hp.below b3)
   have hit := K1.out.top
   clear hO hg hp hcl b3 K1 G1
   rcases r with a | ⟨t', j'⟩
   ·obtain rfl : x = errV a := hQ
    have hF := hid (show BIs R [] (errV a) j by rw [herr.out a rfl]; rfl)
    clear herr hsn hadv
    go_wp2_with fail
    exact bodyPost_ret (results_tmp2 (t := 2) (u := 3) rfl _ _ _) rfl ⟨none, 0, 0, [], _, j, rfl, own_nil8 _ _ 1, G3.out, P3.out, hF.out⟩
   ·obtain ⟨rfl, rfl, rfl⟩ := hQ
    have hs2 := hid (hsn.out t j rfl)
    obtain ⟨q1, q2, -, -, -⟩ := hadv.out t j rfl
    have lP := P3.out.lt
    have bP := P3.out.blt
    have hl6 : (dl acc).length < 1000000 := by rw [dl_len]; omega
    clear herr hsn hadv
    obtain ⟨r0, r1, r2, r3, r4, r5, r6, r7⟩ := eight Q3.out
    go_wp2_with (at_builtin; refine GrowK.app K3.out hlh.out (sc k s ek en' es A' l' c' Bb lb cb C lc cc') t.d rfl (own_iv O3.out hit (by omega)) hl6 stT9 zeroSt rfl (by omega) rfl _ _ rfl rfl _ z3.symm rfl ?_; intro v4 w4 hK4 hg4)
    go_wp2_with fail
    have hK4' : GrowK w4 w.heap.size w4.heap.size 1 v4 (dl (acc ++ [t])) := by simpa [dl] using hK4
    have hP4 : Prs w4 g b c (uz ts en) j := P3.out.far (hg4.block g lP fun e => by have := (K3.out.own_lt e.symm).1; omega) (hg4.block b bP fun e => by have := (K3.out.own_lt e.symm).1; omega)
    have z4 := hg4.size
    refine ⟨⟨acc ++ [t], j, m, w4.heap.size, hs2, hid (by have := hn.out; unfold needB at this ⊢; omega), by omega, q2, by simp; omega, hid (by omega), hK4', gb_own G3.out hg4 (fun q hq => (K3.out.own_lt hq).1), hP4⟩, ?_⟩
    rw [hmes.out]
    obtain ⟨n', m', hB, hn', _, _⟩ := hP4.blk
    rw [hB.cell 0]
    show n' < _
    rw [uz_len] at hn'
    omega
theorem left1 {w W w1 : World} {g b c j hi : Nat} {us : List Tok} {cs : List Value} {ds : List D} {x0 : Value} (y : Value) (hE : Blk W w.heap.size ErT [x0]) (hO : OwnD W (Iv (w.heap.size + 1) hi) cs ds) (hhi : hi ≤ W.heap.size) (gb : w.grownBy W (some g)) (hp : Prs w1 g b c us j)
  (hg1 : W.grownBy w1 (some g)) (hg : g < w.heap.size) (hb : b < w.heap.size) : (w1.setCell ⟨w.heap.size, 0, none⟩ y).cell? ⟨w.heap.size, 0, none⟩ = some y ∧
   OwnD (w1.setCell ⟨w.heap.size, 0, none⟩ y) (Iv w.heap.size (w1.setCell ⟨w.heap.size, 0, none⟩ y).heap.size) cs ds ∧ w.grownBy (w1.setCell ⟨w.heap.size, 0, none⟩ y) (some g) ∧ Prs (w1.setCell ⟨w.heap.size, 0, none⟩ y) g b c us j := by
 have hne : ∀ q, q ≠ w.heap.size → (w1.setCell ⟨w.heap.size, 0, none⟩ y).heap[q]? = w1.heap[q]? := fun q hq => heap_setCell_other _ _ _ _ hq
 have hs : (w1.setCell ⟨w.heap.size, 0, none⟩ y).heap.size = w1.heap.size := by simp [World.setCell]
 have hz := hg1.size
 refine ⟨((hE.gb hg1 (by omega)).set_ 0 y).cell 0, ?_, Dr.gb_new (gb_trans gb hg1) (by omega) 0 y, hp.far (hne _ (by omega)) (hne _ (by omega))⟩
 rw [hs]
 exact own_iv (hO.same fun q hq => (hne q (by have := hq.1; omega)).trans (hg1.block q (by have := hq.2; omega) (by have := hq.1; simp; omega))) (by omega) (by omega)
theorem block_any {ts : List Tok} {en g b c n : Nat} (hbp : BP ts en g b c n) : KP ts en g b c (n + 1) := by
 intro m hm i w h hn
 obtain ⟨m, rfl⟩ : ∃ k, m = k + 1 := ⟨m - 1, by unfold needK at hn; omega⟩
 have hgl := h.lt
 have hbl := h.blt
 have hil := h.ilt
 rw [uz_len] at hil
 have hb1 := box_below w (.cells #[.nilIface] ErT)
 have z1 := size_alloc' w (.cells #[.nilIface] ErT)
 have E1 := hid (Blk.new w ErT [.nilIface])
 have G1 := hid (gb_below (gb_refl w (some g)) hb1)
 have hex := expect_any g b c (uz ts en) i [123] _ (h.below hb1) (end_uz ts en)
 rw [sees_uz, errAt_uz ts en i (by omega)] at hex
 have hkz : kz ts en (m + 1) i = if seesB ts i [123] = true then (match bz ts en m (i + 1) with
   | .error a => .error a
   | .ok (L, j) => if seesB ts j [125] = true then .ok (L, j + 1) else .error (errAt ts en j)) else .error (errAt ts en i) := by
  rw [kz]
  by_cases hs : seesB ts i [123] = true
  ·rw [if_pos hs, if_pos hs]
   cases bz ts en m (i + 1) with
   | error a => rfl
   | ok p => rfl
  ·rw [if_neg hs, if_neg hs]
 obtain ⟨R, hR⟩ : ∃ R, R = kz ts en (m + 1) i := ⟨_, rfl⟩
 rw [← hR] at hkz ⊢
 replace hex := hid hex
 clear h hb1 hR
 cases hs : seesB ts i [123] with
 | false =>
  rw [hs] at hex hkz
  rw [if_neg (by simp)] at hkz
  replace hkz := hid hkz
  generalize errAt ts en i = a at *
  clear hs hbp
  go_enter_defers Tryz.func188, Tryz.ntmps188
  go_wp2_with fail
  generalize (w.alloc (.cells #[.nilIface] ErT)) = w1 at *
  refine hex.out.mono ?_
  rintro e w2 ⟨rfl, p2, g2⟩
  have p2 : Prs w2 g b c (uz ts en) i := p2
  have z2 := g2.size
  have E2 := E1.out.gb g2 (by omega)
  obtain ⟨L2, L3, L4, L5⟩ := left1 (errV a) E2 (own_nil8 w2 (Iv (w.heap.size + 1) (w.heap.size + 1)) 1) E2.lt (gb_trans G1.out g2) p2 (gb_refl w2 (some g)) hgl hbl
  have e2 := E2.cell 0
  have f2 := E2.frozen 0
  replace L2 := hid L2
  replace L3 := hid L3
  replace L4 := hid L4
  replace L5 := hid L5
  clear p2 g2 E2 G1 E1 hex
  go_wp2_with fail
  exact ⟨_, results_tmp_cell Tryz.results188 _ _ w.heap.size _ rfl (load_err _ _ _ L2.out), none, 0, 0, [], _, i, rfl, L3.out, L4.out, L5.out, by rw [hkz.out]; rfl⟩
 | true =>
  have hil2 := sees_lt hs
  rw [hs] at hex hkz
  rw [if_pos rfl] at hkz
  have hcl := hid (fun w1 (h1 : Prs w1 g b c (uz ts en) (i + 1)) => hbp m (by omega) (i + 1) w1 h1 (by unfold needK at hn; unfold needB; omega))
  have hadv := hid (fun L j (hb : bz ts en m (i + 1) = .ok (L, j)) => (adv_all ts en m).2.2.2 (i + 1) L j hb (by omega))
  obtain ⟨r, hr⟩ : ∃ r, r = bz ts en m (i + 1) := ⟨_, rfl⟩
  rw [← hr] at hcl hadv
  simp only [← hr] at hkz
  replace hkz := hid hkz
  clear hs hbp hr
  go_enter_defers Tryz.func188, Tryz.ntmps188
  go_wp2_with fail
  generalize (w.alloc (.cells #[.nilIface] ErT)) = w1 at *
  refine hex.out.mono ?_
  rintro e w2 ⟨rfl, p2, g2⟩
  have p2 : Prs w2 g b c (uz ts en) (i + 1) := p2
  have z2 := g2.size
  have E2 := hid (E1.out.gb g2 (by omega))
  have G2 := hid (gb_trans G1.out g2)
  have hcl := hid (hcl.out w2 p2)
  clear p2 g2 G1 E1 hex
  go_wp2_with fail
  refine hcl.out.mono ?_
  rintro e w3 ⟨A, l, cc, L, x, j, rfl, hO, hg, hp, hB⟩
  have z3 := hg.size
  have E3 := E2.out.gb hg (by omega)
  have G3 := gb_trans G2.out hg
  have lE := E2.out.lt
  have hne : ∀ u q, q ≠ w.heap.size → (w3.setCell ⟨w.heap.size, 0, none⟩ u).heap[q]? = w3.heap[q]? := fun u q hq => heap_setCell_other _ _ _ _ hq
  have hsz : ∀ u, (w3.setCell ⟨w.heap.size, 0, none⟩ u).heap.size = w3.heap.size := fun u => by simp [World.setCell]
  have E4 := hid (E3.set_ 0 x)
  have E4 := hid (show Blk (w3.setCell ⟨w.heap.size, 0, none⟩ x) w.heap.size ErT [x] from E4.out)
  have G4 := hid (Dr.gb_new G3 (Nat.le_refl w.heap.size) 0 x)
  have O4 := hid (hO.same (w' := w3.setCell ⟨w.heap.size, 0, none⟩ x) fun q hq => hne x q (by have := hq.1; omega))
  have P4 := hid (hp.far (w' := w3.setCell ⟨w.heap.size, 0, none⟩ x) (hne x _ (by omega)) (hne x _ (by omega)))
  have z4 := hsz x
  have e3 := E3.cell 0
  have f3 := E3.frozen 0
  clear hO hg hp E3 G3 hcl E2 G2 hne hsz
  rcases r with a | ⟨L', j'⟩
  ·obtain rfl : x = errV a := hB
   go_wp2_with fail
   clear e3 f3
   generalize (w3.setCell ⟨w.heap.size, 0, none⟩ (errV a)) = w4 at *
   refine leaves_cons (f := 186) (args := #[.pointer (some ⟨g, 0, none⟩), .string ⟨#[125]⟩, .pointer (some ⟨w.heap.size, 0, none⟩)]) (by simp) (by simp [go_sem]) ?_
   refine (leave_err g w.heap.size [125] a .returning _ E4.out).mono ?_
   rintro e u' w'' ⟨rfl, rfl, rfl⟩
   exact ⟨_, results_tmp_cell Tryz.results188 _ _ w.heap.size _ rfl (load_err _ _ _ (E4.out.cell 0)), A, l, cc, L, _, j, rfl, own_iv O4.out (by omega) (by omega), G4.out, P4.out, by rw [hkz.out]; rfl⟩
  ·obtain ⟨rfl, rfl, rfl⟩ := hB
   have ha := hadv.out L j rfl
   go_wp2_with fail
   clear e3 f3
   generalize (w3.setCell ⟨w.heap.size, 0, none⟩ .nilIface) = w4 at *
   refine leaves_cons (f := 186) (args := #[.pointer (some ⟨g, 0, none⟩), .string ⟨#[125]⟩, .pointer (some ⟨w.heap.size, 0, none⟩)]) (by simp) (by simp [go_sem]) ?_
   refine (leave_nil g b c w.heap.size (uz ts en) j [125] .returning _ P4.out (end_uz ts en) E4.out (by omega)).mono ?_
   rintro e u' w'' ⟨rfl, rfl, w6, hp6, hg6, rfl⟩
   obtain ⟨L2, L3, L4, L5⟩ := left1 (if seesB (uz ts en) j [125] = true then .nilIface else errV ((uz ts en)[j]?.getD ⟨0, 0, 0, []⟩).p) E4.out (own_iv O4.out (show w.heap.size + 1 ≤ _ by omega) (Nat.le_refl _)) (by omega) G4.out hp6 hg6 hgl hbl
   refine ⟨_, results_tmp_cell Tryz.results188 _ _ w.heap.size _ rfl (load_err _ _ _ L2), A, l, cc, L, _, _, rfl, L3, L4, L5, ?_⟩
   rw [sees_uz, errAt_uz ts en j ha.2.1, hkz.out]
   cases seesB ts j [125] with
   | true => exact ⟨rfl, rfl, rfl⟩
   | false => exact rfl
def chR (ts : List Tok) (en m i : Nat) : ResQ := match gz ts en m 2 i with
 | .error a => .error a
 | .ok (s, j) =>
  if seesB ts j elseW = true then
   match kz ts en m (j + 1) with
   | .error a => .error a
   | .ok (L, k) => .ok (s.withElse L, k)
  else .ok (s, j)
theorem choice_any {ts : List Tok} {en g b c n : Nat} (hgp : GP ts en g b c n) (hkp : KP ts en g b c n) (m : Nat) (hm : m ≤ n) (i : Nat) (w : World) (h : Prs w g b c (uz ts en) i) (hn : needG ts i ≤ m) :
  Calls Tryz.prog 154 #[.pointer (some ⟨g, 0, none⟩)] w (QOk ts en g b c w (chR ts en m i)) := by
 have hgl := h.lt
 have hbl := h.blt
 have hb1 := box_below w (.cells sc0.toArray SI)
 have z1 := size_alloc' w (.cells sc0.toArray SI)
 have B1 := hid (Blk.new w SI sc0)
 have G1 := hid (gb_below (gb_refl w (some g)) hb1)
 have hcl := hid (hgp m hm 2 i _ (h.below hb1) hn)
 have hadv := hid (fun s j (hq : gz ts en m 2 i = .ok (s, j)) => (adv_all ts en m).2.1 2 i s j hq)
 have hk2 := hid (fun j (hj : i < j) w1 (h1 : Prs w1 g b c (uz ts en) j) => hkp m hm j w1 h1 (by unfold needG at hn; unfold needK; omega))
 have htk := hid (fun j w1 (h1 : Prs w1 g b c (uz ts en) j) => take_any g b c (uz ts en) j elseW w1 h1 (end_uz ts en))
 obtain ⟨R, hR⟩ : ∃ R, R = chR ts en m i := ⟨_, rfl⟩
 have hR2 : R = match gz ts en m 2 i with
   | .error a => .error a
   | .ok (s, j) => if seesB ts j elseW = true then (match kz ts en m (j + 1) with
    | .error a => .error a
    | .ok (L, k) => .ok (s.withElse L, k)) else .ok (s, j) := by
  rw [hR]; unfold chR
  cases gz ts en m 2 i with
  | error a => rfl
  | ok p =>
   obtain ⟨s, j⟩ := p
   rfl
 rw [← hR]
 obtain ⟨r, hr⟩ : ∃ r, r = gz ts en m 2 i := ⟨_, rfl⟩
 rw [← hr] at hcl hadv hR2
 replace hR2 := hid hR2
 clear h hb1 hR hr hgp hkp hn hm
 go_enter Tryz.func154, Tryz.ntmps154
 go_wp2_with fail
 generalize (w.alloc (.cells sc0.toArray SI)) = w1 at *
 refine hcl.out.mono ?_
 rintro e w2 ⟨k, s, ek, en', es, A', l', c', Bb, lb, cb, C, lc, cc', t, x, j, rfl, hO, hg, hp, hQ⟩
 have z2 := hg.size
 have b3 := box_below w2 (.cells (sc k s ek en' es A' l' c' Bb lb cb C lc cc').toArray SI)
 have z3 := size_alloc' w2 (.cells (sc k s ek en' es A' l' c' Bb lb cb C lc cc').toArray SI)
 have Q3 := Blk.new w2 SI (sc k s ek en' es A' l' c' Bb lb cb C lc cc')
 have B3 := (B1.out.gb hg (by omega)).below b3 (B1.out.gb hg (by omega)).lt
 have G3 := hid (gb_below (gb_trans G1.out hg) b3)
 have O3 := hO.same (w' := w2.alloc (.cells (sc k s ek en' es A' l' c' Bb lb cb C lc cc').toArray SI)) fun q hq => b3.block q hq.2
 have P3 := hp.below b3
 clear hO hg hp hcl b3 G1 B1
 rcases r with a | ⟨t', j'⟩
 ·obtain rfl : x = errV a := hQ
  have hq : QIs R t (errV a) j := by rw [hR2.out]; rfl
  have hf := fin8 B3 rfl O3 (by omega) (by omega) G3.out P3 hq hgl hbl
  have hf1 := hid hf.1
  have hf2 := hid hf.2
  obtain ⟨r0, r1, r2, r3, r4, r5, r6, r7⟩ := eight B3
  have y0 := B3.frozen 0
  have y1 := B3.frozen 1
  have y2 := B3.frozen 2
  have y3 := B3.frozen 3
  have y4 := B3.frozen 4
  have y5 := B3.frozen 5
  have y6 := B3.frozen 6
  have y7 := B3.frozen 7
  clear hf hq
  obtain ⟨k0, k1, k2, k3, k4, k5, k6, k7⟩ := eight Q3
  clear hR2 hadv hk2 htk Q3 B3 G3 O3 P3
  go_wp2_with fail
  exact bodyPost_ret (results_cell2 Tryz.results154 _ _ w.heap.size 60 _ (0, 0) _ rfl hf1.out Tryz.underlying60 rfl (by kernel_rfl)) rfl hf2.out
 ·obtain ⟨rfl, rfl, rfl⟩ := hQ
  obtain ⟨ha, te, tB, rfl⟩ := hadv.out t j rfl
  have htk2 := htk.out j _ P3
  rw [sees_uz] at htk2
  have hR3 := hR2.out
  replace Q3 := hid Q3
  replace B3 := hid B3
  replace O3 := hid O3
  replace P3 := hid P3
  cases hs : seesB ts j elseW with
  | false =>
   rw [hs] at htk2
   simp only [hs] at hR3
   replace hR3 := hid hR3
   replace htk2 := hid htk2
   clear hadv hk2 htk hR2 hs
   go_wp2_with fail
   generalize (w2.alloc (.cells (sc k s ek en' es A' l' c' Bb lb cb C lc cc').toArray SI)) = w3 at *
   refine htk2.out.mono ?_
   rintro e w4 ⟨rfl, p4, g4⟩
   have p4 : Prs w4 g b c (uz ts en) j := p4
   have z4 := g4.size
   have Q4 := Q3.out.gb g4 (by omega)
   have B4 := B3.out.gb g4 (by omega)
   have G4 := gb_trans G3.out g4
   have O4 := O3.out.same (w' := w4) fun q hq => g4.block q (by have := hq.2; omega) (by have := hq.1; simp; omega)
   have hq : QIs R (.mk 2 [] te tB []) .nilIface j := by rw [hR3.out]; exact ⟨rfl, rfl, rfl⟩
   have hf := fin8 B4 rfl O4 (by omega) (by omega) G4 p4 hq hgl hbl
   have hf1 := hid hf.1
   have hf2 := hid hf.2
   obtain ⟨r0, r1, r2, r3, r4, r5, r6, r7⟩ := eight B4
   have y0 := B4.frozen 0
   have y1 := B4.frozen 1
   have y2 := B4.frozen 2
   have y3 := B4.frozen 3
   have y4 := B4.frozen 4
   have y5 := B4.frozen 5
   have y6 := B4.frozen 6
   have y7 := B4.frozen 7
   clear hf hq
   obtain ⟨k0, k1, k2, k3, k4, k5, k6, k7⟩ := eight Q4
   clear hR3 Q4 B4 G4 O4 p4 g4 Q3 B3 O3 P3 G3 htk2
   go_wp2_with fail
   exact bodyPost_ret (results_cell2 Tryz.results154 _ _ w.heap.size 60 _ (0, 0) _ rfl hf1.out Tryz.underlying60 rfl (by kernel_rfl)) rfl hf2.out
  | true =>
   have hjl := sees_lt hs
   rw [hs] at htk2
   simp only [hs] at hR3
   have hkc := hid (fun w1 (h1 : Prs w1 g b c (uz ts en) (j + 1)) => hk2.out (j + 1) (by have := ha.1; omega) w1 h1)
   obtain ⟨r, hr⟩ : ∃ r, r = kz ts en m (j + 1) := ⟨_, rfl⟩
   rw [← hr] at hkc hR3
   replace hR3 := hid hR3
   replace htk2 := hid htk2
   clear hadv hk2 htk hR2 hs hr
   go_wp2_with fail
   generalize (w2.alloc (.cells (sc k s ek en' es A' l' c' Bb lb cb C lc cc').toArray SI)) = w3 at *
   refine htk2.out.mono ?_
   rintro e w4 ⟨rfl, p4, g4⟩
   have p4 : Prs w4 g b c (uz ts en) (j + 1) := p4
   have z4 := g4.size
   have Q4 := hid (Q3.out.gb g4 (by omega))
   have B4 := hid (B3.out.gb g4 (by omega))
   have G4 := hid (gb_trans G3.out g4)
   have O4 := hid (O3.out.same (w' := w4) fun q hq => g4.block q (by have := hq.2; omega) (by have := hq.1; simp; omega))
   have hcl := hid (hkc.out w4 p4)
   clear p4 g4 Q3 B3 O3 P3 G3 htk2 hkc
   go_wp2_with fail
   refine hcl.out.mono ?_
   rintro e w5 ⟨A5, l5, c5, L5, x5, j5, rfl, hO5, g5, p5, hB5⟩
   have z5 := g5.size
   have lQ := Q4.out.lt
   have lB := B4.out.lt
   have Q5 := Q4.out.gb g5 (by omega)
   have B5 := B4.out.gb g5 (by omega)
   have G5 := gb_trans G4.out g5
   have O5 := O4.out.same (w' := w5) fun q hq => g5.block q (by have := hq.2; omega) (by have := hq.1; simp; omega)
   have hne : ∀ q, q ≠ w2.heap.size → (w5.setCell ⟨w2.heap.size, 7, none⟩ (.slice A5 l5 c5)).heap[q]? = w5.heap[q]? := fun q hq => heap_setCell_other _ _ _ _ hq
   have hsz : (w5.setCell ⟨w2.heap.size, 7, none⟩ (.slice A5 l5 c5)).heap.size = w5.heap.size := by simp [World.setCell]
   have e5 : w5.cell? ⟨w2.heap.size, 7, none⟩ = some (.slice C lc cc') := Q5.cell 7
   have f5 := Q5.frozen 7
   have Q6 : Blk (w5.setCell ⟨w2.heap.size, 7, none⟩ (.slice A5 l5 c5)) w2.heap.size SI (sc k s ek en' es A' l' c' Bb lb cb A5 l5 c5) := Q5.set_ 7 (.slice A5 l5 c5)
   have B6 : Blk (w5.setCell ⟨w2.heap.size, 7, none⟩ (.slice A5 l5 c5)) w.heap.size SI sc0 := (hne _ (by omega)).trans B5
   have G6 := Dr.gb_new G5 (show w.heap.size ≤ w2.heap.size by omega) 7 (.slice A5 l5 c5)
   obtain ⟨fk, fn, fn', A6, l6, c6, B7, cb7, C7, cc7, lo, hi, S2, S3, he, hs8, oX, oB, oE, d1, d2, d3⟩ := own_st_inv O5
   have hin : ∀ q, Iv w1.heap.size w2.heap.size q → q ≠ w2.heap.size := fun q hq => by have := hq.2; omega
   have O6 : OwnD (w5.setCell ⟨w2.heap.size, 7, none⟩ (.slice A5 l5 c5)) (Iv w1.heap.size w5.heap.size) (sc k s ek en' es A' l' c' Bb lb cb A5 l5 c5) (St.mk 2 [] te tB L5).d := by
    have e1 := he
    unfold sc at e1
    simp only [List.cons.injEq, and_true] at e1
    obtain ⟨e1, e2, e3, e4, e6, e7, e8, e9⟩ := e1
    have hcs : sc k s ek en' es A' l' c' Bb lb cb A5 l5 c5 = sc 2 [] fk fn fn' A6 l6 c6 B7 tB.length cb7 A5 l5 c5 := by
     unfold sc; rw [e1, e2, e3, e4, e6, e7, e8]
    rw [hcs]
    refine own_st_mk (R2 := S2) (R3 := Iv w4.heap.size w5.heap.size) hs8 (oX.same fun q h1 h2 => hne q (hin q (d1 q ⟨h1, h2⟩).1)) (oB.same fun q hq => hne q (hin q (d2 q hq).1)) (hO5.same fun q hq => hne q (by have := hq.1; omega)) (fun q hq => ?_) (fun q hq => ?_) (fun q hq => ⟨by have := hq.1; omega, hq.2⟩)
    ·have h1 := (d1 q hq).1
     exact ⟨⟨h1.1, by have := h1.2; omega⟩, (d1 q hq).2.1, fun h2 => by have := h1.2; have := h2.1; omega⟩
    ·have h1 := (d2 q hq).1
     exact ⟨⟨h1.1, by have := h1.2; omega⟩, fun h2 => by have := h1.2; have := h2.1; omega⟩
   have hq : QIs R (.mk 2 [] te tB L5) x5 j5 := by
    rw [hR3.out]
    rcases r with a | ⟨L', k'⟩
    ·exact hB5
    ·obtain ⟨rfl, rfl, rfl⟩ := hB5
     exact ⟨rfl, rfl, rfl⟩
   have P6 := p5.far (w' := w5.setCell ⟨w2.heap.size, 7, none⟩ (.slice A5 l5 c5)) (hne _ (by omega)) (hne _ (by omega))
   have zz := hsz
   have hf := fin8 B6 rfl O6 (by omega) (by rw [zz]; omega) G6 P6 hq hgl hbl
   have hf1 := hid hf.1
   have hf2 := hid hf.2
   obtain ⟨r0, r1, r2, r3, r4, r5, r6, r7⟩ := eight B6
   have y0 := B6.frozen 0
   have y1 := B6.frozen 1
   have y2 := B6.frozen 2
   have y3 := B6.frozen 3
   have y4 := B6.frozen 4
   have y5 := B6.frozen 5
   have y6 := B6.frozen 6
   have y7 := B6.frozen 7
   clear hf hq
   obtain ⟨k0, k1, k2, k3, k4, k5, k6, k7⟩ := eight Q6
   clear hR3 Q6 B6 G6 O6 P6 Q5 B5 G5 O5 hO5 g5 p5 hB5 Q4 B4 G4 O4 hcl oX oB oE d1 d2 d3 hin hne hsz he
   go_wp2_with fail
   exact bodyPost_ret (results_cell2 Tryz.results154 _ _ w.heap.size 60 _ (0, 0) _ rfl hf1.out Tryz.underlying60 rfl (by kernel_rfl)) rfl hf2.out
theorem stmt_any {ts : List Tok} {en g b c n : Nat} (hG : ∀ t ∈ ts, GoodT t) (h150 : ts.length ≤ 150) (hgp : GP ts en g b c n) (hkp : KP ts en g b c n) : QP ts en g b c (n + 1) := by
 intro m hm i w h hat hn
 obtain ⟨m, rfl⟩ : ∃ k, m = k + 1 := ⟨m - 1, by unfold needQ at hn; omega⟩
 have hgl := h.lt
 have hbl := h.blt
 have hil := atSt_lt hat
 have hb1 := box_below w (.cells sc0.toArray SI)
 have z1 := size_alloc' w (.cells sc0.toArray SI)
 have B1 := hid (Blk.new w SI sc0)
 have G1 := hid (gb_below (gb_refl w (some g)) hb1)
 have p1 := h.below hb1
 have htk := fun S w1 (h1 : Prs w1 g b c (uz ts en) i) => take_any g b c (uz ts en) i S w1 h1 (end_uz ts en)
 have hng : needG ts (i + 1) ≤ m := by unfold needQ at hn; unfold needG; omega
 obtain ⟨R, hR⟩ : ∃ R, R = qz ts en (m + 1) i := ⟨_, rfl⟩
 rw [← hR]
 replace p1 := hid p1
 cases h1 : seesB ts i emitW with
 | true =>
  have hRe : R = semiR ts en (fun e => .mk 4 [] e [] []) (pz ts en 2000 1 (i + 1)) := by
   rw [hR, qz, if_pos h1]; unfold semiR
   cases pz ts en 2000 1 (i + 1) <;> rfl
  have t1 := htk emitW _ p1.out
  rw [sees_uz, h1] at t1
  have hcl := hid (fun w1 (h1 : Prs w1 g b c (uz ts en) (i + 1)) => emission_any hG h150 (i + 1) w1 h1)
  rw [← hRe] at hcl
  replace t1 := hid t1
  clear h hb1 hR hRe h1 htk hgp hkp hat hn hm
  go_enter Tryz.func116, Tryz.ntmps116
  go_wp2_with fail
  generalize (w.alloc (.cells sc0.toArray SI)) = w1 at *
  refine t1.out.mono ?_
  rintro e w2 ⟨rfl, p2, g2⟩
  have p2 := hid (show Prs w2 g b c (uz ts en) (i + 1) from p2)
  have z2 := g2.size
  have B2 := hid (B1.out.gb g2 (by omega))
  have G2 := hid (gb_trans G1.out g2)
  clear g2 t1 p1 B1 G1
  have hcl := hid (hcl.out w2 p2.out)
  clear p2
  go_wp2_with fail
  refine hcl.out.mono ?_
  rintro e wf ⟨k, s, ek, en', es, A', l', c', Bb, lb, cb, C, lc, cc', t, x, j, rfl, hO, hg, hp, hQ⟩
  have zf := hg.size
  have Bf := B2.out.gb hg (by omega)
  have Gf := gb_trans G2.out hg
  have hq := hQ
  have hf := fin8 Bf rfl hO (by omega) (Nat.le_refl _) Gf hp hq hgl hbl
  have hf1 := hid hf.1
  have hf2 := hid hf.2
  obtain ⟨r0, r1, r2, r3, r4, r5, r6, r7⟩ := eight Bf
  have y0 := Bf.frozen 0
  have y1 := Bf.frozen 1
  have y2 := Bf.frozen 2
  have y3 := Bf.frozen 3
  have y4 := Bf.frozen 4
  have y5 := Bf.frozen 5
  have y6 := Bf.frozen 6
  have y7 := Bf.frozen 7
  clear hf hq
  clear Bf hO Gf hp hg hQ hcl B2 G2
  go_wp2_with fail
  exact bodyPost_ret (results_cell2 Tryz.results116 _ _ w.heap.size 60 _ (0, 0) _ rfl hf1.out Tryz.underlying60 rfl (by kernel_rfl)) rfl hf2.out
 | false =>
  have t1 := htk emitW _ p1.out
  rw [sees_uz, h1] at t1
  replace t1 := hid t1
  cases h2 : seesB ts i whileW with
  | true =>
   have hRe : R = gz ts en m 3 (i + 1) := by rw [hR, qz, if_neg (by rw [h1]; simp), if_pos h2]
   have t2 := hid (fun w1 (hq : Prs w1 g b c (uz ts en) i) => htk whileW w1 hq)
   rw [sees_uz, h2] at t2
   have hcl := hid (fun w1 (h1 : Prs w1 g b c (uz ts en) (i + 1)) => hgp m (by omega) 3 (i + 1) w1 h1 hng)
   rw [← hRe] at hcl
   clear h hb1 hR hRe h1 h2 htk hgp hkp hat hn hm
   go_enter Tryz.func116, Tryz.ntmps116
   go_wp2_with fail
   generalize (w.alloc (.cells sc0.toArray SI)) = w1 at *
   refine t1.out.mono ?_
   rintro e w2 ⟨rfl, p2, g2⟩
   have p2 := hid (show Prs w2 g b c (uz ts en) (i) from p2)
   have z2 := g2.size
   have B2 := hid (B1.out.gb g2 (by omega))
   have G2 := hid (gb_trans G1.out g2)
   clear g2 t1 p1 B1 G1
   go_wp2_with fail
   refine (t2.out w2 p2.out).mono ?_
   rintro e w3 ⟨rfl, p3, g3⟩
   have p3 := hid (show Prs w3 g b c (uz ts en) (i + 1) from p3)
   have z3 := g3.size
   have B3 := hid (B2.out.gb g3 (by omega))
   have G3 := hid (gb_trans G2.out g3)
   clear g3 t2 p2 B2 G2
   have hcl := hid (hcl.out w3 p3.out)
   clear p3
   go_wp2_with fail
   refine hcl.out.mono ?_
   rintro e wf ⟨k, s, ek, en', es, A', l', c', Bb, lb, cb, C, lc, cc', t, x, j, rfl, hO, hg, hp, hQ⟩
   have zf := hg.size
   have Bf := B3.out.gb hg (by omega)
   have Gf := gb_trans G3.out hg
   have hq := hQ
   have hf := fin8 Bf rfl hO (by omega) (Nat.le_refl _) Gf hp hq hgl hbl
   have hf1 := hid hf.1
   have hf2 := hid hf.2
   obtain ⟨r0, r1, r2, r3, r4, r5, r6, r7⟩ := eight Bf
   have y0 := Bf.frozen 0
   have y1 := Bf.frozen 1
   have y2 := Bf.frozen 2
   have y3 := Bf.frozen 3
   have y4 := Bf.frozen 4
   have y5 := Bf.frozen 5
   have y6 := Bf.frozen 6
   have y7 := Bf.frozen 7
   clear hf hq
   clear Bf hO Gf hp hg hQ hcl B3 G3
   go_wp2_with fail
   exact bodyPost_ret (results_cell2 Tryz.results116 _ _ w.heap.size 60 _ (0, 0) _ rfl hf1.out Tryz.underlying60 rfl (by kernel_rfl)) rfl hf2.out
  | false =>
   have t2 := hid (fun w1 (hq : Prs w1 g b c (uz ts en) i) => htk whileW w1 hq)
   rw [sees_uz, h2] at t2
   cases h3 : seesB ts i ifW with
   | true =>
    have hRe : R = chR ts en m (i + 1) := by
     rw [hR, qz, if_neg (by rw [h1]; simp), if_neg (by rw [h2]; simp), if_pos h3]
     unfold chR
     cases gz ts en m 2 (i + 1) with
     | error a => rfl
     | ok p =>
      obtain ⟨s, j⟩ := p
      simp only
      cases kz ts en m (j + 1) <;> rfl
    have t3 := hid (fun w1 (hq : Prs w1 g b c (uz ts en) i) => htk ifW w1 hq)
    rw [sees_uz, h3] at t3
    have hcl := hid (fun w1 (h1 : Prs w1 g b c (uz ts en) (i + 1)) => choice_any hgp hkp m (by omega) (i + 1) w1 h1 hng)
    rw [← hRe] at hcl
    clear h hb1 hR hRe h1 h2 h3 htk hgp hkp hat hn hm
    go_enter Tryz.func116, Tryz.ntmps116
    go_wp2_with fail
    generalize (w.alloc (.cells sc0.toArray SI)) = w1 at *
    refine t1.out.mono ?_
    rintro e w2 ⟨rfl, p2, g2⟩
    have p2 := hid (show Prs w2 g b c (uz ts en) (i) from p2)
    have z2 := g2.size
    have B2 := hid (B1.out.gb g2 (by omega))
    have G2 := hid (gb_trans G1.out g2)
    clear g2 t1 p1 B1 G1
    go_wp2_with fail
    refine (t2.out w2 p2.out).mono ?_
    rintro e w3 ⟨rfl, p3, g3⟩
    have p3 := hid (show Prs w3 g b c (uz ts en) (i) from p3)
    have z3 := g3.size
    have B3 := hid (B2.out.gb g3 (by omega))
    have G3 := hid (gb_trans G2.out g3)
    clear g3 t2 p2 B2 G2
    go_wp2_with fail
    refine (t3.out w3 p3.out).mono ?_
    rintro e w4 ⟨rfl, p4, g4⟩
    have p4 := hid (show Prs w4 g b c (uz ts en) (i + 1) from p4)
    have z4 := g4.size
    have B4 := hid (B3.out.gb g4 (by omega))
    have G4 := hid (gb_trans G3.out g4)
    clear g4 t3 p3 B3 G3
    have hcl := hid (hcl.out w4 p4.out)
    clear p4
    go_wp2_with fail
    refine hcl.out.mono ?_
    rintro e wf ⟨k, s, ek, en', es, A', l', c', Bb, lb, cb, C, lc, cc', t, x, j, rfl, hO, hg, hp, hQ⟩
    have zf := hg.size
    have Bf := B4.out.gb hg (by omega)
    have Gf := gb_trans G4.out hg
    have hq := hQ
    have hf := fin8 Bf rfl hO (by omega) (Nat.le_refl _) Gf hp hq hgl hbl
    have hf1 := hid hf.1
    have hf2 := hid hf.2
    obtain ⟨r0, r1, r2, r3, r4, r5, r6, r7⟩ := eight Bf
    have y0 := Bf.frozen 0
    have y1 := Bf.frozen 1
    have y2 := Bf.frozen 2
    have y3 := Bf.frozen 3
    have y4 := Bf.frozen 4
    have y5 := Bf.frozen 5
    have y6 := Bf.frozen 6
    have y7 := Bf.frozen 7
    clear hf hq
    clear Bf hO Gf hp hg hQ hcl B4 G4
    go_wp2_with fail
    exact bodyPost_ret (results_cell2 Tryz.results116 _ _ w.heap.size 60 _ (0, 0) _ rfl hf1.out Tryz.underlying60 rfl (by kernel_rfl)) rfl hf2.out
   | false =>
    have t3 := hid (fun w1 (hq : Prs w1 g b c (uz ts en) i) => htk ifW w1 hq)
    rw [sees_uz, h3] at t3
    obtain ⟨X, hX⟩ : ∃ X, nameAt ts i = some X := by
     unfold atSt at hat
     rw [h1, h2, h3] at hat
     simp only [Bool.false_or] at hat
     exact Option.isSome_iff_exists.1 hat
    have hRe : R = asR ts en X i := by
     rw [hR, qz, if_neg (by rw [h1]; simp), if_neg (by rw [h2]; simp), if_neg (by rw [h3]; simp), hX]
     unfold asR semiR
     simp only
     cases pz ts en 2000 1 (i + 1 + 1) <;> rfl
    have hcl := hid (fun w1 (h1 : Prs w1 g b c (uz ts en) i) => assign_any hG h150 i X hX w1 h1)
    rw [← hRe] at hcl
    clear h hb1 hR hRe h1 h2 h3 htk hgp hkp hat hn hm
    go_enter Tryz.func116, Tryz.ntmps116
    go_wp2_with fail
    generalize (w.alloc (.cells sc0.toArray SI)) = w1 at *
    refine t1.out.mono ?_
    rintro e w2 ⟨rfl, p2, g2⟩
    have p2 := hid (show Prs w2 g b c (uz ts en) (i) from p2)
    have z2 := g2.size
    have B2 := hid (B1.out.gb g2 (by omega))
    have G2 := hid (gb_trans G1.out g2)
    clear g2 t1 p1 B1 G1
    go_wp2_with fail
    refine (t2.out w2 p2.out).mono ?_
    rintro e w3 ⟨rfl, p3, g3⟩
    have p3 := hid (show Prs w3 g b c (uz ts en) (i) from p3)
    have z3 := g3.size
    have B3 := hid (B2.out.gb g3 (by omega))
    have G3 := hid (gb_trans G2.out g3)
    clear g3 t2 p2 B2 G2
    go_wp2_with fail
    refine (t3.out w3 p3.out).mono ?_
    rintro e w4 ⟨rfl, p4, g4⟩
    have p4 := hid (show Prs w4 g b c (uz ts en) (i) from p4)
    have z4 := g4.size
    have B4 := hid (B3.out.gb g4 (by omega))
    have G4 := hid (gb_trans G3.out g4)
    clear g4 t3 p3 B3 G3
    have hcl := hid (hcl.out w4 p4.out)
    clear p4
    go_wp2_with fail
    refine hcl.out.mono ?_
    rintro e wf ⟨k, s, ek, en', es, A', l', c', Bb, lb, cb, C, lc, cc', t, x, j, rfl, hO, hg, hp, hQ⟩
    have zf := hg.size
    have Bf := B4.out.gb hg (by omega)
    have Gf := gb_trans G4.out hg
    have hq := hQ
    have hf := fin8 Bf rfl hO (by omega) (Nat.le_refl _) Gf hp hq hgl hbl
    have hf1 := hid hf.1
    have hf2 := hid hf.2
    obtain ⟨r0, r1, r2, r3, r4, r5, r6, r7⟩ := eight Bf
    have y0 := Bf.frozen 0
    have y1 := Bf.frozen 1
    have y2 := Bf.frozen 2
    have y3 := Bf.frozen 3
    have y4 := Bf.frozen 4
    have y5 := Bf.frozen 5
    have y6 := Bf.frozen 6
    have y7 := Bf.frozen 7
    clear hf hq
    clear Bf hO Gf hp hg hQ hcl B4 G4
    go_wp2_with fail
    exact bodyPost_ret (results_cell2 Tryz.results116 _ _ w.heap.size 60 _ (0, 0) _ rfl hf1.out Tryz.underlying60 rfl (by kernel_rfl)) rfl hf2.out
theorem program_all {ts : List Tok} {en g b c : Nat} (hG : ∀ t ∈ ts, GoodT t) (h150 : ts.length ≤ 150) (n : Nat) : QP ts en g b c n ∧ GP ts en g b c n ∧ KP ts en g b c n ∧ BP ts en g b c n := by
 induction n with
 | zero => exact ⟨fun m hm i w _ _ hn => by unfold needQ at hn; omega, fun m hm q i w _ hn => by unfold needG at hn; omega, fun m hm i w _ hn => by unfold needK at hn; omega, fun m hm i w _ hn => by unfold needB at hn; omega⟩
 | succ n ih =>
  obtain ⟨hq, hg, hk, hb⟩ := ih
  exact ⟨stmt_any hG h150 hg hk, guarded_any hG h150 hk, block_any hb, stmts_any hG h150 hq⟩
end Go.Proofs.YtiogceepjffmkaaGreatDoor.Gd
