/- The model's reader of tokens. -/
import Derived.Test.YtiogceepjffmkaaGreatDoorZP6a
set_option maxHeartbeats 1000000
set_option maxRecDepth 100000
namespace Go.Proofs.YtiogceepjffmkaaGreatDoor.Tk
open Go.RowKit Go.Lib Go.Sort Num Com Mem YtiogceepjffmkaaGreatDoor.Os Tr
abbrev RT : TypeId := 131
structure Rdr (w : World) (g : Nat) (A : Option Addr) (c : Nat) (ts : List Tok) (en i : Nat) (bad : Int) : Prop where
  blk : Blk w g RT [.slice A ts.length c, .int .i64 i, .int .i64 en, .int .i64 bad]
  rd : Rd w g A (cellsT ts)
def Stp (w : World) (g : Nat) (A : Option Addr) (c : Nat) (ts : List Tok) (en i : Nat) (bad : Int) (w' : World) : Prop := Rdr w' g A c ts en i bad ∧ w.grownBy w' (some g)
section
variable {w w' w'' : World} {g c en i j : Nat} {A : Option Addr} {ts : List Tok} {bad b2 : Int}
theorem Rdr.lt (h : Rdr w g A c ts en i bad) : g < w.heap.size := h.blk.lt
theorem Rdr.cells (h : Rdr w g A c ts en i bad) : w.cell? ⟨g, 0, none⟩ = some (.slice A ts.length c) ∧ w.cell? ⟨g, 1, none⟩ = some (.int .i64 i) ∧ w.cell? ⟨g, 2, none⟩ = some (.int .i64 en) ∧ w.cell? ⟨g, 3, none⟩ = some (.int .i64 bad) := four h.blk
theorem Rdr.below (h : Rdr w g A c ts en i bad) (hb : Below w.heap.size w w') : Rdr w' g A c ts en i bad := ⟨h.blk.below hb h.lt, h.rd.below (hb.mono (Nat.le_of_lt h.lt))⟩
theorem Rdr.stp (h : Rdr w g A c ts en i bad) (hb : Below w.heap.size w w') : Stp w g A c ts en i bad w' := ⟨h.below hb, gb_below (gb_refl _ _) hb⟩
theorem Stp.tr (h : w.grownBy w' (some g)) (k : Stp w' g A c ts en j b2 w'') : Stp w g A c ts en j b2 w'' := ⟨k.1, gb_trans h k.2⟩
theorem Rdr.next (h : Rdr w g A c ts en i bad) : Stp w g A c ts en (i + 1) bad (w.setCell ⟨g, 1, none⟩ (.int .i64 ((i : Int) + 1))) := by
  refine ⟨⟨?_, ?_⟩, gb_set (gb_refl _ _) 1 _⟩
  · have := h.blk.set_ 1 (.int .i64 ((i : Int) + 1))
    have e : ((i + 1 : Nat) : Int) = (i : Int) + 1 := by omega
    rw [e]
    exact this
  · exact h.rd.keep fun p hp => World.cell?_of_block (heap_setCell_other w _ p.block _ (by show p.block ≠ g; omega))
theorem Rdr.fail_ (h : Rdr w g A c ts en i bad) (a : Int) : Stp w g A c ts en i a (w.setCell ⟨g, 3, none⟩ (.int .i64 a)) := by
  refine ⟨⟨?_, ?_⟩, gb_set (gb_refl _ _) 3 _⟩
  · exact h.blk.set_ 3 (.int .i64 a)
  · exact h.rd.keep fun p hp => World.cell?_of_block (heap_setCell_other w _ p.block _ (by show p.block ≠ g; omega))
end
theorem rd_at {w : World} {g c en i : Nat} {A : Option Addr} {ts : List Tok} {bad : Int} (h : Rdr w g A c ts en i bad) {m : Nat} (hm : m < ts.length) : ∃ ad, A = some ad ∧ w.cell? (ad.add (m * 4)) = some (.int .i64 ts[m].k) ∧
    w.cell? ⟨(ad.add (m * 4)).block, (ad.add (m * 4)).off + 1, none⟩ = some (.int .i64 ts[m].n) ∧ w.cell? ⟨(ad.add (m * 4)).block, (ad.add (m * 4)).off + 2, none⟩ = some (.int .i64 ts[m].p) ∧ w.cell? ⟨(ad.add (m * 4)).block, (ad.add (m * 4)).off + 3, none⟩ = some (sv ts[m].s) := by
  obtain ⟨ad, e, _, r⟩ := rd_tok h.rd hm
  exact ⟨ad, e, r⟩
theorem msees_any (g : Nat) (A : Option Addr) (c : Nat) (ts : List Tok) (en i : Nat) (s : List UInt8) (w : World) (h : Rdr w g A c ts en i (-1)) (hi : i ≤ ts.length) :
    Calls Tryz.prog 82 #[.pointer (some ⟨g, 0, none⟩), .string ⟨s.toArray⟩] w fun e w' => e = .returned (.bool (seesB ts i s)) ∧ Below w.heap.size w w' := by
  obtain ⟨c0, c1, c2, c3⟩ := h.cells
  by_cases hlt : i < ts.length
  · obtain ⟨ad, rfl, k0, k1, k2, k3⟩ := rd_at h hlt
    have hs : seesB ts i s = isWordB ts[i] s := by unfold seesB; rw [List.getElem?_eq_getElem hlt]
    have hiw := fun w => sword_any ts[i] s w
    rw [hs]
    clear hs h
    have t1 : decide ((i : Int) < (ts.length : Int)) = true := decide_eq_true (by omega)
    generalize ts[i] = t at *
    generalize isWordB t s = b at *
    obtain ⟨tk, tn, tp, tx⟩ := t
    dsimp only at k0 k1 k2 k3
    cases b
    all_goals
      have cM := hid (fun (d : Nat) (os : Array Obj) => Calls.regrown_of (d := d) (os := os) (hiw (grow (redrawn w d) os)))
      replace c0 := cell_regrown c0
      replace c1 := cell_regrown c1
      replace c3 := cell_regrown c3
      replace k0 := cell_regrown k0
      replace k1 := cell_regrown k1
      replace k2 := cell_regrown k2
      replace k3 := cell_regrown k3
      clear hiw c2
      go_enter Tryz.func82, Tryz.ntmps82
      go_wp2_with fail
      refine wp_region_quiet_below (by kernel_rfl) (by kernel_rfl) ?_
      repeat (go_big_quiet_step (exact cM.out _ _))
      refine wpQuiet_nil ?_
      intro _ hw'
      obtain ⟨⟨dq, osq⟩, hw''⟩ := hw'
      subst hw''
      have hq := hid (below_regrown w dq osq)
      clear c0 c1 c3 k0 k1 k2 k3 cM
      generalize grow (redrawn w dq) osq = wq at *
      go_wp2_with fail
      go_ret
      exact ⟨rfl, hq.out⟩
  · obtain rfl : i = ts.length := by omega
    have hs : seesB ts ts.length s = false := by unfold seesB; rw [List.getElem?_eq_none (Nat.le_refl _)]
    rw [hs]
    have t1 : decide ((ts.length : Int) < (ts.length : Int)) = false := decide_eq_false (by omega)
    replace c0 := cell_regrown c0
    replace c1 := cell_regrown c1
    replace c3 := cell_regrown c3
    clear hs h c2
    go_enter Tryz.func82, Tryz.ntmps82
    go_wp2_with fail
    refine wp_region_quiet_below (by kernel_rfl) (by kernel_rfl) ?_
    repeat (go_big_quiet_step (fail))
    refine wpQuiet_nil ?_
    intro _ hw'
    obtain ⟨⟨dq, osq⟩, hw''⟩ := hw'
    subst hw''
    have hq := hid (below_regrown w dq osq)
    clear c0 c1 c3
    generalize grow (redrawn w dq) osq = wq at *
    go_wp2_with fail
    go_ret
    exact ⟨rfl, hq.out⟩
theorem msees_bad (g : Nat) (A : Option Addr) (c : Nat) (ts : List Tok) (en i : Nat) (bad : Int) (s : List UInt8) (w : World) (h : Rdr w g A c ts en i bad) (hb : 0 ≤ bad) :
    Calls Tryz.prog 82 #[.pointer (some ⟨g, 0, none⟩), .string ⟨s.toArray⟩] w fun e w' => e = .returned (.bool false) ∧ Below w.heap.size w w' := by
  obtain ⟨c0, c1, c2, c3⟩ := h.cells
  have t1 : decide (bad < 0) = false := decide_eq_false (by omega)
  replace c0 := cell_regrown c0
  replace c1 := cell_regrown c1
  replace c3 := cell_regrown c3
  clear h c2
  go_enter Tryz.func82, Tryz.ntmps82
  go_wp2_with fail
  refine wp_region_quiet_below (by kernel_rfl) (by kernel_rfl) ?_
  repeat (go_big_quiet_step (fail))
  refine wpQuiet_nil ?_
  intro _ hw'
  obtain ⟨⟨dq, osq⟩, hw''⟩ := hw'
  subst hw''
  have hq := hid (below_regrown w dq osq)
  clear c0 c1 c3
  generalize grow (redrawn w dq) osq = wq at *
  go_wp2_with fail
  go_ret
  exact ⟨rfl, hq.out⟩
abbrev EX : TypeId := 58
abbrev zeroW (w : World) (b : Nat) : World := (((w.setCell ⟨b, 0, none⟩ (.int .i64 0)).setCell ⟨b, 1, none⟩ (.int .i64 0)).setCell ⟨b, 2, none⟩ (.string ⟨#[]⟩)).setCell ⟨b, 3, none⟩ (.slice none 0 0)
theorem put0 {w : World} {b : Nat} {z0 z1 z2 z3 : Value} (h : Blk w b EX [z0, z1, z2, z3]) : Blk (zeroW w b) b EX [.int .i64 0, .int .i64 0, .string ⟨#[]⟩, .slice none 0 0] ∧ ∀ k, k ≠ b → (zeroW w b).heap[k]? = w.heap[k]? :=
  ⟨((((h.set_ 0 _).set_ 1 _).set_ 2 _).set_ 3 _), fun k hk => by rw [heap_setCell_other _ _ _ _ hk, heap_setCell_other _ _ _ _ hk, heap_setCell_other _ _ _ _ hk, heap_setCell_other _ _ _ _ hk]⟩
theorem put0_stp {w wq : World} {g c en i : Nat} {A : Option Addr} {ts : List Tok} {bad : Int} (h : Rdr wq g A c ts en i bad) (hG : w.grownBy wq (some g)) (hg : g < w.heap.size) : Stp w g A c ts en i bad (zeroW wq w.heap.size) := by
  have hb : Below w.heap.size wq (zeroW wq w.heap.size) := ((((Below.refl _ _).setCell (p := ⟨w.heap.size, 0, none⟩) (Nat.le_refl _) _).setCell (p := ⟨w.heap.size, 1, none⟩) (Nat.le_refl _) _).setCell (p := ⟨w.heap.size, 2, none⟩) (Nat.le_refl _) _).setCell (p := ⟨w.heap.size, 3, none⟩) (Nat.le_refl _) _
  refine ⟨⟨h.blk.below hb hg, h.rd.below (hb.mono (by omega))⟩, ?_⟩
  exact ⟨hb.os.trans hG.os, hb.tape.trans hG.tape, hb.output.trans hG.output, Nat.le_trans hG.size hb.size, fun k hk hr => (hb.block k hk).trans (hG.block k hk hr)⟩
theorem mfail_bad (g : Nat) (A : Option Addr) (c : Nat) (ts : List Tok) (en i : Nat) (bad : Int) (w : World) (h : Rdr w g A c ts en i bad) (hb : 0 ≤ bad) :
    Calls Tryz.prog 121 #[.pointer (some ⟨g, 0, none⟩)] w fun e w' => e = .returned (nv 0 0 [] none 0 0) ∧ Below w.heap.size w w' := by
  have hb1 := box_below w (.cells #[.int .i64 0, .int .i64 0, .string ⟨#[]⟩, .slice none 0 0] EX)
  obtain ⟨c0, c1, c2, c3⟩ := (h.below hb1).cells
  have B1 := Blk.new w EX [.int .i64 0, .int .i64 0, .string ⟨#[]⟩, .slice none 0 0]
  have t1 : decide (bad < 0) = false := decide_eq_false (by omega)
  clear h c0 c1 c2
  have hb1 := hid hb1
  have B1 := hid B1
  go_enter Tryz.func121, Tryz.ntmps121
  go_wp2_with fail
  exact bodyPost_ret (results_cell_row Tryz.results121 _ _ w.heap.size EX _ (0, 0) _ rfl B1.out Tryz.underlying58 rfl (by kernel_rfl)) rfl ⟨rfl, hb1.out⟩
theorem mfail_any (g : Nat) (A : Option Addr) (c : Nat) (ts : List Tok) (en i : Nat) (w : World) (h : Rdr w g A c ts en i (-1)) (hi : i ≤ ts.length) :
    Calls Tryz.prog 121 #[.pointer (some ⟨g, 0, none⟩)] w fun e w' => e = .returned (nv 0 0 [] none 0 0) ∧ Stp w g A c ts en i (errAt ts en i) w' := by
  obtain ⟨c0, c1, c2, c3⟩ := (h.below (box_below w (.cells #[.int .i64 0, .int .i64 0, .string ⟨#[]⟩, .slice none 0 0] EX))).cells
  have f3 := (h.below (box_below w (.cells #[.int .i64 0, .int .i64 0, .string ⟨#[]⟩, .slice none 0 0] EX))).blk.frozen 3
  have hgl := h.lt
  have h1 := h.fail_ (en : Int)
  have zs : (w.setCell ⟨g, 3, none⟩ (.int .i64 en)).heap.size = w.heap.size := by simp [World.setCell]
  have B2 := Blk.new (w.setCell ⟨g, 3, none⟩ (.int .i64 en)) EX [.int .i64 0, .int .i64 0, .string ⟨#[]⟩, .slice none 0 0]
  rw [zs] at B2
  have G2 := hid (gb_below h1.2 (box_below (w.setCell ⟨g, 3, none⟩ (.int .i64 en)) (.cells #[.int .i64 0, .int .i64 0, .string ⟨#[]⟩, .slice none 0 0] EX)))
  have h2 := h1.1.below (box_below (w.setCell ⟨g, 3, none⟩ (.int .i64 en)) (.cells #[.int .i64 0, .int .i64 0, .string ⟨#[]⟩, .slice none 0 0] EX))
  obtain ⟨a, ha⟩ : ∃ a, a = errAt ts en i := ⟨_, rfl⟩
  rw [← ha]
  clear h1 h zs
  replace ha := hid ha
  have B2 := hid B2
  go_enter Tryz.func121, Tryz.ntmps121
  go_wp2_with fail
  clear c0 c1 c2 c3 f3
  generalize ((w.setCell ⟨g, 3, none⟩ (.int .i64 en)).alloc (.cells #[.int .i64 0, .int .i64 0, .string ⟨#[]⟩, .slice none 0 0] EX)) = w2 at *
  obtain ⟨c0, c1, c2, c3⟩ := h2.cells
  by_cases hlt : i < ts.length
  · have hr := hid (rd_at h2 hlt)
    have e1 : a = ts[i].p := by rw [ha.out]; unfold errAt; rw [List.getElem?_eq_getElem hlt]
    have t1 : decide ((i : Int) < (ts.length : Int)) = true := decide_eq_true (by omega)
    have h2 := hid h2
    clear ha c2 c3
    replace c0 := cell_regrown c0
    replace c1 := cell_regrown c1
    refine wp_region_quiet_below (by kernel_rfl) (by kernel_rfl) ?_
    repeat (go_big_quiet_step (fail))
    refine wpQuiet_nil ?_
    intro _ hw'
    obtain ⟨⟨dq, osq⟩, hw''⟩ := hw'
    subst hw''
    have hq := below_regrown w2 dq osq
    have B4 := B2.out.below hq B2.out.lt
    have h4 := h2.out.below hq
    have G4 := hid (gb_below G2.out hq)
    clear c0 c1 hq hr
    generalize grow (redrawn w2 dq) osq = wq at *
    obtain ⟨ad, rfl, k0, k1, k2, k3⟩ := rd_at h4 hlt
    have hfl := hid (h4.fail_ a)
    have B5 := hid (B4.gb (h4.fail_ a).2 (by omega))
    have f3 := h4.blk.frozen 3
    obtain ⟨c0, c1, c2, c3⟩ := h4.cells
    rw [← e1] at k2
    clear e1 k0 k1 k3 B4 h4
    go_wp2_with fail
    have hd : Below (wq.setCell ⟨g, 3, none⟩ (.int .i64 a)).heap.size (wq.setCell ⟨g, 3, none⟩ (.int .i64 a)) (wq.setCell ⟨g, 3, none⟩ (.int .i64 a)).drew := (Below.refl _ _).drew
    have h6 := hid (hfl.out.1.below hd)
    have G6 := hid (gb_below (gb_trans G4.out hfl.out.2) hd)
    have B6 := hid (B5.out.below hd B5.out.lt)
    clear hd hfl B5
    go_region
    all_goals
      clear c0 c1 c2 c3 k2 f3
      generalize (wq.setCell ⟨g, 3, none⟩ (.int .i64 a)).drew = w6 at *
      obtain ⟨r0, r1, r2, r3⟩ := four B6.out
      have y0 := B6.out.frozen 0
      have y1 := B6.out.frozen 1
      have y2 := B6.out.frozen 2
      have y3 := B6.out.frozen 3
      have hst := hid (put0 B6.out)
      go_wp2_with fail
      exact bodyPost_ret (results_cell_row Tryz.results121 _ _ w.heap.size EX _ (0, 0) _ rfl hst.out.1 Tryz.underlying58 rfl (by kernel_rfl)) rfl ⟨rfl, put0_stp h6.out G6.out (by omega)⟩
  · have e1 : a = en := by rw [ha.out]; unfold errAt; rw [List.getElem?_eq_none (by omega)]
    have t1 : decide ((i : Int) < (ts.length : Int)) = false := decide_eq_false (by omega)
    have h2 := hid h2
    replace c0 := cell_regrown c0
    replace c1 := cell_regrown c1
    clear c2 c3 ha
    refine wp_region_quiet_below (by kernel_rfl) (by kernel_rfl) ?_
    repeat (go_big_quiet_step (fail))
    refine wpQuiet_nil ?_
    intro _ hw'
    obtain ⟨⟨dq, osq⟩, hw''⟩ := hw'
    subst hw''
    have hq := below_regrown w2 dq osq
    have B4 := B2.out.below hq B2.out.lt
    have h4 := hid (h2.out.below hq)
    have G4 := hid (gb_below G2.out hq)
    clear c0 c1 hq
    generalize grow (redrawn w2 dq) osq = wq at *
    obtain ⟨r0, r1, r2, r3⟩ := four B4
    have y0 := B4.frozen 0
    have y1 := B4.frozen 1
    have y2 := B4.frozen 2
    have y3 := B4.frozen 3
    have hst := hid (put0 B4)
    go_wp2_with fail
    exact bodyPost_ret (results_cell_row Tryz.results121 _ _ w.heap.size EX _ (0, 0) _ rfl hst.out.1 Tryz.underlying58 rfl (by kernel_rfl)) rfl ⟨rfl, by rw [e1]; exact (put0_stp h4.out G4.out (by omega))⟩
def tkBad (q : Bool) (a : Int) : Int := if q = true then -1 else a
theorem mtake_any (g : Nat) (A : Option Addr) (c : Nat) (ts : List Tok) (en i : Nat) (s : List UInt8) (w : World) (h : Rdr w g A c ts en i (-1)) (hi : i ≤ ts.length) (h63 : ts.length ≤ 1000) :
    Calls Tryz.prog 81 #[.pointer (some ⟨g, 0, none⟩), .string ⟨s.toArray⟩] w fun e w' => e = .returned (.tuple #[]) ∧ Stp w g A c ts en (nxB (seesB ts i s) i) (tkBad (seesB ts i s) (errAt ts en i)) w' := by
  have hs := hid (msees_any g A c ts en i s w h hi)
  have hf := hid (fun w1 (h1 : Rdr w1 g A c ts en i (-1)) => mfail_any g A c ts en i w1 h1 hi)
  have h := hid h
  generalize seesB ts i s = q at *
  go_enter Tryz.func81, Tryz.ntmps81
  go_wp2_with fail
  refine hs.out.mono ?_
  rintro e w1 ⟨rfl, hb⟩
  have h1 := h.out.stp hb
  clear hb hs
  cases q
  · have h1 := hid h1
    go_wp2_with fail
    refine (hf.out w1 h1.out.1).mono ?_
    rintro e w2 ⟨rfl, h2⟩
    have h2 := hid h2
    go_wp2_with fail
    refine bodyPost_ret (results_none rfl _ _ _) rfl ?_
    exact ⟨rfl, Stp.tr h1.out.2 h2.out⟩
  · obtain ⟨c0, c1, c2, c3⟩ := h1.1.cells
    have f1 := h1.1.blk.frozen 1
    have h2 := hid (h1.1.next)
    have h1 := hid h1
    clear hf
    go_wp2_with fail
    go_end0
    exact ⟨rfl, Stp.tr h1.out.2 h2.out⟩
theorem mtake_bad (g : Nat) (A : Option Addr) (c : Nat) (ts : List Tok) (en i : Nat) (bad : Int) (s : List UInt8) (w : World) (h : Rdr w g A c ts en i bad) (hb : 0 ≤ bad) :
    Calls Tryz.prog 81 #[.pointer (some ⟨g, 0, none⟩), .string ⟨s.toArray⟩] w fun e w' => e = .returned (.tuple #[]) ∧ Below w.heap.size w w' := by
  have hs := hid (msees_bad g A c ts en i bad s w h hb)
  have hf := hid (fun w1 (h1 : Rdr w1 g A c ts en i bad) => mfail_bad g A c ts en i bad w1 h1 hb)
  have h := hid h
  go_enter Tryz.func81, Tryz.ntmps81
  go_wp2_with fail
  refine hs.out.mono ?_
  rintro e w1 ⟨rfl, hb1⟩
  have h1 := hid (h.out.below hb1)
  have hb1 := hid hb1
  go_wp2_with fail
  refine (hf.out w1 h1.out).mono ?_
  rintro e w2 ⟨rfl, hb2⟩
  have hb2 := hid (hb1.out.trans (hb2.mono hb1.out.size))
  go_wp2_with fail
  refine bodyPost_ret (results_none rfl _ _ _) rfl ?_
  exact ⟨rfl, hb2.out⟩
def fop (f : List UInt8 → Bool) (ks : List Int) : Int := (ks.find? fun op => f (C3.symL op)).getD 0
theorem fop_none {f : List UInt8 → Bool} {ks : List Int} (h : ∀ j (hj : j < ks.length), f (C3.symL ks[j]) = false) : fop f ks = 0 := by
  unfold fop
  rw [List.find?_eq_none.2 (fun x hx => by
    obtain ⟨j, hj, rfl⟩ := List.getElem_of_mem hx
    simp [h j hj])]
  rfl
theorem fop_at {f : List UInt8 → Bool} {ks : List Int} {j : Nat} (hj : j < ks.length) (h : ∀ m (hm : m < ks.length), m < j → f (C3.symL ks[m]) = false) (hs : f (C3.symL ks[j]) = true) : fop f ks = ks[j] := by
  unfold fop
  have e : ks = ks.take j ++ (ks[j] :: ks.drop (j + 1)) := by rw [List.getElem_cons_drop, List.take_append_drop]
  have : ks.find? (fun op => f (C3.symL op)) = some ks[j] := by
    conv => lhs; rw [e]
    rw [List.find?_append, List.find?_eq_none.2 (fun x hx => by
      obtain ⟨m, hm, rfl⟩ := List.getElem_of_mem hx
      rw [List.length_take] at hm
      rw [List.getElem_take]
      simp [h m (by omega) (by omega)]), List.find?_cons_of_pos (p := fun op => f (C3.symL op)) hs]
    rfl
  rw [this]; rfl
theorem fop_snoc {f : List UInt8 → Bool} {ks : List Int} {m : Nat} (hm : m < ks.length) (h : ∀ j (hj : j < ks.length), j < m → f (C3.symL ks[j]) = false) (hs : f (C3.symL ks[m]) = false) : ∀ j (hj : j < ks.length), j < m + 1 → f (C3.symL ks[j]) = false := fun j hj h2 => by
  by_cases e : j = m
  · subst e; exact hs
  · exact h j hj (by omega)
theorem fop_sees (ts : List Tok) (l i : Nat) : fop (seesB ts i) (opsOf l) = opAt ts l i := rfl
theorem fop_no (l : Nat) : fop (fun _ => false) (opsOf l) = 0 := fop_none fun _ _ => rfl
theorem mop_gen (f : List UInt8 → Bool) (g : Nat) (A : Option Addr) (c : Nat) (ts : List Tok) (en i : Nat) (bad : Int) (l : Nat) (h1 : 1 ≤ l) (h5 : l ≤ 5) (w : World) (h : Rdr w g A c ts en i bad)
    (hs : ∀ s w1, Rdr w1 g A c ts en i bad → Calls Tryz.prog 82 #[.pointer (some ⟨g, 0, none⟩), .string ⟨s.toArray⟩] w1 fun e w' => e = .returned (.bool (f s)) ∧ Below w1.heap.size w1 w') :
    Calls Tryz.prog 160 #[.pointer (some ⟨g, 0, none⟩), .int .i64 (l : Nat)] w fun e w' => e = .returned (.int .i64 (fop f (opsOf l))) ∧ Below w.heap.size w w' := by
  have hlv : Calls Tryz.prog 190 #[] w fun e w' => ∃ B b, e = .returned (.slice (some ⟨B, 0, none⟩) 6 6) ∧ Below w.heap.size w w' ∧ w'.cell? ⟨B, l, none⟩ = some (.slice (some ⟨b, 0, none⟩) (opsOf l).length (opsOf l).length) ∧ Rd w' w'.heap.size (some ⟨b, 0, none⟩) ((opsOf l).map (Value.int .i64)) ∧ w.heap.size ≤ b :=
    (levs_any w).mono fun e w' ⟨B, he, hb, hr⟩ => by
      obtain ⟨b, h⟩ := hr l h1 h5
      exact ⟨B, b, he, hb, h⟩
  have h8 := opsOf_few l
  generalize opsOf l = ks at *
  have hlv := hid hlv
  have hs := hid hs
  have h := hid h
  go_enter Tryz.func160, Tryz.ntmps160
  go_wp2_with fail
  refine hlv.out.mono ?_
  rintro e w1 ⟨B, b, rfl, hb1, hc, hrd, hbb⟩
  have hb1 := hid hb1
  have hrd := hid hrd
  clear hlv
  go_wp2_with fail
  go_loopw [6] (fun x wr => ∃ m : Nat, m ≤ ks.length ∧ x = .int .i64 m ∧ (∀ j (hj : j < ks.length), j < m → f (C3.symL ks[j]) = false) ∧ Below w1.heap.size w1 wr) (fun x _ => ks.length - (Go.RowKit.intOf x).toNat)
  case atStart => exact ⟨0, Nat.zero_le _, rfl, fun j _ h => absurd h (Nat.not_lt_zero _), Below.refl _ _⟩
  case round =>
    obtain ⟨m, hm, rfl, hno, hb⟩ := hrel
    have hno := hid hno
    have hp := hid (h.out.below (hb1.out.trans (hb.mono hb1.out.size)))
    by_cases hlt : m < ks.length
    · have t1 : decide ((m : Int) < (ks.length : Int)) = true := decide_eq_true (by omega)
      obtain ⟨ad, e0, _, hcm⟩ := (hrd.out.below hb).at_ (k := m) (by simpa using hlt)
      cases e0
      rw [List.getElem_map, Os.add_zero] at hcm
      have hsy := hid (fun w => C3.ssymbol_any ks[m] w)
      have hse := hid (fun w1 h1 => hs.out (C3.symL ks[m]) w1 h1)
      have hat := hid (fun hs => fop_at hlt hno.out hs)
      have hnx := hid (fop_snoc hlt hno.out)
      generalize C3.symL ks[m] = S at *
      generalize hK : ks[m] = K at *
      have hb := hid hb
      go_wp2_with fail
      refine (hsy.out _).mono ?_
      rintro e w2 ⟨rfl, hb2⟩
      have hp2 := hid (hp.out.below hb2)
      have hb2 := hid (hb.out.trans (hb2.mono hb.out.size))
      go_wp2_with fail
      refine (hse.out _ hp2.out).mono ?_
      rintro e w3 ⟨rfl, hb3⟩
      have hcm3 := (hrd.out.below (hb2.out.trans (hb3.mono hb2.out.size))).at_ (k := m) (by simpa using hlt)
      obtain ⟨ad, e0, _, hcm3⟩ := hcm3
      cases e0
      rw [List.getElem_map, Os.add_zero, hK] at hcm3
      have hb3 := hid (hb2.out.trans (hb3.mono hb2.out.size))
      cases hq : f S with
      | false =>
        have hn2 := hid (hnx.out hq)
        go_wp2_with fail
        exact ⟨⟨m + 1, hlt, by go_num, hn2.out, hb3.out⟩, by simp [Go.RowKit.intOf]; omega⟩
      | true =>
        have ha := hid (hat.out hq)
        go_wp2_with fail
        go_ret
        rw [ha.out]
        exact ⟨rfl, hb1.out.trans (hb3.out.mono hb1.out.size)⟩
    · obtain rfl : m = ks.length := by omega
      have t1 : decide ((ks.length : Int) < (ks.length : Int)) = false := decide_eq_false (by omega)
      have ha := hid (fop_none (fun j hj => hno.out j hj hj))
      have hb := hid hb
      go_wp2_with fail
      go_ret
      rw [ha.out]
      exact ⟨rfl, hb1.out.trans (hb.out.mono hb1.out.size)⟩
def nameB (t : Tok) : Bool := decide (t.k = 1) && C2.validB t.s
theorem misName_any (g : Nat) (A : Option Addr) (c : Nat) (ts : List Tok) (en i : Nat) (w : World) (h : Rdr w g A c ts en i (-1)) (hlt : i < ts.length) (hsl : ts[i].s.length ≤ 400) :
    Calls Tryz.prog 123 #[.pointer (some ⟨g, 0, none⟩)] w fun e w' => e = .returned (.bool (nameB ts[i])) ∧ Below w.heap.size w w' := by
  obtain ⟨c0, c1, c2, c3⟩ := h.cells
  obtain ⟨ad, rfl, k0, k1, k2, k3⟩ := rd_at h hlt
  have hiw := fun w => C2.svalid_any ts[i].s w (by omega)
  have t1 : decide ((i : Int) < (ts.length : Int)) = true := decide_eq_true (by omega)
  generalize ts[i] = t at *
  obtain ⟨tk, tn, tp, tx⟩ := t
  dsimp only at k0 k1 k2 k3 hiw
  unfold nameB
  dsimp only
  replace c0 := cell_regrown c0
  replace c1 := cell_regrown c1
  replace c3 := cell_regrown c3
  replace k0 := cell_regrown k0
  replace k3 := cell_regrown k3
  clear h c2 k1 k2
  by_cases hk : tk = 1
  · subst hk
    rw [decide_eq_true rfl, Bool.true_and]
    generalize C2.validB tx = b at *
    cases b
    all_goals
      have cM := hid (fun (d : Nat) (os : Array Obj) => Calls.regrown_of (d := d) (os := os) (hiw (grow (redrawn w d) os)))
      clear hiw
      go_enter Tryz.func123, Tryz.ntmps123
      go_wp2_with fail
      refine wp_region_quiet_below (by kernel_rfl) (by kernel_rfl) ?_
      repeat (go_big_quiet_step (exact cM.out _ _))
      refine wpQuiet_nil ?_
      intro _ hw'
      obtain ⟨⟨dq, osq⟩, hw''⟩ := hw'
      subst hw''
      have hq := hid (below_regrown w dq osq)
      clear c0 c1 c3 k0 k3 cM
      generalize grow (redrawn w dq) osq = wq at *
      go_wp2_with fail
      go_ret
      exact ⟨rfl, hq.out⟩
  · rw [decide_eq_false hk, Bool.false_and]
    have tk1 : (tk == 1) = false := beq_false_of_ne hk
    clear hiw
    go_enter Tryz.func123, Tryz.ntmps123
    go_wp2_with fail
    refine wp_region_quiet_below (by kernel_rfl) (by kernel_rfl) ?_
    repeat (go_big_quiet_step (fail))
    refine wpQuiet_nil ?_
    intro _ hw'
    obtain ⟨⟨dq, osq⟩, hw''⟩ := hw'
    subst hw''
    have hq := hid (below_regrown w dq osq)
    clear c0 c1 c3 k0 k3
    generalize grow (redrawn w dq) osq = wq at *
    go_wp2_with fail
    go_ret
    exact ⟨rfl, hq.out⟩
end Go.Proofs.YtiogceepjffmkaaGreatDoor.Tk
