/- The model's parser: names and atoms. -/
import Derived.Test.YtiogceepjffmkaaGreatDoorZC6a
import Derived.Test.YtiogceepjffmkaaGreatDoorZC5s
import Derived.Test.YtiogceepjffmkaaGreatDoorZAs6
set_option maxHeartbeats 4000000
set_option maxRecDepth 100000
namespace Go.Proofs.YtiogceepjffmkaaGreatDoor.Tk
open Go.RowKit Go.Lib Go.Sort Num Com Mem YtiogceepjffmkaaGreatDoor.Os Tr
theorem mname_any (g : Nat) (A : Option Addr) (c : Nat) (ts : List Tok) (en i : Nat) (w : World) (h : Rdr w g A c ts en i (-1)) (hlt : i < ts.length) (hsl : ts[i].s.length ≤ 400) (h63 : ts.length ≤ 1000) :
    Calls Tryz.prog 83 #[.pointer (some ⟨g, 0, none⟩)] w fun e w' => e = .returned (sv (if nameB ts[i] = true then ts[i].s else [])) ∧ Stp w g A c ts en (nxB (nameB ts[i]) i) (tkBad (nameB ts[i]) ts[i].p) w' := by
  have hn := hid (misName_any g A c ts en i w h hlt hsl)
  have hf := hid (fun w1 (h1 : Rdr w1 g A c ts en i (-1)) => mfail_any g A c ts en i w1 h1 (Nat.le_of_lt hlt))
  have e1 : errAt ts en i = ts[i].p := by unfold errAt; rw [List.getElem?_eq_getElem hlt]
  rw [e1] at hf
  have h := hid h
  have hr := hid (fun w1 j (h1 : Rdr w1 g A c ts en j (-1)) => rd_at h1 hlt)
  generalize ts[i] = t at *
  generalize nameB t = q at *
  clear e1
  cases q
  · go_enter Tryz.func83, Tryz.ntmps83
    go_wp2_with fail
    refine hn.out.mono ?_
    rintro e w1 ⟨rfl, hb⟩
    have h1 := hid (h.out.stp hb)
    clear hb hn
    go_wp2_with fail
    refine (hf.out w1 h1.out.1).mono ?_
    rintro e w2 ⟨rfl, h2⟩
    have h2 := hid h2
    go_wp2_with fail
    go_ret
    exact ⟨rfl, Stp.tr h1.out.2 h2.out⟩
  · go_enter Tryz.func83, Tryz.ntmps83
    go_wp2_with fail
    refine hn.out.mono ?_
    rintro e w1 ⟨rfl, hb⟩
    have h1 := h.out.stp hb
    clear hb hn
    obtain ⟨c0, c1, c2, c3⟩ := h1.1.cells
    have f1 := h1.1.blk.frozen 1
    have h2 := h1.1.next
    have G2 := hid (gb_trans h1.2 h2.2)
    have h2 := h2.1
    clear hf h1
    go_wp2_with fail
    generalize (w1.setCell ⟨g, 1, none⟩ (.int .i64 ((i : Int) + 1))) = w2 at *
    obtain ⟨ad, rfl, k0, k1, k2, k3⟩ := hr.out w2 _ h2
    clear c0 c1 c2 c3 f1
    obtain ⟨c0, c1, c2, c3⟩ := h2.cells
    have c1 : w2.cell? ⟨g, 1, none⟩ = some (.int .i64 ((i : Int) + 1)) := c1
    have t2 : (i : Int) + 1 - 1 = i := by omega
    replace c0 := cell_regrown c0
    replace c1 := cell_regrown c1
    replace k3 := cell_regrown k3
    have h2 := hid h2
    clear c2 c3 k0 k1 k2
    refine wp_region_quiet_below (by kernel_rfl) (by kernel_rfl) ?_
    repeat (go_big_quiet_step (fail))
    refine wpQuiet_nil ?_
    intro _ hw'
    obtain ⟨⟨dq, osq⟩, hw''⟩ := hw'
    subst hw''
    have hq := hid (below_regrown w2 dq osq)
    clear c0 c1 k3
    generalize grow (redrawn w2 dq) osq = wq at *
    go_wp2_with fail
    go_ret
    exact ⟨rfl, h2.out.below hq.out, gb_below G2.out hq.out⟩
def MIs (r : Res) (t : T) (i : Nat) (bad : Int) : Prop := match r with
  | .ok (t', j) => t = t' ∧ bad = -1 ∧ i = j
  | .error a => bad = a ∧ 0 ≤ a
def MOk (ts : List Tok) (en g : Nat) (A : Option Addr) (c : Nat) (w : World) (r : Res) (e : Ending) (w' : World) : Prop :=
  ∃ (k n : Int) (s : List UInt8) (B : Option Addr) (l cc : Nat) (t : T) (j : Nat) (bad : Int), e = .returned (nv k n s B l cc) ∧ OwnE ET w' w.heap.size w'.heap.size (nv k n s B l cc) t ∧ w.grownBy w' (some g) ∧ Rdr w' g A c ts en j bad ∧ MIs r t j bad
def MP (ts : List Tok) (en g : Nat) (A : Option Addr) (c : Nat) (F : FuncId) (args : Array Value) (l n : Nat) : Prop := ∀ m, m ≤ n → ∀ i w, Rdr w g A c ts en i (-1) → i ≤ ts.length → need ts l i ≤ m → Calls Tryz.prog F args w (MOk ts en g A c w (pz ts en m l i))
theorem Rdr.far {w w' : World} {g c en i : Nat} {A : Option Addr} {ts : List Tok} {bad : Int} (h : Rdr w g A c ts en i bad) (hk : ∀ k, k ≤ g → w'.heap[k]? = w.heap[k]?) : Rdr w' g A c ts en i bad :=
  ⟨(hk g (Nat.le_refl g)).trans h.blk, h.rd.keep fun p hp => World.cell?_of_block (hk p.block (by omega))⟩
theorem Rdr.setR {w : World} {g c en i h : Nat} {A : Option Addr} {ts : List Tok} {bad : Int} (hr : Rdr w g A c ts en i bad) (h1 : g < h) (k n : Int) (s : List UInt8) (S : Value) : Rdr (Dr.setR w h k n s S) g A c ts en i bad :=
  hr.far fun k hk => by rw [heap_setCell_other _ _ _ _ (by show k ≠ h; omega), heap_setCell_other _ _ _ _ (by show k ≠ h; omega), heap_setCell_other _ _ _ _ (by show k ≠ h; omega), heap_setCell_other _ _ _ _ (by show k ≠ h; omega)]
theorem mok_fin {ts : List Tok} {en g c : Nat} {A : Option Addr} {w wx : World} {r : Res} {K N : Int} {s : List UInt8} {B : Option Addr} {L cc : Nat} {t : T} {j lo hi : Nat} {bad : Int} {z0 z1 z2 z3 : Value} (hres : Blk wx w.heap.size ET [z0, z1, z2, z3]) (own : OwnE ET wx lo hi (nv K N s B L cc) t) (hlo : w.heap.size < lo) (hhi : hi ≤ wx.heap.size)
    (gb : w.grownBy wx (some g)) (rdr : Rdr wx g A c ts en j bad) (hR : MIs r t j bad) (hg : g < w.heap.size) :
    Blk (Dr.setR wx w.heap.size K N s (.slice B L cc)) w.heap.size ET [.int .i64 K, .int .i64 N, sv s, .slice B L cc] ∧ MOk ts en g A c w r (.returned (nv K N s B L cc)) (Dr.setR wx w.heap.size K N s (.slice B L cc)) := by
  have hch := Dr.setR_chg wx w.heap.size K N s (.slice B L cc)
  refine ⟨Dr.setR_blk hres K N s _, K, N, s, B, L, cc, t, j, bad, rfl, ?_, Dr.setR_gb gb (Nat.le_refl _) K N s _, rdr.setR (by omega) K N s _, hR⟩
  exact ((own.chg hch (Or.inr (by omega))).mono (by omega) (by have := hch.size; omega))
theorem errAt_nn {ts : List Tok} (hp : ∀ t ∈ ts, 0 ≤ t.p) (en j : Nat) : 0 ≤ errAt ts en j := by
  unfold errAt
  cases h : ts[j]? with
  | none => exact Int.natCast_nonneg en
  | some t => exact hp t (List.mem_of_getElem? h)
theorem mclose_any {ts : List Tok} {en g c : Nat} {A : Option Addr} (hp : ∀ t ∈ ts, 0 ≤ t.p) (h63 : ts.length ≤ 1000) {m i : Nat} {t : T} {j : Nat} {bad : Int} (hR : MIs (pz ts en m 1 i) t j bad) (w : World) (h : Rdr w g A c ts en j bad) :
    Calls Tryz.prog 81 #[.pointer (some ⟨g, 0, none⟩), .string ⟨#[41]⟩] w fun e w' => ∃ j2 b2, e = .returned (.tuple #[]) ∧ Stp w g A c ts en j2 b2 w' ∧ MIs (upR ts en m i) t j2 b2 := by
  unfold upR
  cases hq : pz ts en m 1 i with
  | error a =>
    rw [hq] at hR
    obtain ⟨rfl, ha⟩ := hR
    refine (mtake_bad g A c ts en j bad [41] w h ha).mono ?_
    rintro e w' ⟨rfl, hb⟩
    exact ⟨j, bad, rfl, h.stp hb, rfl, ha⟩
  | ok p =>
    obtain ⟨t', j'⟩ := p
    rw [hq] at hR
    obtain ⟨rfl, rfl, rfl⟩ := hR
    have ha := (pz_adv ts en m).1 _ _ _ _ hq
    refine (mtake_any g A c ts en j [41] w h ha.2.1 h63).mono ?_
    rintro e w' ⟨rfl, hs⟩
    refine ⟨_, _, rfl, hs, ?_⟩
    show MIs (if seesB ts j [41] = true then .ok (t, j + 1) else .error (errAt ts en j)) t _ _
    cases seesB ts j [41] with
    | true => exact ⟨rfl, rfl, rfl⟩
    | false => exact ⟨rfl, errAt_nn hp en j⟩
theorem matom_oth {ts : List Tok} {en m i : Nat} (hi : i < ts.length) (hk : ts[i].k ≠ 2) (hw : isWordB ts[i] [40] = false) : pz ts en (m + 1) 7 i = if nameB ts[i] = true then .ok (varT ts[i].s, i + 1) else .error ts[i].p := by
  rw [pz, if_pos (Nat.le_refl 7), List.getElem?_eq_getElem hi]
  simp only [if_neg hk, hw]
  unfold nameB
  by_cases h1 : ts[i].k = 1
  · simp [h1]
  · simp [h1]
theorem matom_end {ts : List Tok} {en m : Nat} : pz ts en (m + 1) 7 ts.length = .error en := by
  rw [pz, if_pos (Nat.le_refl 7), List.getElem?_eq_none (Nat.le_refl _)]
theorem matom_num {ts : List Tok} {en m i : Nat} (hi : i < ts.length) (hk : ts[i].k = 2) : pz ts en (m + 1) 7 i = .ok (constT ts[i].n, i + 1) := by
  rw [pz, if_pos (Nat.le_refl 7), List.getElem?_eq_getElem hi]
  simp only [if_pos hk]
theorem par_sees {ts : List Tok} {i : Nat} (hi : i < ts.length) (hw : isWordB ts[i] [40] = true) : seesB ts i [40] = true := by
  unfold seesB; rw [List.getElem?_eq_getElem hi]; exact hw
structure AtomR (ts : List Tok) (en m i : Nat) (u : Tok) (R : Res) : Prop where
  num : u.k = 2 → R = .ok (constT u.n, i + 1)
  par : isWordB u [40] = true → R = upR ts en m (i + 1)
  oth : u.k ≠ 2 → isWordB u [40] = false → R = if nameB u = true then .ok (varT u.s, i + 1) else .error u.p
theorem matom_any {ts : List Tok} {en g c n : Nat} {A : Option Addr} (hG : ∀ t ∈ ts, GoodT t) (hp : ∀ t ∈ ts, 0 ≤ t.p) (h63 : ts.length ≤ 1000) (hlv : MP ts en g A c 124 #[.pointer (some ⟨g, 0, none⟩), .int .i64 1] 1 n) : MP ts en g A c 189 #[.pointer (some ⟨g, 0, none⟩)] 7 (n + 1) := by
  intro m hm i w h hil hn
  obtain ⟨m, rfl⟩ := need_pos hn (by omega)
  have hgl := h.lt
  have hb1 := box_below w (.cells #[.int .i64 0, .int .i64 0, .string ⟨#[]⟩, .slice none 0 0] ET)
  have B1 := hid (Blk.new w ET [.int .i64 0, .int .i64 0, .string ⟨#[]⟩, .slice none 0 0])
  have z1 : (w.alloc (.cells #[.int .i64 0, .int .i64 0, .string ⟨#[]⟩, .slice none 0 0] ET)).heap.size = w.heap.size + 1 := size_alloc' _ _
  have h1 := h.below hb1
  have G1 := hid (gb_below (gb_refl w (some g)) hb1)
  obtain ⟨R, hR⟩ : ∃ R, R = pz ts en (m + 1) 7 i := ⟨_, rfl⟩
  rw [← hR]
  replace hR := hid hR
  by_cases hlt : i < ts.length
  · have t1 : decide ((ts.length : Int) ≤ (i : Int)) = false := decide_eq_false (by omega)
    have hcl := hid (fun w1 h1 => hlv m (by omega) (i + 1) w1 h1 (by omega) (by unfold need at hn ⊢; omega))
    have hgd := hG _ (List.getElem_mem hlt)
    have hpp := hp _ (List.getElem_mem hlt)
    have h8 := good_len hgd
    have h8' : ts[i].s.length ≤ 400 := by omega
    have hnm := hid (fun w1 (h1 : Rdr w1 g A c ts en i (-1)) => mname_any g A c ts en i w1 h1 hlt h8' h63)
    have hAR : AtomR ts en m i ts[i] R := ⟨fun hk => by rw [hR.out, matom_num hlt hk], fun hw => by rw [hR.out, atom_par (par_sees hlt hw)], fun hk hw => by rw [hR.out, matom_oth hlt hk hw]⟩
    obtain ⟨u, hu⟩ : ∃ u, u = ts[i] := ⟨_, rfl⟩
    rw [← hu] at hpp hnm hAR h8
    replace h8 := hid h8
    replace hu := hid hu
    replace hAR := hid hAR
    have hmc := hid (fun (t : T) (j : Nat) (bad : Int) (hM : MIs (pz ts en m 1 (i + 1)) t j bad) w1 h1 => mclose_any (en := en) (g := g) (c := c) (A := A) hp h63 hM w1 h1)
    clear h hb1 hgd h8' hR
    go_enter Tryz.func189, Tryz.ntmps189
    go_wp2_with fail
    generalize (w.alloc (.cells #[.int .i64 0, .int .i64 0, .string ⟨#[]⟩, .slice none 0 0] ET)) = w1 at *
    obtain ⟨c0, c1, c2, c3⟩ := h1.cells
    have h1 := hid h1
    replace c0 := cell_regrown c0
    replace c1 := cell_regrown c1
    replace c3 := cell_regrown c3
    clear c2
    refine wp_region_quiet_below (by kernel_rfl) (by kernel_rfl) ?_
    repeat (go_big_quiet_step (fail))
    refine wpQuiet_nil ?_
    intro _ hw'
    obtain ⟨⟨dq, osq⟩, hw''⟩ := hw'
    subst hw''
    have hq := below_regrown w1 dq osq
    have z2 := hq.size
    have B2 := hid (B1.out.below hq B1.out.lt)
    have h2 := h1.out.below hq
    have G2 := hid (gb_below G1.out hq)
    clear c0 c1 c3 hq h1 B1 G1
    generalize grow (redrawn w1 dq) osq = w2 at *
    obtain ⟨ad, rfl, k0, k1, k2, k3⟩ := rd_at h2 hlt
    obtain ⟨c0, c1, _, _⟩ := h2.cells
    have b3 := box_below w2 (.cells #[.int .i64 0, .int .i64 0, .int .i64 0, .string ⟨#[]⟩] TK)
    have h3 := h2.below b3
    obtain ⟨ad', e', l0, l1, l2, l3⟩ := rd_at h3 hlt
    cases e'
    obtain ⟨d0, d1, _, _⟩ := h3.cells
    have N3 := Blk.new w2 TK [.int .i64 0, .int .i64 0, .int .i64 0, .string ⟨#[]⟩]
    have y0 := N3.frozen 0
    have y1 := N3.frozen 1
    have y2 := N3.frozen 2
    have y3 := N3.frozen 3
    rw [← hu.out] at k0 k1 k2 k3 l0 l1 l2 l3
    clear h3 N3 b3
    -- the world behind the token's block
    have T4 := hid (((Blk.new w2 TK [.int .i64 u.k, .int .i64 u.n, .int .i64 u.p, .string ⟨u.s.toArray⟩]).below ((Below.refl _ _).drew) (Blk.new w2 TK [.int .i64 u.k, .int .i64 u.n, .int .i64 u.p, .string ⟨u.s.toArray⟩]).lt))
    have b4 : Below w2.heap.size w2 (w2.alloc (.cells #[.int .i64 u.k, .int .i64 u.n, .int .i64 u.p, .string ⟨u.s.toArray⟩] TK)).drew := (box_below _ _).drew
    have z4 : (w2.alloc (.cells #[.int .i64 u.k, .int .i64 u.n, .int .i64 u.p, .string ⟨u.s.toArray⟩] TK)).drew.heap.size = w2.heap.size + 1 := size_alloc' _ _
    have B4 := hid (B2.out.below b4 B2.out.lt)
    have h4 := hid (h2.below b4)
    have G4 := hid (gb_below G2.out b4)
    replace h2 := hid h2
    clear b4 B2 G2
    go_wp2_with fail
    go_region
    all_goals
      clear c0 c1 k0 k1 k2 k3 l0 l1 l2 l3 d0 d1 y0 y1 y2 y3 h2
      generalize (w2.alloc (.cells #[.int .i64 u.k, .int .i64 u.n, .int .i64 u.p, .string ⟨u.s.toArray⟩] TK)).drew = w4 at *
      obtain ⟨x0, x1, x2, x3⟩ := four T4.out
      by_cases hk : u.k = 2
      · rw [hk] at x0
        have hRe := hid (hAR.out.num hk)
        have h5 := h4.out.next
        obtain ⟨c0, c1, c2, c3⟩ := h4.out.cells
        have f1 := h4.out.blk.frozen 1
        have B5 := hid (B4.out.gb h5.2 (by omega))
        have T5 := T4.out.gb h5.2 (by omega)
        have G5 := hid (gb_trans G4.out h5.2)
        have z5 := h5.2.size
        have h5 := hid h5.1
        obtain ⟨k0, k1, k2, k3⟩ := four T5
        clear c0 c2 c3 T5 hcl hnm hmc hAR T4
        go_wp2_with fail
        generalize (w4.setCell ⟨g, 1, none⟩ (.int .i64 ((i : Int) + 1))) = w5 at *
        refine (Dr.const4 u.n w5).mono ?_
        rintro e w6 ⟨rfl, hb⟩
        have z6 := hb.size
        have B6 := B5.out.below hb B5.out.lt
        have hf := mok_fin B6 (OwnE.leaf' w6 (w.heap.size + 1) w6.heap.size 1 u.n [] (by simp)) (by omega) (Nat.le_refl _) (gb_below G5.out hb) (h5.out.below hb) (show MIs R (constT u.n) (i + 1) (-1) by rw [hRe.out]; exact ⟨rfl, rfl, rfl⟩) hgl
        have hf1 := hid hf.1
        have hf2 := hid hf.2
        obtain ⟨r0, r1, r2, r3⟩ := four B6
        have y0 := B6.frozen 0
        have y1 := B6.frozen 1
        have y2 := B6.frozen 2
        have y3 := B6.frozen 3
        clear hf B6 hb k0 k1 k2 k3 x0 x1 x2 x3 c1 f1
        go_wp2_with fail
        exact bodyPost_ret (results_cell_row Tryz.results189 _ _ w.heap.size 58 _ (0, 0) _ rfl hf1.out Tryz.underlying58 rfl (by kernel_rfl)) rfl hf2.out
      · have tk : (u.k == 2) = false := beq_false_of_ne hk
        have hiw := hid (fun w => sword_any u [40] w)
        cases hw : isWordB u [40] with
        | true =>
          rw [hw] at hiw
          have hRe := hid (hAR.out.par hw)
          clear hnm hAR
          go_wp2_with fail
          refine (hiw.out _).mono ?_
          rintro e w5 ⟨rfl, hb⟩
          have h5 := h4.out.below hb
          have z5 := hb.size
          have B5 := hid (B4.out.below hb B4.out.lt)
          have G5 := hid (gb_below G4.out hb)
          obtain ⟨c0, c1, c2, c3⟩ := h5.cells
          have f1 := h5.blk.frozen 1
          have h6 := h5.next
          have B6 := hid (B5.out.gb h6.2 (by omega))
          have G6 := hid (gb_trans G5.out h6.2)
          have z6 := h6.2.size
          replace h6 := hid h6.1
          clear c0 c2 c3 h5 hb hiw x0 x1 x2 x3
          go_wp2_with fail
          generalize (w5.setCell ⟨g, 1, none⟩ (.int .i64 ((i : Int) + 1))) = w6 at *
          clear c1 f1
          refine (hcl.out w6 h6.out).mono ?_
          rintro e w7 ⟨K, N, s, B, L, cc, t, j, bad, rfl, ho, hg, hr, hM⟩
          have z7 := hg.size
          have b8 : Below w7.heap.size w7 (w7.alloc (.cells #[.int .i64 K, .int .i64 N, .string ⟨s.toArray⟩, .slice B L cc] ET)) := box_below _ _
          have z8 : (w7.alloc (.cells #[.int .i64 K, .int .i64 N, .string ⟨s.toArray⟩, .slice B L cc] ET)).heap.size = w7.heap.size + 1 := size_alloc' _ _
          have B8 := hid ((B6.out.gb hg (by omega)).below b8 (B6.out.gb hg (by omega)).lt)
          have G8 := hid (gb_below (gb_trans G6.out hg) b8)
          have q8 : Blk (w7.alloc (.cells #[.int .i64 K, .int .i64 N, .string ⟨s.toArray⟩, .slice B L cc] ET)) w7.heap.size ET [.int .i64 K, .int .i64 N, .string ⟨s.toArray⟩, .slice B L cc] := Blk.new w7 ET _
          replace q8 := hid q8
          have o8 := hid (ho.same (same_below b8 (Nat.le_refl _)))
          have h8 := hid (hr.below b8)
          have hcl2 := hid (hmc.out t j bad hM _ h8.out)
          clear ho hg hr hM b8 hcl hmc
          go_wp2_with fail
          generalize (w7.alloc (.cells #[.int .i64 K, .int .i64 N, .string ⟨s.toArray⟩, .slice B L cc] ET)) = w8 at *
          refine hcl2.out.mono ?_
          rintro e w9 ⟨j2, b2, rfl, ⟨h9, g9⟩, hM⟩
          have z9 := g9.size
          have B9 := B8.out.gb g9 (by omega)
          have q9 := q8.out.gb g9 (by omega)
          have o9 := o8.out.same (w' := w9) fun k h1 h2 => g9.block k (by omega) (by simp; omega)
          have hf := mok_fin B9 o9 (by omega) (by omega) (gb_trans G8.out g9) h9 (show MIs R t j2 b2 by rw [hRe.out]; exact hM) hgl
          have hf1 := hid hf.1
          have hf2 := hid hf.2
          obtain ⟨k0, k1, k2, k3⟩ := four q9
          obtain ⟨r0, r1, r2, r3⟩ := four B9
          have y0 := B9.frozen 0
          have y1 := B9.frozen 1
          have y2 := B9.frozen 2
          have y3 := B9.frozen 3
          clear hf B9 q9 o9 h9 g9 hM hcl2
          go_wp2_with fail
          exact bodyPost_ret (results_cell_row Tryz.results189 _ _ w.heap.size 58 _ (0, 0) _ rfl hf1.out Tryz.underlying58 rfl (by kernel_rfl)) rfl hf2.out
        | false =>
          rw [hw] at hiw
          have hRe := hid (hAR.out.oth hk hw)
          clear hcl hmc hAR
          go_wp2_with fail
          refine (hiw.out _).mono ?_
          rintro e w5 ⟨rfl, hb⟩
          have h5 := hid (h4.out.below hb)
          have z5 := hb.size
          have B5 := hid (B4.out.below hb B4.out.lt)
          have G5 := hid (gb_below G4.out hb)
          clear hb hiw x0 x1 x2 x3
          go_wp2_with fail
          refine (hnm.out w5 h5.out).mono ?_
          rintro e w6 ⟨rfl, h6, g6⟩
          have z6 := g6.size
          have B6 := hid (B5.out.gb g6 (by omega))
          have G6 := hid (gb_trans G5.out g6)
          replace h6 := hid h6
          have h8 : (if nameB u = true then u.s else []).length ≤ 8 := by
            have := h8.out
            split
            · exact this
            · simp
          have hMI : MIs R (varT (if nameB u = true then u.s else [])) (nxB (nameB u) i) (tkBad (nameB u) u.p) := by
            rw [hRe.out]
            cases nameB u with
            | true => exact ⟨rfl, rfl, rfl⟩
            | false => exact ⟨rfl, hpp⟩
          replace hMI := hid hMI
          generalize (if nameB u = true then u.s else []) = sn at *
          clear g6 hnm
          go_wp2_with fail
          refine (Dr.var4 sn w6).mono ?_
          rintro e w7 ⟨rfl, hb⟩
          have z7 := hb.size
          have B7 := B6.out.below hb B6.out.lt
          have hf := mok_fin B7 (OwnE.leaf' w7 (w.heap.size + 1) w7.heap.size 2 0 sn h8) (by omega) (Nat.le_refl _) (gb_below G6.out hb) (h6.out.below hb) hMI.out hgl
          have hf1 := hid hf.1
          have hf2 := hid hf.2
          obtain ⟨r0, r1, r2, r3⟩ := four B7
          have y0 := B7.frozen 0
          have y1 := B7.frozen 1
          have y2 := B7.frozen 2
          have y3 := B7.frozen 3
          clear hf B7 hb
          go_wp2_with fail
          exact bodyPost_ret (results_cell_row Tryz.results189 _ _ w.heap.size 58 _ (0, 0) _ rfl hf1.out Tryz.underlying58 rfl (by kernel_rfl)) rfl hf2.out
  · obtain rfl : i = ts.length := by omega
    have t1 : decide ((ts.length : Int) ≤ (ts.length : Int)) = true := decide_eq_true (by omega)
    have hRe := hid (show R = .error en by rw [hR.out, matom_end])
    have hmf := hid (fun w1 (h1 : Rdr w1 g A c ts en ts.length (-1)) => mfail_any g A c ts en ts.length w1 h1 (Nat.le_refl _))
    have e1 : errAt ts en ts.length = en := by unfold errAt; rw [List.getElem?_eq_none (Nat.le_refl _)]
    rw [e1] at hmf
    clear h hb1 hR e1 hlv
    go_enter Tryz.func189, Tryz.ntmps189
    go_wp2_with fail
    generalize (w.alloc (.cells #[.int .i64 0, .int .i64 0, .string ⟨#[]⟩, .slice none 0 0] ET)) = w1 at *
    obtain ⟨c0, c1, c2, c3⟩ := h1.cells
    have h1 := hid h1
    replace c0 := cell_regrown c0
    replace c1 := cell_regrown c1
    replace c3 := cell_regrown c3
    clear c2
    refine wp_region_quiet_below (by kernel_rfl) (by kernel_rfl) ?_
    repeat (go_big_quiet_step (fail))
    refine wpQuiet_nil ?_
    intro _ hw'
    obtain ⟨⟨dq, osq⟩, hw''⟩ := hw'
    subst hw''
    have hq := below_regrown w1 dq osq
    have z2 := hq.size
    have B2 := hid (B1.out.below hq B1.out.lt)
    have h2 := hid (h1.out.below hq)
    have G2 := hid (gb_below G1.out hq)
    clear c0 c1 c3 hq h1 B1 G1
    generalize grow (redrawn w1 dq) osq = w2 at *
    go_wp2_with fail
    refine (hmf.out w2 h2.out).mono ?_
    rintro e w3 ⟨rfl, h3, g3⟩
    have z3 := g3.size
    have B3 := B2.out.gb g3 (by omega)
    have hf := mok_fin B3 (OwnE.leaf' w3 (w.heap.size + 1) w3.heap.size 0 0 [] (by simp)) (by omega) (Nat.le_refl _) (gb_trans G2.out g3) h3 (show MIs R (.mk 0 0 [] []) ts.length en by rw [hRe.out]; exact ⟨rfl, Int.natCast_nonneg en⟩) hgl
    have hf1 := hid hf.1
    have hf2 := hid hf.2
    obtain ⟨r0, r1, r2, r3⟩ := four B3
    have y0 := B3.frozen 0
    have y1 := B3.frozen 1
    have y2 := B3.frozen 2
    have y3 := B3.frozen 3
    clear hf B3 h3 g3 hmf
    go_wp2_with fail
    exact bodyPost_ret (results_cell_row Tryz.results189 _ _ w.heap.size 58 _ (0, 0) _ rfl hf1.out Tryz.underlying58 rfl (by kernel_rfl)) rfl hf2.out
def lzR (ts : List Tok) (en m l : Nat) (t : T) (j : Nat) (q : Int) : Res := if q = 0 then .ok (t, j) else andR (pz ts en m (l + 1) (j + 1)) fun r k => if l = 3 then .ok (opT q t r, k) else lz ts en m l (opT q t r) k
theorem lz_eq (ts : List Tok) (en m l : Nat) (t : T) (j : Nat) : lz ts en (m + 1) l t j = lzR ts en m l t j (opAt ts l j) := by
  rw [lz]
  unfold lzR
  split
  · rfl
  · cases pz ts en m (l + 1) (j + 1) <;> rfl
def unR (ts : List Tok) (en m i : Nat) : Res := andR (pz ts en m 6 (i + 1)) fun e j => .ok (notT e, j)
theorem pz_un (ts : List Tok) (en m i : Nat) : pz ts en (m + 1) 6 i = if seesB ts i [33] = true then unR ts en m i else pz ts en m 7 i := by
  rw [pz, if_neg (by omega), if_pos rfl]
  unfold unR
  cases pz ts en m 6 (i + 1) <;> rfl
theorem un_is {ts : List Tok} {en m i : Nat} {t : T} {j : Nat} {bad : Int} (h : MIs (pz ts en m 6 (i + 1)) t j bad) : MIs (unR ts en m i) (notT t) j bad := by
  unfold unR
  cases hq : pz ts en m 6 (i + 1) with
  | error a => rw [hq] at h; exact h
  | ok p =>
    obtain ⟨t', j'⟩ := p
    rw [hq] at h
    obtain ⟨rfl, h2, h3⟩ := h
    exact ⟨rfl, h2, h3⟩
def MAns (ts : List Tok) (en l n : Nat) (R : Res) (t : T) (j : Nat) (bad : Int) : Prop := (bad = -1 ∧ j ≤ ts.length ∧ ∃ m, m ≤ n ∧ lz ts en m l t j = R ∧ need ts l j + 1 ≤ m) ∨ (0 ≤ bad ∧ R = .error bad)
theorem lz_fin {ts : List Tok} {en m l n : Nat} {t : T} {j : Nat} {q : Int} {R : Res} {t2 : T} {j2 : Nat} {bad2 : Int} (hq : q ≠ 0) (hR : lzR ts en m l t j q = R) (hM : MIs (pz ts en m (l + 1) (j + 1)) t2 j2 bad2) (hmn : m ≤ n) (hnd : need ts l j ≤ m) (hjl : j < ts.length) (hl : l ≤ 5) :
    (bad2 = -1 ∧ j < j2 ∧ j2 ≤ ts.length ∨ 0 ≤ bad2) ∧ (l = 3 → MIs R (opT q t t2) j2 bad2) ∧ (l ≠ 3 → MAns ts en l n R (opT q t t2) j2 bad2) := by
  unfold lzR at hR
  rw [if_neg hq] at hR
  cases hp : pz ts en m (l + 1) (j + 1) with
  | error a =>
    rw [hp] at hR hM
    obtain ⟨rfl, ha⟩ := hM
    subst hR
    exact ⟨Or.inr ha, fun _ => ⟨rfl, ha⟩, fun _ => Or.inr ⟨ha, rfl⟩⟩
  | ok p =>
    obtain ⟨t', j'⟩ := p
    rw [hp] at hR hM
    obtain ⟨rfl, rfl, rfl⟩ := hM
    have ha := (pz_adv ts en m).1 _ _ _ _ hp
    refine ⟨Or.inl ⟨rfl, by omega, by omega⟩, fun h3 => ?_, fun h3 => ?_⟩
    · rw [← hR]
      show MIs (if l = 3 then .ok (opT q t t2, j2) else lz ts en m l (opT q t t2) j2) _ _ _
      rw [if_pos h3]
      exact ⟨rfl, rfl, rfl⟩
    · refine Or.inl ⟨rfl, by omega, m, hmn, ?_, by unfold need at hnd ⊢; omega⟩
      rw [← hR]
      show lz ts en m l (opT q t t2) j2 = if l = 3 then .ok (opT q t t2, j2) else lz ts en m l (opT q t t2) j2
      rw [if_neg h3]
structure MSt (ts : List Tok) (en g : Nat) (A : Option Addr) (c h : Nat) (w wr : World) (K N : Int) (s : List UInt8) (B : Option Addr) (L cc : Nat) (t : T) (j : Nat) (bad : Int) : Prop where
  var : Blk wr h ET [.int .i64 K, .int .i64 N, sv s, .slice B L cc]
  own : OwnE ET (er wr h) (w.heap.size + 1) wr.heap.size (nv K N s B L cc) t
  rdr : Rdr wr g A c ts en j bad
  gb : w.grownBy wr (some g)
  res : Blk wr w.heap.size ET [.int .i64 0, .int .i64 0, .string ⟨#[]⟩, .slice none 0 0]
  hh : w.heap.size < h
section
variable {ts : List Tok} {en g c h : Nat} {A : Option Addr} {w wr w4 : World} {K N : Int} {s : List UInt8} {B : Option Addr} {L cc : Nat} {t : T} {j j2 : Nat} {bad b2 : Int}
theorem MSt.fin {R : Res} (hc : MSt ts en g A c h w wr K N s B L cc t j bad) (hR : MIs R t j bad) (hg : g < w.heap.size) :
    Blk (Dr.setR wr w.heap.size K N s (.slice B L cc)) w.heap.size ET [.int .i64 K, .int .i64 N, sv s, .slice B L cc] ∧ MOk ts en g A c w R (.returned (nv K N s B L cc)) (Dr.setR wr w.heap.size K N s (.slice B L cc)) :=
  mok_fin hc.res hc.own.er_out (by omega) (Nat.le_refl _) hc.gb hc.rdr hR hg
theorem MSt.go (hc : MSt ts en g A c h w wr K N s B L cc t j bad) (hg : g < w.heap.size) (g4 : wr.grownBy w4 (some g)) (hr : Rdr w4 g A c ts en j2 b2) : MSt ts en g A c h w w4 K N s B L cc t j2 b2 := by
  have hh := hc.hh
  have hv := hc.var.lt
  have h1 := hc.res.lt
  have s4 := g4.size
  exact ⟨hc.var.gb g4 (by omega), (hc.own.er_go hv s4 fun k h1 h2 _ => g4.block k (by omega) (by simp; omega)).mono (Nat.le_refl _) s4, hr, gb_trans hc.gb g4, hc.res.gb g4 (by omega), hc.hh⟩
theorem MSt.below (hc : MSt ts en g A c h w wr K N s B L cc t j bad) (hg : g < w.heap.size) (hb : Below wr.heap.size wr w4) : MSt ts en g A c h w w4 K N s B L cc t j bad :=
  hc.go hg (gb_below (gb_refl _ _) hb) (hc.rdr.below hb)
theorem MSt.step {w6 w8 : World} {q K2 N2 : Int} {s2 : List UInt8} {B2 : Option Addr} {L2 cc2 : Nat} {t2 : T} (hc : MSt ts en g A c h w wr K N s B L cc t j bad) (hg : g < w.heap.size) (g6 : wr.grownBy w6 (some g)) (o2 : OwnE ET w6 wr.heap.size w6.heap.size (nv K2 N2 s2 B2 L2 cc2) t2) (p2 : Rdr w6 g A c ts en j2 b2)
    (b8 : Below w6.heap.size w6 w8) (r8 : Blk w8 (w6.heap.size + 1 + 1 + 1) ET [.int .i64 K, .int .i64 N, sv s, .slice B L cc, .int .i64 K2, .int .i64 N2, sv s2, .slice B2 L2 cc2]) :
    MSt ts en g A c h w (Dr.setR w8 h 3 q [] (.slice (some ⟨w6.heap.size + 1 + 1 + 1, 0, none⟩) 2 2)) 3 q [] (some ⟨w6.heap.size + 1 + 1 + 1, 0, none⟩) 2 2 (opT q t t2) j2 b2 := by
  have s6 := g6.size
  have s8 := b8.size
  have l8 := r8.lt
  have hhr := hc.hh
  have hv := hc.var.lt
  have h6 := hc.go hg g6 p2
  have h8 := h6.below hg b8
  have own1 : OwnE ET (er w8 h) (w.heap.size + 1) wr.heap.size (nv K N s B L cc) t := hc.own.er_go hv (by omega) fun k h1 h2 _ => (b8.block k (by omega)).trans (g6.block k (by omega) (by simp; omega))
  have own2 : OwnE ET (er w8 h) wr.heap.size w6.heap.size (nv K2 N2 s2 B2 L2 cc2) t2 := (o2.same fun k h1 h2 => b8.block k (by omega)).er_in (Or.inl (by omega))
  have hm := Dr.made_two (w := er w8 h) 3 q own1 own2 (er_new r8 (by omega)) (by omega) (by omega) (by omega)
  have c9 := Dr.setR_chg w8 h 3 q [] (.slice (some ⟨w6.heap.size + 1 + 1 + 1, 0, none⟩) 2 2)
  have s9 : (Dr.setR w8 h 3 q [] (.slice (some ⟨w6.heap.size + 1 + 1 + 1, 0, none⟩) 2 2)).heap.size = w8.heap.size := by simp [World.setCell]
  refine ⟨Dr.setR_blk h8.var _ _ _ _, ?_, h8.rdr.setR (by omega) _ _ _ _, Dr.setR_gb h8.gb (by omega) _ _ _ _, blk_chg h8.res c9 (by omega), hhr⟩
  have h1 := hm.1
  rw [er_size] at h1
  rw [s9]
  exact h1.er_go (by omega) (by omega) fun k _ h2 hk => c9.block k (by omega) (by omega)
end
def mesM (g N : Nat) (w : World) : Nat := match w.cell? ⟨g, 3, none⟩, w.cell? ⟨g, 1, none⟩ with
  | some (.int _ b), some (.int _ i) => if b < 0 then N - i.toNat else 0
  | _, _ => 0
theorem mesM_at {w : World} {g c en i : Nat} {A : Option Addr} {ts : List Tok} {bad : Int} (h : Rdr w g A c ts en i bad) (N : Nat) : mesM g N w = if bad < 0 then N - i else 0 := by
  obtain ⟨c0, c1, c2, c3⟩ := h.cells
  unfold mesM
  rw [c1, c3]
  simp
theorem munary_any {ts : List Tok} {en g c n : Nat} {A : Option Addr} (hat : MP ts en g A c 189 #[.pointer (some ⟨g, 0, none⟩)] 7 n) (hun : MP ts en g A c 159 #[.pointer (some ⟨g, 0, none⟩)] 6 n) (h63 : ts.length ≤ 1000) : MP ts en g A c 159 #[.pointer (some ⟨g, 0, none⟩)] 6 (n + 1) := by
  intro m hm i w h hil hn
  obtain ⟨m, rfl⟩ := need_pos hn (by omega)
  have hgl := h.lt
  have hb1 := box_below w (.cells #[.int .i64 0, .int .i64 0, .string ⟨#[]⟩, .slice none 0 0] ET)
  have B1 := hid (Blk.new w ET [.int .i64 0, .int .i64 0, .string ⟨#[]⟩, .slice none 0 0])
  have z1 : (w.alloc (.cells #[.int .i64 0, .int .i64 0, .string ⟨#[]⟩, .slice none 0 0] ET)).heap.size = w.heap.size + 1 := size_alloc' _ _
  have h1 := h.below hb1
  have G1 := hid (gb_below (gb_refl w (some g)) hb1)
  have hs := hid (msees_any g A c ts en i [33] _ h1 hil)
  rw [pz_un]
  have hsl := sees_lt (ts := ts) (i := i) (s := [33])
  replace h1 := hid h1
  clear h hb1
  cases hq : seesB ts i [33] with
  | false =>
    rw [if_neg (by simp)]
    rw [hq] at hs
    have hcl := hid (fun w1 h1 => hat m (by omega) i w1 h1 hil (by unfold need at hn ⊢; omega))
    clear hsl hq
    go_enter Tryz.func159, Tryz.ntmps159
    go_wp2_with fail
    generalize (w.alloc (.cells #[.int .i64 0, .int .i64 0, .string ⟨#[]⟩, .slice none 0 0] ET)) = w1 at *
    refine hs.out.mono ?_
    rintro e w2 ⟨rfl, hb⟩
    have z2 := hb.size
    have h2 := hid (h1.out.below hb)
    have B2 := hid (B1.out.below hb B1.out.lt)
    have G2 := hid (gb_below G1.out hb)
    clear hb hs
    go_wp2_with fail
    refine (hcl.out w2 h2.out).mono ?_
    rintro e w3 ⟨K, N, s, B, L, cc, t, j, bad, rfl, ho, hg, hr, hM⟩
    have B3 := B2.out.gb hg (by omega)
    have hf := mok_fin B3 ho (by omega) (Nat.le_refl _) (gb_trans G2.out hg) hr hM hgl
    have hf1 := hid hf.1
    have hf2 := hid hf.2
    obtain ⟨r0, r1, r2, r3⟩ := four B3
    have y0 := B3.frozen 0
    have y1 := B3.frozen 1
    have y2 := B3.frozen 2
    have y3 := B3.frozen 3
    clear hf B3 ho hr hM hg hcl
    go_wp2_with fail
    exact bodyPost_ret (results_cell_row Tryz.results159 _ _ w.heap.size 58 _ (0, 0) _ rfl hf1.out Tryz.underlying58 rfl (by kernel_rfl)) rfl hf2.out
  | true =>
    rw [if_pos rfl]
    rw [hq] at hs
    have hil2 := hsl hq
    have hcl := hid (fun w1 h1 => hun m (by omega) (i + 1) w1 h1 (by omega) (by unfold need at hn ⊢; omega))
    have hun2 := hid (fun (t : T) (j : Nat) (bad : Int) (hM : MIs (pz ts en m 6 (i + 1)) t j bad) => un_is hM)
    obtain ⟨R, hR⟩ : ∃ R, R = unR ts en m i := ⟨_, rfl⟩
    rw [← hR] at hun2 ⊢
    clear hsl hq hR
    go_enter Tryz.func159, Tryz.ntmps159
    go_wp2_with fail
    generalize (w.alloc (.cells #[.int .i64 0, .int .i64 0, .string ⟨#[]⟩, .slice none 0 0] ET)) = w1 at *
    refine hs.out.mono ?_
    rintro e w2 ⟨rfl, hb⟩
    have z2 := hb.size
    have h2 := h1.out.below hb
    have B2 := B1.out.below hb B1.out.lt
    have G2 := gb_below G1.out hb
    obtain ⟨c0, c1, c2, c3⟩ := h2.cells
    have f1 := h2.blk.frozen 1
    have h3 := h2.next
    have B3 := hid (B2.gb h3.2 (by omega))
    have G3 := hid (gb_trans G2 h3.2)
    have z3 : (w2.setCell ⟨g, 1, none⟩ (.int .i64 ((i : Int) + 1))).heap.size = w2.heap.size := by simp [World.setCell]
    replace h3 := hid h3.1
    clear hb hs h2 B2 G2 c0 c2 c3
    go_wp2_with fail
    generalize (w2.setCell ⟨g, 1, none⟩ (.int .i64 ((i : Int) + 1))) = w3 at *
    clear c1 f1
    refine (hcl.out w3 h3.out).mono ?_
    rintro e w4 ⟨K, N, s, B, L, cc, t, j, bad, rfl, ho, hg, hr, hM⟩
    have B4 := B3.out.gb hg (by omega)
    have z4 := hg.size
    have G4 := gb_trans G3.out hg
    have b5 : Below w4.heap.size w4 (w4.alloc (.cells #[.int .i64 K, .int .i64 N, .string ⟨s.toArray⟩, .slice B L cc] ET)) := box_below _ _
    have z5 : (w4.alloc (.cells #[.int .i64 K, .int .i64 N, .string ⟨s.toArray⟩, .slice B L cc] ET)).heap.size = w4.heap.size + 1 := size_alloc' _ _
    have k5 : Blk (w4.alloc (.cells #[.int .i64 K, .int .i64 N, .string ⟨s.toArray⟩, .slice B L cc] ET)) w4.heap.size ET [.int .i64 K, .int .i64 N, sv s, .slice B L cc] := Blk.new w4 ET _
    have B5 := B4.below b5 B4.lt
    have o5 := (ho.same (same_below b5 (Nat.le_refl _)))
    have G5 := gb_below G4 b5
    have p5 := hr.below b5
    have hm := (Dr.made_one 4 0 o5 k5 (by omega)).1
    have hf := mok_fin B5 hm (by omega) (by omega) G5 p5 (hun2.out _ _ _ hM) hgl
    have hf1 := hid hf.1
    have hf2 := hid hf.2
    obtain ⟨r0, r1, r2, r3⟩ := four B5
    have y0 := B5.frozen 0
    have y1 := B5.frozen 1
    have y2 := B5.frozen 2
    have y3 := B5.frozen 3
    clear hf B4 B5 ho hr hM hg hcl o5 k5 p5 G5 b5 G4 hm
    go_wp2_with fail
    exact bodyPost_ret (results_cell_row Tryz.results159 _ _ w.heap.size 58 _ (0, 0) _ rfl hf1.out Tryz.underlying58 rfl (by kernel_rfl)) rfl hf2.out
theorem mlev6_any {ts : List Tok} {en g c n : Nat} {A : Option Addr} (hun : MP ts en g A c 159 #[.pointer (some ⟨g, 0, none⟩)] 6 n) : MP ts en g A c 124 #[.pointer (some ⟨g, 0, none⟩), .int .i64 6] 6 n := by
  intro m hm i w h hil hn
  have hgl := h.lt
  have hb1 := box_below w (.cells #[.int .i64 0, .int .i64 0, .string ⟨#[]⟩, .slice none 0 0] ET)
  have B1 := hid (Blk.new w ET [.int .i64 0, .int .i64 0, .string ⟨#[]⟩, .slice none 0 0])
  have z1 : (w.alloc (.cells #[.int .i64 0, .int .i64 0, .string ⟨#[]⟩, .slice none 0 0] ET)).heap.size = w.heap.size + 1 := size_alloc' _ _
  have h1 := hid (h.below hb1)
  have G1 := hid (gb_below (gb_refl w (some g)) hb1)
  have hcl := hid (fun w1 h1 => hun m hm i w1 h1 hil hn)
  generalize pz ts en m 6 i = R at *
  clear h hb1
  go_enter Tryz.func124, Tryz.ntmps124
  go_wp2_with fail
  generalize (w.alloc (.cells #[.int .i64 0, .int .i64 0, .string ⟨#[]⟩, .slice none 0 0] ET)) = w1 at *
  refine (hcl.out w1 h1.out).mono ?_
  rintro e w3 ⟨K, N, s, B, L, cc, t, j, bad, rfl, ho, hg, hr, hM⟩
  have B3 := B1.out.gb hg (by omega)
  have hf := mok_fin B3 ho (by omega) (Nat.le_refl _) (gb_trans G1.out hg) hr hM hgl
  have hf1 := hid hf.1
  have hf2 := hid hf.2
  obtain ⟨r0, r1, r2, r3⟩ := four B3
  have y0 := B3.frozen 0
  have y1 := B3.frozen 1
  have y2 := B3.frozen 2
  have y3 := B3.frozen 3
  clear hf B3 ho hr hM hg hcl
  go_wp2_with fail
  exact bodyPost_ret (results_cell_row Tryz.results124 _ _ w.heap.size 58 _ (0, 0) _ rfl hf1.out Tryz.underlying58 rfl (by kernel_rfl)) rfl hf2.out
theorem mlevel_any {ts : List Tok} {en g c n : Nat} {A : Option Addr} (h63 : ts.length ≤ 1000) (l : Nat) (hl1 : 1 ≤ l) (hl5 : l ≤ 5) (hop : MP ts en g A c 124 #[.pointer (some ⟨g, 0, none⟩), .int .i64 ((l : Int) + 1)] (l + 1) n) : MP ts en g A c 124 #[.pointer (some ⟨g, 0, none⟩), .int .i64 (l : Int)] l (n + 1) := by
  intro m hm i w h hil hn
  obtain ⟨m, rfl⟩ := need_pos hn (by omega)
  have hgl := h.lt
  have hb1 := box_below w (.cells #[.int .i64 0, .int .i64 0, .string ⟨#[]⟩, .slice none 0 0] ET)
  have B1 := hid (Blk.new w ET [.int .i64 0, .int .i64 0, .string ⟨#[]⟩, .slice none 0 0])
  have z1 : (w.alloc (.cells #[.int .i64 0, .int .i64 0, .string ⟨#[]⟩, .slice none 0 0] ET)).heap.size = w.heap.size + 1 := size_alloc' _ _
  have h1 := hid (h.below hb1)
  have G1 := hid (gb_below (gb_refl w (some g)) hb1)
  obtain ⟨R, hR⟩ : ∃ R, R = pz ts en (m + 1) l i := ⟨_, rfl⟩
  rw [← hR]
  have hR2 : R = andR (pz ts en m (l + 1) i) fun e j => lz ts en m l e j := by
    rw [hR, pz, if_neg (by omega), if_neg (by omega)]
    unfold andR
    cases pz ts en m (l + 1) i <;> rfl
  replace hR2 := hid hR2
  have t5 : decide (5 < (l : Int)) = false := decide_eq_false (by omega)
  have hcl := hid (fun w1 h1 => hop m (by omega) i w1 h1 hil (by unfold need at hn ⊢; omega))
  replace hop := hid hop
  replace hn := hid hn
  clear h hb1 hR
  go_enter Tryz.func124, Tryz.ntmps124
  go_wp2_with fail
  generalize (w.alloc (.cells #[.int .i64 0, .int .i64 0, .string ⟨#[]⟩, .slice none 0 0] ET)) = w1 at *
  refine (hcl.out w1 h1.out).mono ?_
  rintro e w2 ⟨K, N, s, B, L, cc, t, j, bad, rfl, ho, hg, hr, hM⟩
  have z2 := hg.size
  have hS : MSt ts en g A c w2.heap.size w (w2.alloc (.cells #[.int .i64 K, .int .i64 N, .string ⟨s.toArray⟩, .slice B L cc] ET)) K N s B L cc t j bad := by
    refine ⟨Blk.new w2 ET _, ?_, hr.below (box_below _ _), gb_below (gb_trans G1.out hg) (box_below _ _), (B1.out.gb hg (by omega)).alloc _, by omega⟩
    rw [size_alloc']
    rw [z1] at ho
    exact ((ho.same (same_below (box_below _ _) (Nat.le_refl _))).er_in (Or.inr (Nat.le_refl _))).mono (Nat.le_refl _) (by omega)
  have hA : MAns ts en l m R t j bad := by
    rw [hR2.out]
    cases hq : pz ts en m (l + 1) i with
    | error a => rw [hq] at hM; obtain ⟨rfl, ha⟩ := hM; exact Or.inr ⟨ha, rfl⟩
    | ok p =>
      obtain ⟨t', j'⟩ := p
      rw [hq] at hM
      obtain ⟨rfl, rfl, rfl⟩ := hM
      have ha := (pz_adv ts en m).1 _ _ _ _ hq
      have hn := hn.out
      exact Or.inl ⟨rfl, ha.2.1, m, Nat.le_refl m, rfl, by unfold need at hn ⊢; omega⟩
  replace hS := hid hS
  replace hA := hid hA
  clear ho hg hr hM hcl B1 G1 h1 hR2 hn
  go_wp2_with fail
  generalize (w2.alloc (.cells #[.int .i64 K, .int .i64 N, .string ⟨s.toArray⟩, .slice B L cc] ET)) = w3 at *
  generalize w2.heap.size = h at *
  go_loopw [6] (fun _ wr => ∃ K N s B L cc t j bad, MSt ts en g A c h w wr K N s B L cc t j bad ∧ MAns ts en l m R t j bad) (fun _ wr => mesM g ts.length wr)
  case atStart => exact ⟨_, _, _, _, _, _, _, _, _, hS.out, hA.out⟩
  case round =>
    obtain ⟨K, N, s, B, L, cc, t, j, bad, hS, hA⟩ := hrel
    rcases hA with ⟨rfl, hjl, m', hm', hlz, hnd⟩ | ⟨hb0, hRe⟩
    · have hOp := mop_gen (seesB ts j) g A c ts en j (-1) l hl1 hl5 wr hS.rdr (fun s w1 h1 => msees_any g A c ts en j s w1 h1 hjl)
      rw [fop_sees] at hOp
      have hme := mesM_at hS.rdr ts.length
      rw [if_pos (by omega)] at hme
      replace hOp := hid hOp
      replace hS := hid hS
      obtain ⟨m', rfl⟩ : ∃ k, m' = k + 1 := ⟨m' - 1, by omega⟩
      rw [lz_eq] at hlz
      have hol := hid (opAt_lt (ts := ts) (l := l) (j := j))
      generalize opAt ts l j = q at *
      replace hlz := hid hlz
      replace hme := hid hme
      have hnd' := hid hnd
      by_cases hq : q = 0
      · subst hq
        have hRe := hid (show MIs R t j (-1) by
          have h := hlz.out
          unfold lzR at h
          rw [if_pos rfl] at h
          rw [← h]; exact ⟨rfl, rfl, rfl⟩)
        clear hlz hol hnd hme
        go_wp2_with fail
        refine hOp.out.mono ?_
        rintro e w4 ⟨rfl, hb⟩
        have S4 := hS.out.below hgl hb
        have hf := S4.fin hRe.out hgl
        have hf1 := hid hf.1
        have hf2 := hid hf.2
        obtain ⟨k0, k1, k2, k3⟩ := four S4.var
        obtain ⟨r0, r1, r2, r3⟩ := four S4.res
        have y0 := S4.res.frozen 0
        have y1 := S4.res.frozen 1
        have y2 := S4.res.frozen 2
        have y3 := S4.res.frozen 3
        clear hf S4 hb hOp
        go_wp2_with fail
        exact bodyPost_ret (results_cell_row Tryz.results124 _ _ w.heap.size 58 _ (0, 0) _ rfl hf1.out Tryz.underlying58 rfl (by kernel_rfl)) rfl hf2.out
      · have hjl2 := hol.out hq
        have hq0 : (q == 0) = false := beq_false_of_ne hq
        have hnm : need ts (l + 1) (j + 1) ≤ m' := by unfold need at hnd ⊢; omega
        have hcall := hid (fun w1 h1 => hop.out m' (by omega) (j + 1) w1 h1 (by omega) hnm)
        have hlf := hid (fun (t2 : T) (j2 : Nat) (b2 : Int) hM => lz_fin (n := m) (t2 := t2) (j2 := j2) (bad2 := b2) hq hlz.out hM (by omega) (by omega) hjl2 hl5)
        clear hlz hol hnd hjl hnm
        go_wp2_with fail
        refine hOp.out.mono ?_
        rintro e w4 ⟨rfl, hb⟩
        have S4 := hS.out.below hgl hb
        obtain ⟨c0, c1, c2, c3⟩ := S4.rdr.cells
        have f1 := S4.rdr.blk.frozen 1
        have h5 := S4.rdr.next
        have S5 := S4.go hgl h5.2 h5.1
        replace S5 := hid S5
        clear c0 c2 c3 h5 hb hOp S4
        go_wp2_with fail
        generalize (w4.setCell ⟨g, 1, none⟩ (.int .i64 ((j : Int) + 1))) = w5 at *
        clear c1 f1
        have S6 := hid (S5.out.go hgl (gb_below (gb_refl w5 (some g)) ((Below.refl _ _).drew)) (S5.out.rdr.below ((Below.refl _ _).drew)))
        have hcl6 := hid (hcall.out _ S6.out.rdr)
        obtain ⟨k0, k1, k2, k3⟩ := four S5.out.var
        have step : ∀ w9 K2 N2 s2 B2 L2 cc2 t2 j2 b2, w5.drew.grownBy w9 (some g) → OwnE ET w9 w5.drew.heap.size w9.heap.size (nv K2 N2 s2 B2 L2 cc2) t2 → Rdr w9 g A c ts en j2 b2 →
            Hid (Blk w9 h ET [.int .i64 K, .int .i64 N, sv s, .slice B L cc] ∧ ∀ w8, Below w9.heap.size w9 w8 → Blk w8 (w9.heap.size + 1 + 1 + 1) ET [.int .i64 K, .int .i64 N, sv s, .slice B L cc, .int .i64 K2, .int .i64 N2, sv s2, .slice B2 L2 cc2] →
              Blk w8 h ET [.int .i64 K, .int .i64 N, sv s, .slice B L cc] ∧ MSt ts en g A c h w (Dr.setR w8 h 3 q [] (.slice (some ⟨w9.heap.size + 1 + 1 + 1, 0, none⟩) 2 2)) 3 q [] (some ⟨w9.heap.size + 1 + 1 + 1, 0, none⟩) 2 2 (opT q t t2) j2 b2) := fun w9 K2 N2 s2 B2 L2 cc2 t2 j2 b2 g9 o9 r9 =>
          hid ⟨(S6.out.go hgl g9 r9).var, fun w8 b8 r8 => ⟨((S6.out.go hgl g9 r9).below hgl b8).var, S6.out.step hgl g9 o9 r9 b8 r8⟩⟩
        clear hcall S5
        have hwr : IntKind.i64.wrap ((l : Int) + 1) = (l : Int) + 1 := IntWalk.i64_in _ (by omega)
        go_region_with (first
          | (go_at_call 124; refine hcl6.out.mono ?_; rintro e w9 ⟨K2, N2, s2, B2, L2, cc2, t2, j2, b2, rfl, ho, hg, hr, hM⟩; have st := step w9 K2 N2 s2 B2 L2 cc2 t2 j2 b2 hg ho hr; obtain ⟨m0, m1, m2, m3⟩ := four st.out.1; have hlf := hid (hlf.out t2 j2 b2 hM); clear ho hg hr hM step)
          | (go_at_call 89; refine (Dr.op4 q K N K2 N2 s s2 B B2 L cc L2 cc2 _).mono ?_; rintro e w8 ⟨rfl, r8, b8⟩; have s9 := st.out.2 w8 b8 r8; obtain ⟨d0, d1, d2, d3⟩ := four s9.1; have f0 := s9.1.frozen 0; have f1 := s9.1.frozen 1; have f2 := s9.1.frozen 2; have f3 := s9.1.frozen 3; have S9 := hid s9.2; clear s9 r8 b8 st))
        all_goals
          clear d0 d1 d2 d3 f0 f1 f2 f3 m0 m1 m2 m3 k0 k1 k2 k3 hcl6 S6
          have S9 := hid (show MSt ts en g A c h w ((((w8.setCell ⟨h, 0, none⟩ (.int .i64 3)).setCell ⟨h, 1, none⟩ (.int .i64 q)).setCell ⟨h, 2, none⟩ (.string ⟨#[]⟩)).setCell ⟨h, 3, none⟩ (.slice (some ⟨w9.heap.size + 1 + 1 + 1, 0, none⟩) 2 2)) 3 q [] (some ⟨w9.heap.size + 1 + 1 + 1, 0, none⟩) 2 2 (opT q t t2) j2 b2 from S9.out)
          generalize ((((w8.setCell ⟨h, 0, none⟩ (.int .i64 3)).setCell ⟨h, 1, none⟩ (.int .i64 q)).setCell ⟨h, 2, none⟩ (.string ⟨#[]⟩)).setCell ⟨h, 3, none⟩ (.slice (some ⟨w9.heap.size + 1 + 1 + 1, 0, none⟩) 2 2)) = w10 at *
          obtain ⟨hbb, hy, hn⟩ := hlf.out
          by_cases hl3 : l = 3
          · have t3 : ((l : Int) == 3) = true := beq_iff_eq.2 (by omega)
            have hf := S9.out.fin (hy hl3) hgl
            have hf1 := hid hf.1
            have hf2 := hid hf.2
            obtain ⟨k0, k1, k2, k3⟩ := four S9.out.var
            obtain ⟨r0, r1, r2, r3⟩ := four S9.out.res
            have y0 := S9.out.res.frozen 0
            have y1 := S9.out.res.frozen 1
            have y2 := S9.out.res.frozen 2
            have y3 := S9.out.res.frozen 3
            clear hf S9 hy hn hbb hlf
            go_wp2_with fail
            exact bodyPost_ret (results_cell_row Tryz.results124 _ _ w.heap.size 58 _ (0, 0) _ rfl hf1.out Tryz.underlying58 rfl (by kernel_rfl)) rfl hf2.out
          · have t3 : ((l : Int) == 3) = false := beq_false_of_ne (by omega)
            have hAn := hid (hn hl3)
            have hM1 := hid (mesM_at S9.out.rdr ts.length)
            replace hbb := hid hbb
            clear hy hn hlf
            go_wp2_with fail
            refine ⟨⟨_, _, _, _, _, _, _, _, _, S9.out, hAn.out⟩, ?_⟩
            rw [hM1.out, hme.out]
            rcases hbb.out with ⟨rfl, h1, h2⟩ | h1
            · rw [if_pos (by omega)]; omega
            · rw [if_neg (by omega)]; omega
    · have hOp := mop_gen (fun _ => false) g A c ts en j bad l hl1 hl5 wr hS.rdr (fun s w1 h1 => msees_bad g A c ts en j bad s w1 h1 hb0)
      rw [fop_no] at hOp
      replace hOp := hid hOp
      have hRe := hid (show MIs R t j bad by rw [hRe]; exact ⟨rfl, hb0⟩)
      replace hS := hid hS
      go_wp2_with fail
      refine hOp.out.mono ?_
      rintro e w4 ⟨rfl, hb⟩
      have S4 := hS.out.below hgl hb
      have hf := S4.fin hRe.out hgl
      have hf1 := hid hf.1
      have hf2 := hid hf.2
      obtain ⟨k0, k1, k2, k3⟩ := four S4.var
      obtain ⟨r0, r1, r2, r3⟩ := four S4.res
      have y0 := S4.res.frozen 0
      have y1 := S4.res.frozen 1
      have y2 := S4.res.frozen 2
      have y3 := S4.res.frozen 3
      clear hf S4 hb hOp
      go_wp2_with fail
      exact bodyPost_ret (results_cell_row Tryz.results124 _ _ w.heap.size 58 _ (0, 0) _ rfl hf1.out Tryz.underlying58 rfl (by kernel_rfl)) rfl hf2.out
theorem mparse_all {ts : List Tok} {en g c : Nat} {A : Option Addr} (hG : ∀ t ∈ ts, GoodT t) (hp : ∀ t ∈ ts, 0 ≤ t.p) (h63 : ts.length ≤ 1000) (n : Nat) :
    MP ts en g A c 124 #[.pointer (some ⟨g, 0, none⟩), .int .i64 1] 1 n ∧ MP ts en g A c 124 #[.pointer (some ⟨g, 0, none⟩), .int .i64 2] 2 n ∧ MP ts en g A c 124 #[.pointer (some ⟨g, 0, none⟩), .int .i64 3] 3 n ∧ MP ts en g A c 124 #[.pointer (some ⟨g, 0, none⟩), .int .i64 4] 4 n ∧
      MP ts en g A c 124 #[.pointer (some ⟨g, 0, none⟩), .int .i64 5] 5 n ∧ MP ts en g A c 159 #[.pointer (some ⟨g, 0, none⟩)] 6 n ∧ MP ts en g A c 189 #[.pointer (some ⟨g, 0, none⟩)] 7 n := by
  induction n with
  | zero =>
    have h0 : ∀ F args l, l ≤ 7 → MP ts en g A c F args l 0 := fun F args l hl m hm i w _ _ hn => by unfold need at hn; omega
    exact ⟨h0 _ _ _ (by omega), h0 _ _ _ (by omega), h0 _ _ _ (by omega), h0 _ _ _ (by omega), h0 _ _ _ (by omega), h0 _ _ _ (by omega), h0 _ _ _ (by omega)⟩
  | succ n ih =>
    obtain ⟨i1, i2, i3, i4, i5, i6, i7⟩ := ih
    exact ⟨mlevel_any h63 1 (by omega) (by omega) i2, mlevel_any h63 2 (by omega) (by omega) i3, mlevel_any h63 3 (by omega) (by omega) i4, mlevel_any h63 4 (by omega) (by omega) i5, mlevel_any h63 5 (by omega) (by omega) (mlev6_any i6), munary_any i7 i6 h63, matom_any hG hp h63 i1⟩
end Go.Proofs.YtiogceepjffmkaaGreatDoor.Tk
