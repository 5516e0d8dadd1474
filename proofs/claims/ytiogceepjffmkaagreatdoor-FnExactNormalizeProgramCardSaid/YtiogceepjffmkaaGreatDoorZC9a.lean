/- The model's parser of expressions, on a reader that has failed. -/
import Derived.Test.YtiogceepjffmkaaGreatDoorZC6d
import Derived.Test.YtiogceepjffmkaaGreatDoorZP9d
set_option maxHeartbeats 16000000
set_option maxRecDepth 100000
namespace Go.Proofs.YtiogceepjffmkaaGreatDoor.Tk
open Go.RowKit Go.Lib Go.Sort Num Com Mem YtiogceepjffmkaaGreatDoor.Os Tr
def MB (ts : List Tok) (en g : Nat) (A : Option Addr) (c : Nat) (F : FuncId) (args : Array Value) : Prop := ∀ i bad w, Rdr w g A c ts en i bad → 0 ≤ bad → Calls Tryz.prog F args w (MOk ts en g A c w (.error bad))
theorem mis_bad {t : T} {j : Nat} {bad : Int} (h : 0 ≤ bad) : MIs (.error bad) t j bad := ⟨rfl, h⟩
theorem matom_bad {ts : List Tok} {en g c : Nat} {A : Option Addr} : MB ts en g A c 189 #[.pointer (some ⟨g, 0, none⟩)] := by
  intro i bad w h hb0
  have hgl := h.lt
  have hb1 := box_below w (.cells #[.int .i64 0, .int .i64 0, .string ⟨#[]⟩, .slice none 0 0] ET)
  have B1 := hid (Blk.new w ET [.int .i64 0, .int .i64 0, .string ⟨#[]⟩, .slice none 0 0])
  have z1 : (w.alloc (.cells #[.int .i64 0, .int .i64 0, .string ⟨#[]⟩, .slice none 0 0] ET)).heap.size = w.heap.size + 1 := size_alloc' _ _
  have h1 := h.below hb1
  have G1 := hid (gb_below (gb_refl w (some g)) hb1)
  have t1 : decide (0 ≤ bad) = true := decide_eq_true hb0
  have hmf := hid (fun w1 (h1 : Rdr w1 g A c ts en i bad) => mfail_bad g A c ts en i bad w1 h1 hb0)
  clear h hb1
  go_enter Tryz.func189, Tryz.ntmps189
  go_wp2_with fail
  generalize (w.alloc (.cells #[.int .i64 0, .int .i64 0, .string ⟨#[]⟩, .slice none 0 0] ET)) = w1 at *
  obtain ⟨c0, c1, c2, c3⟩ := h1.cells
  have h1 := hid h1
  replace c0 := cell_regrown c0
  replace c1 := cell_regrown c1
  replace c3 := cell_regrown c3
  clear c2
  refine wp_region_quiet_below (by kernel_rfl) (by kernel_rfl) ?_
  repeat (go_big_quiet_step (fail))
  refine wpQuiet_nil ?_
  intro _ hw'
  obtain ⟨⟨dq, osq⟩, hw''⟩ := hw'
  subst hw''
  have hq := below_regrown w1 dq osq
  have z2 := hq.size
  have B2 := hid (B1.out.below hq B1.out.lt)
  have h2 := hid (h1.out.below hq)
  have G2 := hid (gb_below G1.out hq)
  clear c0 c1 c3 hq h1 B1 G1
  generalize grow (redrawn w1 dq) osq = w2 at *
  go_wp2_with fail
  refine (hmf.out w2 h2.out).mono ?_
  rintro e w3 ⟨rfl, hb⟩
  have z3 := hb.size
  have B3 := B2.out.below hb B2.out.lt
  have hf := mok_fin B3 (OwnE.leaf' w3 (w.heap.size + 1) w3.heap.size 0 0 [] (by simp)) (by omega) (Nat.le_refl _) (gb_below G2.out hb) (h2.out.below hb) (mis_bad (t := .mk 0 0 [] []) (j := i) hb0) hgl
  have hf1 := hid hf.1
  have hf2 := hid hf.2
  obtain ⟨r0, r1, r2, r3⟩ := four B3
  have y0 := B3.frozen 0
  have y1 := B3.frozen 1
  have y2 := B3.frozen 2
  have y3 := B3.frozen 3
  clear hf B3 hb hmf
  go_wp2_with fail
  exact bodyPost_ret (results_cell_row Tryz.results189 _ _ w.heap.size 58 _ (0, 0) _ rfl hf1.out Tryz.underlying58 rfl (by kernel_rfl)) rfl hf2.out
theorem munary_bad {ts : List Tok} {en g c : Nat} {A : Option Addr} : MB ts en g A c 159 #[.pointer (some ⟨g, 0, none⟩)] := by
  intro i bad w h hb0
  have hgl := h.lt
  have hb1 := box_below w (.cells #[.int .i64 0, .int .i64 0, .string ⟨#[]⟩, .slice none 0 0] ET)
  have B1 := hid (Blk.new w ET [.int .i64 0, .int .i64 0, .string ⟨#[]⟩, .slice none 0 0])
  have z1 : (w.alloc (.cells #[.int .i64 0, .int .i64 0, .string ⟨#[]⟩, .slice none 0 0] ET)).heap.size = w.heap.size + 1 := size_alloc' _ _
  have h1 := h.below hb1
  have G1 := hid (gb_below (gb_refl w (some g)) hb1)
  have hs := hid (msees_bad g A c ts en i bad [33] _ h1 hb0)
  replace h1 := hid h1
  have hcl := hid (fun w1 h1 => matom_bad (ts := ts) (en := en) (g := g) (c := c) (A := A) i bad w1 h1 hb0)
  clear h hb1
  go_enter Tryz.func159, Tryz.ntmps159
  go_wp2_with fail
  generalize (w.alloc (.cells #[.int .i64 0, .int .i64 0, .string ⟨#[]⟩, .slice none 0 0] ET)) = w1 at *
  refine hs.out.mono ?_
  rintro e w2 ⟨rfl, hb⟩
  have z2 := hb.size
  have h2 := hid (h1.out.below hb)
  have B2 := hid (B1.out.below hb B1.out.lt)
  have G2 := hid (gb_below G1.out hb)
  clear hb hs
  go_wp2_with fail
  refine (hcl.out w2 h2.out).mono ?_
  rintro e w3 ⟨K, N, s, B, L, cc, t, j, bad3, rfl, ho, hg, hr, hM⟩
  have B3 := B2.out.gb hg (by omega)
  have hf := mok_fin B3 ho (by omega) (Nat.le_refl _) (gb_trans G2.out hg) hr hM hgl
  have hf1 := hid hf.1
  have hf2 := hid hf.2
  obtain ⟨r0, r1, r2, r3⟩ := four B3
  have y0 := B3.frozen 0
  have y1 := B3.frozen 1
  have y2 := B3.frozen 2
  have y3 := B3.frozen 3
  clear hf B3 ho hr hM hg hcl
  go_wp2_with fail
  exact bodyPost_ret (results_cell_row Tryz.results159 _ _ w.heap.size 58 _ (0, 0) _ rfl hf1.out Tryz.underlying58 rfl (by kernel_rfl)) rfl hf2.out
theorem mlev6_bad {ts : List Tok} {en g c : Nat} {A : Option Addr} : MB ts en g A c 124 #[.pointer (some ⟨g, 0, none⟩), .int .i64 6] := by
  intro i bad w h hb0
  have hgl := h.lt
  have hb1 := box_below w (.cells #[.int .i64 0, .int .i64 0, .string ⟨#[]⟩, .slice none 0 0] ET)
  have B1 := hid (Blk.new w ET [.int .i64 0, .int .i64 0, .string ⟨#[]⟩, .slice none 0 0])
  have z1 : (w.alloc (.cells #[.int .i64 0, .int .i64 0, .string ⟨#[]⟩, .slice none 0 0] ET)).heap.size = w.heap.size + 1 := size_alloc' _ _
  have h1 := hid (h.below hb1)
  have G1 := hid (gb_below (gb_refl w (some g)) hb1)
  have hcl := hid (fun w1 h1 => munary_bad (ts := ts) (en := en) (g := g) (c := c) (A := A) i bad w1 h1 hb0)
  clear h hb1
  go_enter Tryz.func124, Tryz.ntmps124
  go_wp2_with fail
  generalize (w.alloc (.cells #[.int .i64 0, .int .i64 0, .string ⟨#[]⟩, .slice none 0 0] ET)) = w1 at *
  refine (hcl.out w1 h1.out).mono ?_
  rintro e w3 ⟨K, N, s, B, L, cc, t, j, bad3, rfl, ho, hg, hr, hM⟩
  have B3 := B1.out.gb hg (by omega)
  have hf := mok_fin B3 ho (by omega) (Nat.le_refl _) (gb_trans G1.out hg) hr hM hgl
  have hf1 := hid hf.1
  have hf2 := hid hf.2
  obtain ⟨r0, r1, r2, r3⟩ := four B3
  have y0 := B3.frozen 0
  have y1 := B3.frozen 1
  have y2 := B3.frozen 2
  have y3 := B3.frozen 3
  clear hf B3 ho hr hM hg hcl
  go_wp2_with fail
  exact bodyPost_ret (results_cell_row Tryz.results124 _ _ w.heap.size 58 _ (0, 0) _ rfl hf1.out Tryz.underlying58 rfl (by kernel_rfl)) rfl hf2.out
theorem mlevel_bad1 {ts : List Tok} {en g c : Nat} {A : Option Addr} (l : Nat) (hl1 : 1 ≤ l) (hl5 : l ≤ 5) (hop : MB ts en g A c 124 #[.pointer (some ⟨g, 0, none⟩), .int .i64 ((l : Int) + 1)]) : MB ts en g A c 124 #[.pointer (some ⟨g, 0, none⟩), .int .i64 (l : Nat)] := by
  intro i bad w h hb0
  have hgl := h.lt
  have hb1 := box_below w (.cells #[.int .i64 0, .int .i64 0, .string ⟨#[]⟩, .slice none 0 0] ET)
  have B1 := hid (Blk.new w ET [.int .i64 0, .int .i64 0, .string ⟨#[]⟩, .slice none 0 0])
  have z1 : (w.alloc (.cells #[.int .i64 0, .int .i64 0, .string ⟨#[]⟩, .slice none 0 0] ET)).heap.size = w.heap.size + 1 := size_alloc' _ _
  have h1 := hid (h.below hb1)
  have G1 := hid (gb_below (gb_refl w (some g)) hb1)
  have t5 : decide (5 < (l : Int)) = false := decide_eq_false (by omega)
  have hwr : IntKind.i64.wrap ((l : Int) + 1) = (l : Int) + 1 := IntWalk.i64_in _ (by omega)
  have hcl := hid (fun w1 h1 => hop i bad w1 h1 hb0)
  clear h hb1 hop
  go_enter Tryz.func124, Tryz.ntmps124
  go_wp2_with fail
  generalize (w.alloc (.cells #[.int .i64 0, .int .i64 0, .string ⟨#[]⟩, .slice none 0 0] ET)) = w1 at *
  refine (hcl.out w1 h1.out).mono ?_
  rintro e w2 ⟨K, N, s, B, L, cc, t, j, bad2, rfl, ho, hg, hr, hM⟩
  obtain ⟨rfl, -⟩ := hM
  have z2 := hg.size
  have hS : MSt ts en g A c w2.heap.size w (w2.alloc (.cells #[.int .i64 K, .int .i64 N, .string ⟨s.toArray⟩, .slice B L cc] ET)) K N s B L cc t j bad2 := by
    refine ⟨Blk.new w2 ET _, ?_, hr.below (box_below _ _), gb_below (gb_trans G1.out hg) (box_below _ _), (B1.out.gb hg (by omega)).alloc _, by omega⟩
    rw [size_alloc']
    rw [z1] at ho
    exact ((ho.same (same_below (box_below _ _) (Nat.le_refl _))).er_in (Or.inr (Nat.le_refl _))).mono (Nat.le_refl _) (by omega)
  have hOp := fun wr (hr : Rdr wr g A c ts en j bad2) => mop_gen (fun _ => false) g A c ts en j bad2 l hl1 hl5 wr hr (fun s w1 h1 => msees_bad g A c ts en j bad2 s w1 h1 hb0)
  rw [fop_no] at hOp
  replace hS := hid hS
  replace hOp := hid hOp
  clear ho hg hr hcl B1 G1 h1
  go_wp2_with fail
  generalize (w2.alloc (.cells #[.int .i64 K, .int .i64 N, .string ⟨s.toArray⟩, .slice B L cc] ET)) = w3 at *
  generalize w2.heap.size = h at *
  refine wp_loop_rounds 1 ?_; rw [rounds_succ]
  go_wp2_with fail
  refine (hOp.out w3 hS.out.rdr).mono ?_
  rintro e w4 ⟨rfl, hb⟩
  have S4 := hS.out.below hgl hb
  have hf := S4.fin (mis_bad (t := t) (j := j) hb0) hgl
  have hf1 := hid hf.1
  have hf2 := hid hf.2
  obtain ⟨k0, k1, k2, k3⟩ := four S4.var
  obtain ⟨r0, r1, r2, r3⟩ := four S4.res
  have y0 := S4.res.frozen 0
  have y1 := S4.res.frozen 1
  have y2 := S4.res.frozen 2
  have y3 := S4.res.frozen 3
  clear hf S4 hb hOp hS
  go_wp2_with fail
  exact bodyPost_ret (results_cell_row Tryz.results124 _ _ w.heap.size 58 _ (0, 0) _ rfl hf1.out Tryz.underlying58 rfl (by kernel_rfl)) rfl hf2.out
theorem mlevel_bad {ts : List Tok} {en g c : Nat} {A : Option Addr} : MB ts en g A c 124 #[.pointer (some ⟨g, 0, none⟩), .int .i64 1] :=
  mlevel_bad1 1 (by omega) (by omega) (mlevel_bad1 2 (by omega) (by omega) (mlevel_bad1 3 (by omega) (by omega) (mlevel_bad1 4 (by omega) (by omega) (mlevel_bad1 5 (by omega) (by omega) mlev6_bad))))
theorem misName_end (g : Nat) (A : Option Addr) (c : Nat) (ts : List Tok) (en : Nat) (w : World) (h : Rdr w g A c ts en ts.length (-1)) :
    Calls Tryz.prog 123 #[.pointer (some ⟨g, 0, none⟩)] w fun e w' => e = .returned (.bool false) ∧ Below w.heap.size w w' := by
  obtain ⟨c0, c1, c2, c3⟩ := h.cells
  have t1 : decide ((ts.length : Int) < (ts.length : Int)) = false := decide_eq_false (by omega)
  replace c0 := cell_regrown c0
  replace c1 := cell_regrown c1
  replace c3 := cell_regrown c3
  clear h c2
  go_enter Tryz.func123, Tryz.ntmps123
  go_wp2_with fail
  refine wp_region_quiet_below (by kernel_rfl) (by kernel_rfl) ?_
  repeat (go_big_quiet_step (fail))
  refine wpQuiet_nil ?_
  intro _ hw'
  obtain ⟨⟨dq, osq⟩, hw''⟩ := hw'
  subst hw''
  have hq := hid (below_regrown w dq osq)
  clear c0 c1 c3
  generalize grow (redrawn w dq) osq = wq at *
  go_wp2_with fail
  go_ret
  exact ⟨rfl, hq.out⟩
theorem mname_end (g : Nat) (A : Option Addr) (c : Nat) (ts : List Tok) (en : Nat) (w : World) (h : Rdr w g A c ts en ts.length (-1)) :
    Calls Tryz.prog 83 #[.pointer (some ⟨g, 0, none⟩)] w fun e w' => e = .returned (sv []) ∧ Stp w g A c ts en ts.length (errAt ts en ts.length) w' := by
  have hn := hid (misName_end g A c ts en w h)
  have hf := hid (fun w1 (h1 : Rdr w1 g A c ts en ts.length (-1)) => mfail_any g A c ts en ts.length w1 h1 (Nat.le_refl _))
  have h := hid h
  go_enter Tryz.func83, Tryz.ntmps83
  go_wp2_with fail
  refine hn.out.mono ?_
  rintro e w1 ⟨rfl, hb⟩
  have h1 := hid (h.out.stp hb)
  clear hb hn
  go_wp2_with fail
  refine (hf.out w1 h1.out.1).mono ?_
  rintro e w2 ⟨rfl, h2⟩
  have h2 := hid h2
  go_wp2_with fail
  go_ret
  exact ⟨rfl, Stp.tr h1.out.2 h2.out⟩
end Go.Proofs.YtiogceepjffmkaaGreatDoor.Tk
set_option maxRecDepth 100000
namespace Go.Proofs.YtiogceepjffmkaaGreatDoor.Gd
open Go.RowKit Go.Lib Go.Sort Num Com Mem Ow YtiogceepjffmkaaGreatDoor.Os Tr Tk Pl
theorem stT9m : Tryz.prog.underlying 25 = some (.slice (tyI 1)) := Tryz.underlying25
abbrev sz0 : List Value := sc 0 [] 0 0 [] none 0 0 none 0 0 none 0 0
theorem setM_all {cs0 cs : List Value} (h : cs0.length = cs.length) : setN cs0 0 cs = cs := by
  refine List.ext_getElem? fun i => ?_
  rw [setN_at _ _ _ _ (by omega)]
  by_cases hi : i < cs.length
  · rw [if_pos (by omega)]; rfl
  · rw [if_neg (by omega), List.getElem?_eq_none (by omega), List.getElem?_eq_none (by omega)]
theorem cry_keep {W W' : World} {h lo' lo : Nat} (hlt : h < lo') (hl : lo ≤ lo') (hg : W.grownBy W' (some h)) : Cry (ezb W lo') (ezb W' lo) W.heap.size :=
  (Cry.two (o := none) (fun k hk hlo _ => hg.block k hk fun e => by cases e; omega)).trans (Cry.ezb_mono W' hl _) (Nat.le_refl _)
def RowB (w : World) (lo : Nat) (A : Option Addr) (l cc : Nat) (L : List St) : Prop := l = L.length ∧ L.length ≤ cc ∧ L.length ≤ maxI ∧ ∃ rows, Row (ezb w lo) w.heap.size 1 A (dl L) rows
theorem RowB.keep {W W' : World} {h lo' lo : Nat} {A : Option Addr} {l cc : Nat} {L : List St} (hr : RowB W lo' A l cc L) (hlt : h < lo') (hl : lo ≤ lo') (hg : W.grownBy W' (some h)) : RowB W' lo A l cc L := by
  obtain ⟨h1, h2, h3, rows, h4⟩ := hr
  exact ⟨h1, h2, h3, rows, h4.cry (cry_keep hlt hl hg) hg.size⟩
theorem below_gb {w w' : World} {h : Nat} (hb : Below w.heap.size w w') : w.grownBy w' (some h) := gb_below (gb_refl _ _) hb
theorem ownx_ex {w : World} {lo hi lo0 : Nat} {v : Value} {t : T} (h : OwnX lo hi w v t) (hl : lo0 ≤ lo) : Ex (ezb w lo0) w.heap.size v t := by
  have h1 := own_pln (OwnE.same (w' := ezb0 w lo) h fun k h1 _ => ezb0_at w h1)
  rw [ezb0_size] at h1
  exact Ex.cry h1 (Cry.ezb_mono w hl _) (Nat.le_refl _)
def MIsQ (r : ResQ) (t : St) (i : Nat) (bad : Int) : Prop := match r with
  | .ok (t', j) => t = t' ∧ bad = -1 ∧ i = j
  | .error a => bad = a ∧ 0 ≤ a
def MIsB (r : ResB) (L : List St) (i : Nat) (bad : Int) : Prop := match r with
  | .ok (L', j) => L = L' ∧ bad = -1 ∧ i = j
  | .error a => bad = a ∧ 0 ≤ a
def MQOk (ts : List Tok) (en g : Nat) (A : Option Addr) (c : Nat) (w : World) (r : ResQ) (e : Ending) (w' : World) : Prop :=
  ∃ k s ek en' es A' l c' Bb lb cb C lc cc t j bad, e = .returned (.agg (sc k s ek en' es A' l c' Bb lb cb C lc cc).toArray) ∧ Rd8 (ezb w' w.heap.size) w'.heap.size (sc k s ek en' es A' l c' Bb lb cb C lc cc) (St.d t) ∧ w.grownBy w' (some g) ∧ Rdr w' g A c ts en j bad ∧ MIsQ r t j bad
def MBOk (ts : List Tok) (en g : Nat) (A : Option Addr) (c : Nat) (w : World) (r : ResB) (e : Ending) (w' : World) : Prop :=
  ∃ A' l c' L j bad, e = .returned (.slice A' l c') ∧ RowB w' w.heap.size A' l c' L ∧ w.grownBy w' (some g) ∧ Rdr w' g A c ts en j bad ∧ MIsB r L j bad
def MQP (ts : List Tok) (en g : Nat) (A : Option Addr) (c n : Nat) : Prop := ∀ m, m ≤ n → ∀ i w, Rdr w g A c ts en i (-1) → i ≤ ts.length → needQ ts i ≤ m → Calls Tryz.prog 84 #[.pointer (some ⟨g, 0, none⟩)] w (MQOk ts en g A c w (qz ts en m i))
def MKP (ts : List Tok) (en g : Nat) (A : Option Addr) (c n : Nat) : Prop := ∀ m, m ≤ n → ∀ i w, Rdr w g A c ts en i (-1) → i ≤ ts.length → needK ts i ≤ m → Calls Tryz.prog 125 #[.pointer (some ⟨g, 0, none⟩)] w (MBOk ts en g A c w (kz ts en m i))
theorem rdr_put {w : World} {g c en i R : Nat} {A : Option Addr} {ts : List Tok} {bad : Int} (h : Rdr w g A c ts en i bad) (hR : g < R) (cs : List Value) : Rdr (putN w R 0 cs) g A c ts en i bad :=
  h.far fun k hk => putN_far cs w R 0 k (by omega)
theorem mfin8 {w wx : World} {ts : List Tok} {g c en j : Nat} {A : Option Addr} {r : ResQ} {k ek en' : Int} {s es : List UInt8} {A' Bb C : Option Addr} {l c' lb cb lc cc lo' : Nat} {t : St} {bad : Int} {cs0 : List Value} (hB : Blk wx w.heap.size SI cs0) (hl : cs0.length = 8)
    (hr : Rd8 (ezb wx lo') wx.heap.size (sc k s ek en' es A' l c' Bb lb cb C lc cc) t.d) (hlo : w.heap.size < lo') (gb : w.grownBy wx (some g)) (hd : Rdr wx g A c ts en j bad) (hQ : MIsQ r t j bad) (hg : g < w.heap.size) :
    Blk (putN wx w.heap.size 0 (sc k s ek en' es A' l c' Bb lb cb C lc cc)) w.heap.size SI (sc k s ek en' es A' l c' Bb lb cb C lc cc) ∧
      MQOk ts en g A c w r (.returned (.agg (sc k s ek en' es A' l c' Bb lb cb C lc cc).toArray)) (putN wx w.heap.size 0 (sc k s ek en' es A' l c' Bb lb cb C lc cc)) := by
  have h1 := putN_blk (sc k s ek en' es A' l c' Bb lb cb C lc cc) 0 hB
  rw [setM_all (cs0 := cs0) (by rw [hl]; rfl)] at h1
  have hz := putN_size (sc k s ek en' es A' l c' Bb lb cb C lc cc) wx w.heap.size 0
  have hbl := putN_below (sc k s ek en' es A' l c' Bb lb cb C lc cc) (B := w.heap.size) 0 (Below.refl w.heap.size wx) (Nat.le_refl _)
  have hpg : wx.grownBy (putN wx w.heap.size 0 (sc k s ek en' es A' l c' Bb lb cb C lc cc)) (some w.heap.size) := ⟨hbl.os, hbl.tape, hbl.output, hbl.size, fun q _ hne => putN_far _ _ _ _ _ fun e => hne (by rw [e])⟩
  exact ⟨h1, k, s, ek, en', es, A', l, c', Bb, lb, cb, C, lc, cc, t, j, bad, rfl, hr.cry (cry_keep hlo (Nat.le_of_lt hlo) hpg) hpg.size,
    ⟨hbl.os.trans gb.os, hbl.tape.trans gb.tape, hbl.output.trans gb.output, Nat.le_trans gb.size hbl.size, fun q h1 h2 => (hbl.block q h1).trans (gb.block q h1 h2)⟩, rdr_put hd hg _, hQ⟩
theorem mbody_bad {ts : List Tok} {en g c : Nat} {A : Option Addr} (i : Nat) (bad : Int) (w : World) (h : Rdr w g A c ts en i bad) (hb0 : 0 ≤ bad) : Calls Tryz.prog 125 #[.pointer (some ⟨g, 0, none⟩)] w (MBOk ts en g A c w (.error bad)) := by
  have hgl := h.lt
  have hb1 := box_below w (.cells #[] SI)
  have z1 := size_alloc' w (.cells #[] SI)
  have G1 := GrowD.lit0 w 1 (Nat.le_refl w.heap.size)
  have h1 := h.below hb1
  have t1 : decide (bad < 0) = false := decide_eq_false (by omega)
  have m1 := hid (mtake_bad g A c ts en i bad [123] _ h1 hb0)
  have m2 := hid (fun w1 (h1 : Rdr w1 g A c ts en i bad) => mtake_bad g A c ts en i bad [125] w1 h1 hb0)
  replace G1 := hid G1
  replace h1 := hid h1
  have hb1 := hid hb1
  clear h
  go_enter Tryz.func125, Tryz.ntmps125
  go_wp2_with fail
  have hty : (tyI 1) = SI := rfl
  simp only [hty] at G1
  generalize (w.alloc (.cells #[] SI)) = w1 at *
  refine m1.out.mono ?_
  rintro e w2 ⟨rfl, hb⟩
  have z2 := hb.size
  have G2 := hid (G1.out.below hb)
  have h2 := h1.out.below hb
  have hb2 := hid (hb1.out.trans (hb.mono (by omega)))
  obtain ⟨c0, c1, c2, c3⟩ := h2.cells
  replace h2 := hid h2
  clear hb m1 h1 hb1 G1
  go_wp2_with fail
  refine wp_loop_rounds 1 ?_; rw [rounds_succ]
  go_wp2_with fail
  clear c0 c1 c2 c3
  refine (m2.out w2 h2.out).mono ?_
  rintro e w3 ⟨rfl, hb⟩
  have G3 := G2.out.below hb
  have h3 := hid (h2.out.below hb)
  have hb3 := hid (hb2.out.trans (hb.mono hb2.out.size))
  obtain ⟨A3, c4, rows, e4, h5, h6, h7⟩ := G3.rd
  injection e4 with e4 e7 e5
  subst e4 e5
  clear e7
  have hR := hid (show RowB w3 w.heap.size (some ⟨w.heap.size, 0, none⟩) 0 0 [] from ⟨rfl, h5, by simp, rows, h6⟩)
  clear hb G2 G3 h2 hb2 m2 h5 h6 h7
  go_wp2_with fail
  exact bodyPost_ret (results_tmp (t := 2) rfl _ _ _) rfl ⟨_, _, _, [], i, bad, rfl, hR.out, below_gb hb3.out, h3.out, rfl, hb0⟩
theorem mz_snoc {ts : List Tok} {en : Nat} {stop : Nat → Bool} {n i j : Nat} {R : ResB} {acc : List St} {s : St} (h : R = match mz ts en stop (n + 1) i with
    | .error a => .error a
    | .ok (L, k) => .ok (acc ++ L, k)) (hs : stop i = false) (hq : qz ts en n i = .ok (s, j)) : R = match mz ts en stop n j with
    | .error a => .error a
    | .ok (L, k) => .ok ((acc ++ [s]) ++ L, k) := by
  rw [h, mz, if_neg (by rw [hs]; simp), hq]
  simp only
  cases mz ts en stop n j with
  | error a => rfl
  | ok p => obtain ⟨L, k⟩ := p; simp
theorem mz_errs {ts : List Tok} {en : Nat} {stop : Nat → Bool} {n i : Nat} {R : ResB} {acc : List St} {a : Int} (h : R = match mz ts en stop (n + 1) i with
    | .error a => .error a
    | .ok (L, k) => .ok (acc ++ L, k)) (hs : stop i = false) (hq : qz ts en n i = .error a) : R = .error a := by
  rw [h, mz, if_neg (by rw [hs]; simp), hq]
theorem mz_stop {ts : List Tok} {en : Nat} {stop : Nat → Bool} {n i : Nat} {R : ResB} {acc : List St} (h : R = match mz ts en stop (n + 1) i with
    | .error a => .error a
    | .ok (L, k) => .ok (acc ++ L, k)) (hs : stop i = true) : R = .ok (acc, i) := by
  rw [h, mz, if_pos hs]; simp
theorem mbody_any {ts : List Tok} {en g c n : Nat} {A : Option Addr} (hp : ∀ t ∈ ts, 0 ≤ t.p) (h63 : ts.length ≤ 150) (hqp : MQP ts en g A c n) : MKP ts en g A c (n + 1) := by
  intro m hm i0 w h hi0 hn
  obtain ⟨m, rfl⟩ : ∃ k, m = k + 1 := ⟨m - 1, by unfold needK at hn; omega⟩
  have hgl := h.lt
  have hb1 := box_below w (.cells #[] SI)
  have z1 := size_alloc' w (.cells #[] SI)
  have G1 : GrowD (w.alloc (.cells #[] SI)) w.heap.size 1 (.slice (some ⟨w.heap.size, 0, none⟩) 0 0) (dl []) := GrowD.lit0 w 1 (Nat.le_refl w.heap.size)
  have h1 := h.below hb1
  have m1 := mtake_any g A c ts en i0 [123] _ h1 hi0 (by omega)
  have hkz := kz_mz ts en m i0 hn
  obtain ⟨R, hR⟩ : ∃ R, R = kz ts en (m + 1) i0 := ⟨_, rfl⟩
  rw [← hR] at hkz ⊢
  have ha0 := errAt_nn hp en i0
  replace G1 := hid G1
  have hb1 := hid hb1
  clear h h1 hR
  cases hs : seesB ts i0 [123] with
  | false =>
    rw [hs] at m1 hkz
    rw [if_neg (by simp)] at hkz
    generalize errAt ts en i0 = bad at *
    have t1 : decide (bad < 0) = false := decide_eq_false (by omega)
    have m2 := hid (fun w1 (h1 : Rdr w1 g A c ts en i0 bad) => mtake_bad g A c ts en i0 bad [125] w1 h1 ha0)
    replace m1 := hid m1
    replace hkz := hid hkz
    clear hs hqp hn
    go_enter Tryz.func125, Tryz.ntmps125
    go_wp2_with fail
    generalize (w.alloc (.cells #[] SI)) = w1 at *
    refine m1.out.mono ?_
    rintro e w2 ⟨rfl, h2, g2⟩
    have h2 : Rdr w2 g A c ts en i0 bad := h2
    have z2 := g2.size
    have G2 := hid (G1.out.keep hgl g2)
    have B2 := hid (gb_trans (below_gb (h := g) hb1.out) g2)
    obtain ⟨c0, c1, c2, c3⟩ := h2.cells
    replace h2 := hid h2
    clear g2 m1 hb1 G1
    go_wp2_with fail
    refine wp_loop_rounds 1 ?_; rw [rounds_succ]
    go_wp2_with fail
    clear c0 c1 c2 c3
    refine (m2.out w2 h2.out).mono ?_
    rintro e w3 ⟨rfl, hb⟩
    have G3 := G2.out.below hb
    have h3 := hid (h2.out.below hb)
    have B3 := hid (gb_below B2.out hb)
    obtain ⟨A3, c4, rows, e4, h5, h6, h7⟩ := G3.rd
    injection e4 with e4 e7 e5
    subst e4 e5
    clear e7
    have hRo := hid (show RowB w3 w.heap.size (some ⟨w.heap.size, 0, none⟩) 0 0 [] from ⟨rfl, by simp, by simp, rows, h6⟩)
    clear hb G2 G3 h2 B2 m2 h5 h6 h7
    go_wp2_with fail
    exact bodyPost_ret (results_tmp (t := 2) rfl _ _ _) rfl ⟨_, _, _, [], i0, bad, rfl, hRo.out, B3.out, h3.out, by rw [hkz.out]; exact ⟨rfl, ha0⟩⟩
  | true =>
    have hil := sees_lt hs
    rw [hs] at m1 hkz
    rw [if_pos rfl] at hkz
    obtain ⟨R0, hR0⟩ : ∃ R0, R0 = mz ts en (fun j => seesB ts j [125]) m (i0 + 1) := ⟨_, rfl⟩
    rw [← hR0] at hkz
    have hst : R0 = match mz ts en (fun j => seesB ts j [125]) m (i0 + 1) with
        | .error a => .error a
        | .ok (L, k) => .ok (([] : List St) ++ L, k) := by
      rw [hR0]
      cases mz ts en (fun j => seesB ts j [125]) m (i0 + 1) <;> rfl
    have hnB : needB ts (i0 + 1) ≤ m := by unfold needK at hn; unfold needB; omega
    replace hst := hid hst
    replace m1 := hid m1
    replace hkz := hid hkz
    replace hqp := hid hqp
    have hmn : m ≤ n := by omega
    clear hs hn hR0 hm
    go_enter Tryz.func125, Tryz.ntmps125
    go_wp2_with fail
    generalize (w.alloc (.cells #[] SI)) = w1 at *
    refine m1.out.mono ?_
    rintro e w2 ⟨rfl, h2, g2⟩
    have h2 : Rdr w2 g A c ts en (i0 + 1) (-1) := h2
    have z2 := g2.size
    have G2 := hid (G1.out.keep hgl g2)
    have B2 := hid (gb_trans (below_gb (h := g) hb1.out) g2)
    replace h2 := hid h2
    clear g2 m1 hb1 G1
    go_wp2_with fail
    go_loopw [3] (fun v wr => ∃ (acc : List St) (i : Nat) (bad : Int), ((bad = -1 ∧ ∃ m', m' ≤ m ∧ Hid (R0 = match mz ts en (fun j => seesB ts j [125]) m' i with
          | .error a => .error a
          | .ok (L, k) => .ok (acc ++ L, k)) ∧ Hid (needB ts i ≤ m') ∧ i ≤ ts.length ∧ acc.length ≤ i) ∨ (0 ≤ bad ∧ Hid (R0 = .error bad))) ∧ GrowD wr w.heap.size 1 v (dl acc) ∧ w.grownBy wr (some g) ∧ Rdr wr g A c ts en i bad) (fun _ wr => mesM g (ts.length + 1) wr)
    case atStart => exact ⟨[], i0 + 1, -1, Or.inl ⟨rfl, m, Nat.le_refl _, hst, hid hnB, by omega, by simp⟩, G2.out, B2.out, h2.out⟩
    case round =>
      clear hst h2 G2 B2 hnB
      obtain ⟨acc, i, bad, hA, hK, hG1, hP⟩ := hrel
      have hrd := hK.rd
      obtain ⟨VA, vc, rows, rfl, hvc, hrow, hvm⟩ := hrd
      rw [dl_len] at *
      have hmes := hid (mesM_at hP (ts.length + 1))
      obtain ⟨c0, c1, c2, c3⟩ := hP.cells
      have zr := hG1.size
      rcases hA with ⟨rfl, m', hm', hRe, hnB, hil2, hal⟩ | ⟨hb0, hRe⟩
      · obtain ⟨m', rfl⟩ : ∃ k, m' = k + 1 := ⟨m' - 1, by have := hnB.out; unfold needB at this; omega⟩
        have hse := msees_any g A c ts en i [125] wr hP hil2
        cases hs : seesB ts i [125] with
        | true =>
          have hF := hid (mz_stop hRe.out hs)
          rw [hs] at hse
          replace hse := hid hse
          have hmt := hid (fun w1 (h1 : Rdr w1 g A c ts en i (-1)) => mtake_any g A c ts en i [125] w1 h1 hil2 (by omega))
          rw [hs] at hmt
          replace hP := hid hP
          replace hK := hid hK
          replace hG1 := hid hG1
          clear hRe hs hrow hqp
          go_wp2_with fail
          refine hse.out.mono ?_
          rintro e w3 ⟨rfl, hb⟩
          have K3 := hid (hK.out.below hb)
          have G3 := hid (gb_below hG1.out hb)
          have P3 := hid (hP.out.below hb)
          clear hb hse hK hG1 hP c0 c1 c2 c3
          go_wp2_with fail
          refine (hmt.out w3 P3.out).mono ?_
          rintro e w4 ⟨rfl, h4, g4⟩
          have h4 := hid (show Rdr w4 g A c ts en (i + 1) (-1) from h4)
          have K4 := K3.out.keep hgl g4
          have G4 := hid (gb_trans G3.out g4)
          obtain ⟨A5, c5, rows5, e5, h5, h6, h7⟩ := K4.rd
          injection e5 with e5 e7 e6
          subst e5 e6
          clear e7
          have hRo := hid (show RowB w4 w.heap.size VA acc.length vc acc from ⟨rfl, by rw [dl_len] at h5; exact h5, by rw [dl_len] at h7; exact h7, rows5, h6⟩)
          clear g4 K3 K4 G3 P3 hmt h5 h6 h7
          go_wp2_with fail
          exact bodyPost_ret (results_tmp (t := 2) rfl _ _ _) rfl ⟨_, _, _, acc, i + 1, -1, rfl, hRo.out, G4.out, h4.out, by rw [hkz.out, hF.out]; exact ⟨rfl, rfl, rfl⟩⟩
        | false =>
          have hqc := hid (fun w1 (h1 : Rdr w1 g A c ts en i (-1)) => hqp.out m' (by omega) i w1 h1 hil2 (by have := hnB.out; unfold needB at this; unfold needQ; omega))
          have hsn := hid (fun s j (hq : qz ts en m' i = .ok (s, j)) => mz_snoc hRe.out hs hq)
          have her := hid (fun a (hq : qz ts en m' i = .error a) => mz_errs hRe.out hs hq)
          have hadv := hid (fun s j (hq : qz ts en m' i = .ok (s, j)) => (adv_all ts en m').1 i s j hq)
          rw [hs] at hse
          replace hse := hid hse
          obtain ⟨r, hr⟩ : ∃ r, r = qz ts en m' i := ⟨_, rfl⟩
          rw [← hr] at hqc hsn her hadv
          have hl6 : (dl acc).length < 1000000 := by rw [dl_len]; omega
          replace hP := hid hP
          replace hK := hid hK
          replace hG1 := hid hG1
          clear hRe hs hrow hr
          go_wp2_with fail
          refine hse.out.mono ?_
          rintro e w3 ⟨rfl, hb⟩
          have z3 := hb.size
          have K3 := hid (hK.out.below hb)
          have G3 := hid (gb_below hG1.out hb)
          have hcl := hid (hqc.out w3 (hP.out.below hb))
          clear hb hse hK hG1 hP c0 c1 c2 c3 hqc
          go_wp2_with fail
          refine hcl.out.mono ?_
          rintro e w4 ⟨k, s, ek, en', es, A', l', c', Bb, lb, cb, C, lc, cc', t, j, bad, rfl, hr8, g4, h4, hM⟩
          have z4 := g4.size
          have hown := fun b (h : (Value.slice VA acc.length vc).ownBlock = some b) => K3.out.own h
          have K4 := hid (K3.out.keep hgl g4)
          have G4 := hid (gb_trans G3.out g4)
          have r4 := hid (hr8.cry (Cry.later (lo := w.heap.size) (o := (Value.slice VA acc.length vc).ownBlock) (by omega) (fun b h => (hown b h).2) w4.heap.size) (Nat.le_refl _))
          have P4 := hid h4
          clear hr8 g4 h4 hcl K3 G3
          go_wp2_with (at_builtin; refine GrowD.app K4.out (by omega) (sc k s ek en' es A' l' c' Bb lb cb C lc cc') t.d rfl r4.out hl6 stT9m zeroSt rfl (by omega) rfl _ _ rfl rfl _ rfl rfl ?_; intro v5 w5 hK5 hg5)
          go_wp2_with fail
          have hK5' : GrowD w5 w.heap.size 1 v5 (dl (acc ++ [t])) := by simpa [dl] using hK5
          have z5 := hg5.size
          have hP5 : Rdr w5 g A c ts en j bad := P4.out.far fun q hq => hg5.block q (by omega) fun e => by have := (hown q e.symm).1; omega
          have hG5 : w.grownBy w5 (some g) := ⟨hg5.os.trans G4.out.os, hg5.tape.trans G4.out.tape, hg5.output.trans G4.out.output, by omega, fun q h1 h2 => (hg5.block q (by omega) fun e => by have := (hown q e.symm).1; omega).trans (G4.out.block q h1 h2)⟩
          have hM5 := mesM_at hP5 (ts.length + 1)
          rcases r with a | ⟨t', j'⟩
          · obtain ⟨rfl, ha⟩ := hM
            refine ⟨⟨acc ++ [t], j, bad, Or.inr ⟨ha, hid (her.out bad rfl)⟩, hK5', hG5, hP5⟩, ?_⟩
            rw [hmes.out, hM5, if_neg (by omega), if_pos (by omega)]; omega
          · obtain ⟨rfl, rfl, rfl⟩ := hM
            obtain ⟨q1, q2, -, -, -⟩ := hadv.out t j rfl
            refine ⟨⟨acc ++ [t], j, -1, Or.inl ⟨rfl, m', by omega, hid (hsn.out t j rfl), hid (by have := hnB.out; unfold needB at this ⊢; omega), q2, by simp; omega⟩, hK5', hG5, hP5⟩, ?_⟩
            rw [hmes.out, hM5, if_pos (by omega), if_pos (by omega)]; omega
      · have t1 : decide (bad < 0) = false := decide_eq_false (by omega)
        have m2 := hid (fun w1 (h1 : Rdr w1 g A c ts en i bad) => mtake_bad g A c ts en i bad [125] w1 h1 hb0)
        replace hP := hid hP
        replace hK := hid hK
        replace hG1 := hid hG1
        clear hrow hqp
        go_wp2_with fail
        clear c0 c1 c2 c3
        refine (m2.out wr hP.out).mono ?_
        rintro e w3 ⟨rfl, hb⟩
        have G3 := hK.out.below hb
        have h3 := hid (hP.out.below hb)
        have B3 := hid (gb_below hG1.out hb)
        obtain ⟨A5, c5, rows5, e5, h5, h6, h7⟩ := G3.rd
        injection e5 with e5 e7 e6
        subst e5 e6
        clear e7
        have hRo := hid (show RowB w3 w.heap.size VA acc.length vc acc from ⟨rfl, by rw [dl_len] at h5; exact h5, by rw [dl_len] at h7; exact h7, rows5, h6⟩)
        clear hb hK hP hG1 G3 m2 h5 h6 h7
        go_wp2_with fail
        exact bodyPost_ret (results_tmp (t := 2) rfl _ _ _) rfl ⟨_, _, _, acc, i, bad, rfl, hRo.out, B3.out, h3.out, by rw [hkz.out, hRe.out]; exact ⟨rfl, hb0⟩⟩
def St9 (r : Except Int Nat) (j : Nat) (bad : Int) : Prop := match r with
  | .ok j' => j = j' ∧ bad = -1
  | .error a => bad = a ∧ 0 ≤ a
def posR {α : Type} (r : Except Int (α × Nat)) : Except Int Nat := match r with
  | .error a => .error a
  | .ok p => .ok p.2
theorem mis_st {r : Res} {t : T} {j : Nat} {bad : Int} (h : MIs r t j bad) : St9 (posR r) j bad := by
  rcases r with a | ⟨t', j'⟩
  · exact h
  · exact ⟨h.2.2, h.2.1⟩
theorem misB_st {r : ResB} {t : List St} {j : Nat} {bad : Int} (h : MIsB r t j bad) : St9 (posR r) j bad := by
  rcases r with a | ⟨t', j'⟩
  · exact h
  · exact ⟨h.2.2, h.2.1⟩
def lvR (ts : List Tok) (en : Nat) (r : Except Int Nat) : Res := match r with
  | .error a => .error a
  | .ok j' => pz ts en 2000 1 j'
def bdR (ts : List Tok) (en m : Nat) (r : Except Int Nat) : ResB := match r with
  | .error a => .error a
  | .ok j' => kz ts en m j'
def gzR (ts : List Tok) (en m : Nat) (q : Int) (r : Res) : ResQ := match r with
  | .error a => .error a
  | .ok (e, j) => match kz ts en m j with
    | .error a => .error a
    | .ok (L, k) => .ok (.mk q [] e L [], k)
def tkR (ts : List Tok) (en : Nat) (S : List UInt8) (r : Except Int Nat) : Except Int Nat := match r with
  | .error a => .error a
  | .ok j => if seesB ts j S = true then .ok (j + 1) else .error (errAt ts en j)
section
variable {ts : List Tok} {en g c : Nat} {A : Option Addr}
theorem take9 (hp : ∀ t ∈ ts, 0 ≤ t.p) (h63 : ts.length ≤ 150) {r : Except Int Nat} {j : Nat} {bad : Int} (S : List UInt8) (h : St9 r j bad) (hle : ∀ j', r = .ok j' → j' ≤ ts.length) (w : World) (hr : Rdr w g A c ts en j bad) :
    Calls Tryz.prog 81 #[.pointer (some ⟨g, 0, none⟩), .string ⟨S.toArray⟩] w fun e w' => ∃ j2 b2, e = .returned (.tuple #[]) ∧ Stp w g A c ts en j2 b2 w' ∧ St9 (tkR ts en S r) j2 b2 := by
  rcases r with a | j'
  · obtain ⟨rfl, ha⟩ := h
    refine (mtake_bad g A c ts en j bad S w hr ha).mono ?_
    rintro e w' ⟨rfl, hb⟩
    exact ⟨j, bad, rfl, hr.stp hb, rfl, ha⟩
  · obtain ⟨rfl, rfl⟩ := h
    refine (mtake_any g A c ts en j S w hr (hle j rfl) (by omega)).mono ?_
    rintro e w' ⟨rfl, hs⟩
    refine ⟨_, _, rfl, hs, ?_⟩
    show St9 (if seesB ts j S = true then .ok (j + 1) else .error (errAt ts en j)) _ _
    cases seesB ts j S with
    | true => exact ⟨rfl, rfl⟩
    | false => exact ⟨rfl, errAt_nn hp en j⟩
theorem lev9 (hG : ∀ t ∈ ts, GoodT t) (hp : ∀ t ∈ ts, 0 ≤ t.p) (h63 : ts.length ≤ 150) {r : Except Int Nat} {j : Nat} {bad : Int} (h : St9 r j bad) (hle : ∀ j', r = .ok j' → j' ≤ ts.length) (w : World) (hr : Rdr w g A c ts en j bad) :
    Calls Tryz.prog 124 #[.pointer (some ⟨g, 0, none⟩), .int .i64 1] w (MOk ts en g A c w (lvR ts en r)) := by
  rcases r with a | j'
  · obtain ⟨rfl, ha⟩ := h
    exact mlevel_bad j bad w hr ha
  · obtain ⟨rfl, rfl⟩ := h
    exact (mparse_all hG hp (by omega) 2000).1 2000 (Nat.le_refl _) j w hr (hle j rfl) (by unfold need; omega)
theorem body9 {n : Nat} (hk : MKP ts en g A c n) (m : Nat) (hm : m ≤ n) {r : Except Int Nat} {j : Nat} {bad : Int} (h : St9 r j bad) (hle : ∀ j', r = .ok j' → j' ≤ ts.length ∧ needK ts j' ≤ m) (w : World) (hr : Rdr w g A c ts en j bad) :
    Calls Tryz.prog 125 #[.pointer (some ⟨g, 0, none⟩)] w (MBOk ts en g A c w (bdR ts en m r)) := by
  rcases r with a | j'
  · obtain ⟨rfl, ha⟩ := h
    exact mbody_bad j bad w hr ha
  · obtain ⟨rfl, rfl⟩ := h
    exact hk m hm j w hr (hle j rfl).1 (hle j rfl).2
def seR (ts : List Tok) (S : List UInt8) (r : Except Int Nat) : Bool := match r with
  | .error _ => false
  | .ok j => seesB ts j S
theorem sees9 {r : Except Int Nat} {j : Nat} {bad : Int} (S : List UInt8) (h : St9 r j bad) (hle : ∀ j', r = .ok j' → j' ≤ ts.length) (w : World) (hr : Rdr w g A c ts en j bad) :
    Calls Tryz.prog 82 #[.pointer (some ⟨g, 0, none⟩), .string ⟨S.toArray⟩] w fun e w' => e = .returned (.bool (seR ts S r)) ∧ Below w.heap.size w w' := by
  rcases r with a | j'
  · obtain ⟨rfl, ha⟩ := h
    exact msees_bad g A c ts en j bad S w hr ha
  · obtain ⟨rfl, rfl⟩ := h
    exact msees_any g A c ts en j S w hr (hle j rfl)
def nmR (ts : List Tok) (en i : Nat) : Except Int Nat := match nameAt ts i with
  | none => .error (errAt ts en i)
  | some _ => .ok (i + 1)
theorem name9 (hG : ∀ t ∈ ts, GoodT t) (hp : ∀ t ∈ ts, 0 ≤ t.p) (h63 : ts.length ≤ 150) (i : Nat) (hi : i ≤ ts.length) (w : World) (hr : Rdr w g A c ts en i (-1)) :
    Calls Tryz.prog 83 #[.pointer (some ⟨g, 0, none⟩)] w fun e w' => ∃ j2 b2, e = .returned (sv ((nameAt ts i).getD [])) ∧ Stp w g A c ts en j2 b2 w' ∧ St9 (nmR ts en i) j2 b2 := by
  unfold nmR
  rcases Nat.lt_or_ge i ts.length with hlt | hge
  · have h8 := good_len (hG _ (List.getElem_mem hlt))
    have hpp := hp _ (List.getElem_mem hlt)
    have hna : nameAt ts i = if nameB ts[i] = true then some ts[i].s else none := by
      unfold nameAt nameB
      rw [List.getElem?_eq_getElem hlt]
      simp
    have hea : errAt ts en i = ts[i].p := by unfold errAt; rw [List.getElem?_eq_getElem hlt]
    refine (mname_any g A c ts en i w hr hlt (by omega) (by omega)).mono ?_
    rintro e w' ⟨rfl, hs⟩
    rw [hna, hea]
    generalize nameB ts[i] = q at *
    cases q with
    | true => exact ⟨_, _, rfl, hs, rfl, rfl⟩
    | false => exact ⟨_, _, rfl, hs, rfl, hpp⟩
  · obtain rfl : i = ts.length := by omega
    have hna : nameAt ts ts.length = none := by unfold nameAt; rw [List.getElem?_eq_none (Nat.le_refl _)]
    rw [hna]
    refine (mname_end g A c ts en w hr).mono ?_
    rintro e w' ⟨rfl, hs⟩
    exact ⟨_, _, rfl, hs, rfl, errAt_nn hp en _⟩
theorem semi_is {mk : T → St} {r : Res} {t : T} {j j2 : Nat} {b b2 : Int} (hM : MIs r t j b) (h : St9 (tkR ts en [59] (posR r)) j2 b2) : MIsQ (semiR ts en mk r) (mk t) j2 b2 := by
  unfold semiR
  rcases r with a | ⟨t', j'⟩
  · exact h
  · obtain ⟨rfl, -, rfl⟩ := hM
    unfold posR tkR at h
    simp only at h ⊢
    cases hs : seesB ts j [59] with
    | true => rw [hs, if_pos rfl] at h; exact ⟨rfl, h.2, h.1⟩
    | false => rw [hs, if_neg (by simp)] at h; exact h
end
theorem gz_is {ts : List Tok} {en m : Nat} {q : Int} {r : Res} {t : T} {j j2 : Nat} {b b2 : Int} {L : List St} (hM : MIs r t j b) (hB : MIsB (bdR ts en m (posR r)) L j2 b2) :
    MIsQ (gzR ts en m q r) (.mk q [] t L []) j2 b2 := by
  unfold gzR
  rcases r with a | ⟨t', j'⟩
  · exact hB
  · obtain ⟨rfl, -, rfl⟩ := hM
    unfold posR bdR at hB
    simp only at hB ⊢
    cases hk : kz ts en m j with
    | error a => rw [hk] at hB; exact hB
    | ok p =>
      obtain ⟨L', k⟩ := p
      rw [hk] at hB
      obtain ⟨rfl, h2, h3⟩ := hB
      exact ⟨rfl, h2, h3⟩
theorem gz_eq (ts : List Tok) (en m : Nat) (q : Int) (i : Nat) : gz ts en (m + 1) q i = gzR ts en m q (pz ts en 2000 1 i) := by
  rw [gz]
  unfold gzR
  cases pz ts en 2000 1 i with
  | error a => rfl
  | ok p =>
    obtain ⟨e, j⟩ := p
    simp only
    cases kz ts en m j <;> rfl
def chR2 (ts : List Tok) (en m m' : Nat) (r : Res) : ResQ := match gzR ts en m' 2 r with
  | .error a => .error a
  | .ok (s, j) =>
    if seesB ts j elseW = true then
      match kz ts en m (j + 1) with
      | .error a => .error a
      | .ok (L, k) => .ok (s.withElse L, k)
    else .ok (s, j)
theorem ch_is_f {ts : List Tok} {en m m' : Nat} {r : Res} {t : T} {j j2 : Nat} {b b2 : Int} {L : List St} (hM : MIs r t j b) (hB : MIsB (bdR ts en m' (posR r)) L j2 b2) (hs : seR ts elseW (posR (bdR ts en m' (posR r))) = false) :
    MIsQ (chR2 ts en m m' r) (.mk 2 [] t L []) j2 b2 := by
  unfold chR2 gzR
  rcases r with a | ⟨t', j'⟩
  · exact hB
  · obtain ⟨rfl, -, rfl⟩ := hM
    unfold posR bdR at hB hs
    simp only at hB hs ⊢
    cases hk : kz ts en m' j with
    | error a => rw [hk] at hB; exact hB
    | ok p =>
      obtain ⟨L', k⟩ := p
      rw [hk] at hB hs
      obtain ⟨rfl, h2, rfl⟩ := hB
      simp only
      rw [if_neg (show ¬ seesB ts j2 elseW = true from by
        have : seesB ts j2 elseW = false := hs
        rw [this]; simp)]
      exact ⟨rfl, h2, rfl⟩
theorem ch_is_t {ts : List Tok} {en m m' : Nat} {r : Res} {t : T} {j j2 : Nat} {b b2 : Int} {L : List St} (hM : MIs r t j b) (hB : MIsB (bdR ts en m' (posR r)) L j2 b2) (hs : seR ts elseW (posR (bdR ts en m' (posR r))) = true) :
    b2 = -1 ∧ j < j2 ∧ j2 < ts.length ∧ ∀ L6 j3 b3, MIsB (bdR ts en m (.ok (j2 + 1))) L6 j3 b3 → MIsQ (chR2 ts en m m' r) (.mk 2 [] t L L6) j3 b3 := by
  unfold chR2 gzR
  rcases r with a | ⟨t', j'⟩
  · cases hs
  · obtain ⟨rfl, -, rfl⟩ := hM
    unfold posR bdR at hB hs
    simp only at hB hs ⊢
    cases hk : kz ts en m' j with
    | error a => rw [hk] at hs; cases hs
    | ok p =>
      obtain ⟨L', k⟩ := p
      rw [hk] at hB hs
      obtain ⟨rfl, h2, rfl⟩ := hB
      have hs' : seesB ts j2 elseW = true := hs
      obtain ⟨⟨q1, q2, -⟩, q3, -⟩ := (adv_all ts en m').2.2.1 j L j2 hk
      refine ⟨h2, by omega, sees_lt hs', fun L6 j3 b3 hC => ?_⟩
      simp only
      rw [if_pos hs']
      unfold bdR at hC
      simp only at hC
      cases hk2 : kz ts en m (j2 + 1) with
      | error a => rw [hk2] at hC; exact hC
      | ok p =>
        obtain ⟨L7, k7⟩ := p
        rw [hk2] at hC
        obtain ⟨rfl, h5, rfl⟩ := hC
        exact ⟨rfl, h5, rfl⟩
theorem bd_le {ts : List Tok} {en m : Nat} {r : Except Int Nat} {j : Nat} (h : posR (bdR ts en m r) = .ok j) : j ≤ ts.length := by
  rcases r with a | i
  · cases h
  · unfold bdR posR at h
    simp only at h
    cases hk : kz ts en m i with
    | error a => rw [hk] at h; cases h
    | ok p =>
      obtain ⟨L, k⟩ := p
      rw [hk] at h
      cases h
      exact ((adv_all ts en m).2.2.1 i L _ hk).1.2.1
theorem mstmt_any {ts : List Tok} {en g c n : Nat} {A : Option Addr} (hG : ∀ t ∈ ts, GoodT t) (hp : ∀ t ∈ ts, 0 ≤ t.p) (h63 : ts.length ≤ 150) (hk : MKP ts en g A c n) : MQP ts en g A c (n + 1) := by
  intro m hm i w h hil hn
  obtain ⟨m, rfl⟩ : ∃ k, m = k + 1 := ⟨m - 1, by unfold needQ at hn; omega⟩
  have hgl := h.lt
  have hb1 := box_below w (.cells sz0.toArray SI)
  have z1 := size_alloc' w (.cells sz0.toArray SI)
  have B1 := hid (Blk.new w SI sz0)
  have G1 := hid (gb_below (gb_refl w (some g)) hb1)
  have h1 := h.below hb1
  have pzle : ∀ i0 e j', pz ts en 2000 1 i0 = .ok (e, j') → i0 < j' ∧ j' ≤ ts.length := fun i0 e j' hq => by
    have := (pz_adv ts en 2000).1 1 i0 e j' hq
    omega
  have hLv := hid (fun (r : Except Int Nat) (j : Nat) (bad : Int) (hs : St9 r j bad) (hle : ∀ j', r = .ok j' → j' ≤ ts.length) w1 (hr : Rdr w1 g A c ts en j bad) => lev9 hG hp h63 hs hle w1 hr)
  have hTk := hid (fun (r : Except Int Nat) (j : Nat) (bad : Int) (S : List UInt8) (hs : St9 r j bad) (hle : ∀ j', r = .ok j' → j' ≤ ts.length) w1 (hr : Rdr w1 g A c ts en j bad) => take9 hp h63 S hs hle w1 hr)
  have hSe := hid (fun (r : Except Int Nat) (j : Nat) (bad : Int) (S : List UInt8) (hs : St9 r j bad) (hle : ∀ j', r = .ok j' → j' ≤ ts.length) w1 (hr : Rdr w1 g A c ts en j bad) => sees9 S hs hle w1 hr)
  have hBo := hid (fun (q : Nat) (hq : q ≤ m) (r : Except Int Nat) (j : Nat) (bad : Int) (hs : St9 r j bad) (hle : ∀ j', r = .ok j' → j' ≤ ts.length ∧ needK ts j' ≤ q) w1 (hr : Rdr w1 g A c ts en j bad) => body9 hk q (by omega) hs hle w1 hr)
  have hNm := hid (fun w1 (hr : Rdr w1 g A c ts en i (-1)) => name9 hG hp h63 i hil w1 hr)
  have htk := fun S w1 (hr : Rdr w1 g A c ts en i (-1)) => msees_any g A c ts en i S w1 hr hil
  have hm4 : (ts.length - i) * 4 ≤ m := by unfold needQ at hn; omega
  obtain ⟨R, hR⟩ : ∃ R, R = qz ts en (m + 1) i := ⟨_, rfl⟩
  rw [← hR]
  replace h1 := hid h1
  clear hk hG hp
  cases s1 : seesB ts i emitW with
  | true =>
    have hil1 := sees_lt s1
    have hRe := hid (show R = semiR ts en (fun e => .mk 4 [] e [] []) (pz ts en 2000 1 (i + 1)) by
      rw [hR, qz, if_pos s1]; unfold semiR
      cases pz ts en 2000 1 (i + 1) <;> rfl)
    have t1 := htk emitW _ h1.out
    rw [s1] at t1
    replace t1 := hid t1
    clear h hb1 hR s1 htk hn hm hSe hBo hNm
    go_enter Tryz.func84, Tryz.ntmps84
    go_wp2_with fail
    generalize (w.alloc (.cells sz0.toArray SI)) = w1 at *
    refine t1.out.mono ?_
    rintro e w2 ⟨rfl, hb⟩
    have z2 := hb.size
    have h2 := hid (h1.out.below hb)
    have B2 := hid (B1.out.below hb B1.out.lt)
    have G2 := hid (gb_below G1.out hb)
    clear hb B1 G1 h1
    clear t1
    obtain ⟨c0, c1, c2, c3⟩ := h2.out.cells
    have f1 := h2.out.blk.frozen 1
    have n2 := h2.out.next
    have B3 := hid (B2.out.gb n2.2 (by omega))
    have G3 := hid (gb_trans G2.out n2.2)
    have z3 : (w2.setCell ⟨g, 1, none⟩ (.int .i64 ((i : Int) + 1))).heap.size = w2.heap.size := by simp [World.setCell]
    have h3 := hid n2.1
    clear c0 c2 c3 n2 h2 B2 G2
    go_wp2_with fail
    generalize (w2.setCell ⟨g, 1, none⟩ (.int .i64 ((i : Int) + 1))) = w3 at *
    clear c1 f1
    have hcl := hid (hLv.out (.ok (i + 1)) _ _ ⟨rfl, rfl⟩ (fun _ e => by cases e; omega) w3 h3.out)
    refine hcl.out.mono ?_
    rintro e w4 ⟨K, N, s, B, L, cc, t, j, bad, rfl, o4, g4, h4, hM⟩
    have z4 := g4.size
    have B4 := hid (B3.out.gb g4 (by omega))
    have G4 := hid (gb_trans G3.out g4)
    have h4 := hid h4
    have o4 := hid o4
    clear g4 hcl B3 G3 h3
    obtain ⟨r, hr⟩ : ∃ r, r = pz ts en 2000 1 (i + 1) := ⟨_, rfl⟩
    have hM := hid (show MIs r t j bad by rw [hr]; exact hM)
    have hple := hid (fun j' (hq : posR r = .ok j') => show i + 1 < j' ∧ j' ≤ ts.length by
      rw [hr] at hq
      cases hz : pz ts en 2000 1 (i + 1) with
      | error a => rw [hz] at hq; cases hq
      | ok p => obtain ⟨e, j0⟩ := p; rw [hz] at hq; cases hq; exact pzle _ _ _ hz)
    have hRe := hid (show R = semiR ts en (fun e => .mk 4 [] e [] []) r by rw [hr]; exact hRe.out)
    clear hr pzle
    have b5 := box_below w4 (.cells (sc 4 [] K N s B L cc none 0 0 none 0 0).toArray SI)
    have z5 := size_alloc' w4 (.cells (sc 4 [] K N s B L cc none 0 0 none 0 0).toArray SI)
    have X5 := hid (Blk.new w4 SI (sc 4 [] K N s B L cc none 0 0 none 0 0))
    have B5 := hid (B4.out.below b5 B4.out.lt)
    have G5 := hid (gb_below G4.out b5)
    have h5 := hid (h4.out.below b5)
    have o5 := hid (o4.out.same (same_below b5 (Nat.le_refl _)))
    clear o4
    clear b5 B4 G4 h4
    go_wp2_with fail
    generalize (w4.alloc (.cells (sc 4 [] K N s B L cc none 0 0 none 0 0).toArray SI)) = w5 at *
    refine (hTk.out (posR r) _ _ [59] (mis_st hM.out) (fun j' e => (hple.out j' e).2) w5 h5.out).mono ?_
    rintro e w6 ⟨j2, b2, rfl, ⟨h6, g6⟩, hS2⟩
    have z6 := g6.size
    have B6 := hid (B5.out.gb g6 (by omega))
    have G6 := hid (gb_trans G5.out g6)
    have h6 := hid h6
    have X6 := hid (X5.out.gb g6 (by omega))
    have o6 := hid (o5.out.same fun q h1 h2 => g6.block q (by omega) (by simp; omega))
    clear g6 B5 G5 h5 X5 o5
    have hq := hid (show MIsQ R (.mk 4 [] t [] []) j2 b2 by rw [hRe.out]; exact semi_is hM.out hS2)
    clear hS2 hM hRe hple hLv hTk
    have hrd := rd_st (bs := []) (es := []) (cb := 0) (cc := 0) (k := 4) (s := []) (by simp) (ownx_ex o6.out (show w.heap.size + 1 ≤ w3.heap.size by omega)) (row_none _ _) (by simp) (by simp) (row_none _ _) (by simp) (by simp)
    have hf := mfin8 B6.out rfl hrd (Nat.lt_succ_self _) G6.out h6.out hq.out hgl
    have hf1 := hid hf.1
    have hf2 := hid hf.2
    obtain ⟨k0, k1, k2, k3, k4, k5, k6, k7⟩ := eight X6.out
    obtain ⟨r0, r1, r2, r3, r4, r5, r6, r7⟩ := eight B6.out
    have y0 := B6.out.frozen 0
    have y1 := B6.out.frozen 1
    have y2 := B6.out.frozen 2
    have y3 := B6.out.frozen 3
    have y4 := B6.out.frozen 4
    have y5 := B6.out.frozen 5
    have y6 := B6.out.frozen 6
    have y7 := B6.out.frozen 7
    clear hf hrd X6 B6 G6 h6 o6
    go_wp2_with fail
    exact bodyPost_ret (results_cell_row Tryz.results84 _ _ w.heap.size SI _ (0, 0) _ rfl hf1.out Tryz.underlying60 rfl (by kernel_rfl)) rfl hf2.out
  | false =>
    have t1 := htk emitW _ h1.out
    rw [s1] at t1
    replace t1 := hid t1
    cases s2 : seesB ts i whileW with
    | true =>
      have hil1 := sees_lt s2
      obtain ⟨m', rfl⟩ : ∃ k, m = k + 1 := ⟨m - 1, by omega⟩
      have hRe := hid (show R = gzR ts en m' 3 (pz ts en 2000 1 (i + 1)) by rw [hR, qz, if_neg (by rw [s1]; simp), if_pos s2, gz_eq])
      have t2 := hid (fun w1 (hq : Rdr w1 g A c ts en i (-1)) => htk whileW w1 hq)
      rw [s2] at t2
      clear h hb1 hR s1 s2 htk hn hm hSe hNm hTk
      go_enter Tryz.func84, Tryz.ntmps84
      go_wp2_with fail
      generalize (w.alloc (.cells sz0.toArray SI)) = w1 at *
      refine t1.out.mono ?_
      rintro e w2 ⟨rfl, hb⟩
      have z2 := hb.size
      have h2 := hid (h1.out.below hb)
      have B2 := hid (B1.out.below hb B1.out.lt)
      have G2 := hid (gb_below G1.out hb)
      clear hb B1 G1 h1
      clear t1
      go_wp2_with fail
      refine (t2.out w2 h2.out).mono ?_
      rintro e w3 ⟨rfl, hb⟩
      have z3 := hb.size
      have h3 := hid (h2.out.below hb)
      have B3 := hid (B2.out.below hb B2.out.lt)
      have G3 := hid (gb_below G2.out hb)
      clear hb B2 G2 h2
      clear t2
      obtain ⟨c0, c1, c2, c3⟩ := h3.out.cells
      have f1 := h3.out.blk.frozen 1
      have n3 := h3.out.next
      have B4 := hid (B3.out.gb n3.2 (by omega))
      have G4 := hid (gb_trans G3.out n3.2)
      have z4 : (w3.setCell ⟨g, 1, none⟩ (.int .i64 ((i : Int) + 1))).heap.size = w3.heap.size := by simp [World.setCell]
      have h4 := hid n3.1
      clear c0 c2 c3 n3 h3 B3 G3
      go_wp2_with fail
      generalize (w3.setCell ⟨g, 1, none⟩ (.int .i64 ((i : Int) + 1))) = w4 at *
      clear c1 f1
      have hcl := hid (hLv.out (.ok (i + 1)) _ _ ⟨rfl, rfl⟩ (fun _ e => by cases e; omega) w4 h4.out)
      refine hcl.out.mono ?_
      rintro e w5 ⟨K, N, s, B, L, cc, t, j, bad, rfl, o5, g5, h5, hM⟩
      have z5 := g5.size
      have B5 := hid (B4.out.gb g5 (by omega))
      have G5 := hid (gb_trans G4.out g5)
      have h5 := hid h5
      have o5 := hid o5
      clear g5 hcl B4 G4 h4
      obtain ⟨r, hr⟩ : ∃ r, r = pz ts en 2000 1 (i + 1) := ⟨_, rfl⟩
      have hM := hid (show MIs r t j bad by rw [hr]; exact hM)
      have hple := hid (fun j' (hq : posR r = .ok j') => show i + 1 < j' ∧ j' ≤ ts.length by
        rw [hr] at hq
        cases hz : pz ts en 2000 1 (i + 1) with
        | error a => rw [hz] at hq; cases hq
        | ok p => obtain ⟨e, j0⟩ := p; rw [hz] at hq; cases hq; exact pzle _ _ _ hz)
      have hRe := hid (show R = gzR ts en m' 3 r by rw [hr]; exact hRe.out)
      clear hr pzle
      have b6 := box_below w5 (.cells (sc 3 [] K N s B L cc none 0 0 none 0 0).toArray SI)
      have z6 := size_alloc' w5 (.cells (sc 3 [] K N s B L cc none 0 0 none 0 0).toArray SI)
      have X6 := hid (Blk.new w5 SI (sc 3 [] K N s B L cc none 0 0 none 0 0))
      have B6 := hid (B5.out.below b6 B5.out.lt)
      have G6 := hid (gb_below G5.out b6)
      have h6 := hid (h5.out.below b6)
      have o6 := hid (o5.out.same (same_below b6 (Nat.le_refl _)))
      clear o5
      clear b6 B5 G5 h5
      go_wp2_with fail
      generalize (w5.alloc (.cells (sc 3 [] K N s B L cc none 0 0 none 0 0).toArray SI)) = w6 at *
      have hcl := hid (hBo.out m' (by omega) (posR r) _ _ (mis_st hM.out) (fun j' e => ⟨(hple.out j' e).2, by have := hple.out j' e; unfold needK; omega⟩) w6 h6.out)
      refine hcl.out.mono ?_
      rintro e w7 ⟨A5, l5, c5, L5, j2, b2, rfl, RB, g7, h7, hB2⟩
      have RB := hid RB
      have z7 := g7.size
      have B7 := hid (B6.out.gb g7 (by omega))
      have G7 := hid (gb_trans G6.out g7)
      have h7 := hid h7
      have X7 := hid (X6.out.gb g7 (by omega))
      have o7 := hid (o6.out.same fun q h1 h2 => g7.block q (by omega) (by simp; omega))
      clear g7 B6 G6 h6 X6 o6
      clear hcl
      have e7 : w7.cell? ⟨w5.heap.size, 6, none⟩ = some (.slice none 0 0) := X7.out.cell 6
      have f7 := X7.out.frozen 6
      have lX := X7.out.lt
      have hne : ∀ q, q ≠ w5.heap.size → (w7.setCell ⟨w5.heap.size, 6, none⟩ (.slice A5 l5 c5)).heap[q]? = w7.heap[q]? := fun q hq => heap_setCell_other _ _ _ _ hq
      have z8 : (w7.setCell ⟨w5.heap.size, 6, none⟩ (.slice A5 l5 c5)).heap.size = w7.heap.size := by simp [World.setCell]
      have hgx : w7.grownBy (w7.setCell ⟨w5.heap.size, 6, none⟩ (.slice A5 l5 c5)) (some w5.heap.size) := gb_set (gb_refl _ _) 6 _
      have X8 := hid (show Blk (w7.setCell ⟨w5.heap.size, 6, none⟩ (.slice A5 l5 c5)) (w5.heap.size) SI (sc 3 [] K N s B L cc A5 l5 c5 none 0 0) from X7.out.set_ 6 (.slice A5 l5 c5))
      have B8 := hid (show Blk (w7.setCell ⟨w5.heap.size, 6, none⟩ (.slice A5 l5 c5)) w.heap.size SI sz0 from (hne _ (by omega)).trans B7.out)
      have G8 := hid (Dr.gb_new G7.out (show w.heap.size ≤ w5.heap.size by omega) 6 (.slice A5 l5 c5))
      have h8 := hid (h7.out.far (w' := (w7.setCell ⟨w5.heap.size, 6, none⟩ (.slice A5 l5 c5))) fun q hq => hne q (by omega))
      have o8 := hid (o7.out.same (w' := (w7.setCell ⟨w5.heap.size, 6, none⟩ (.slice A5 l5 c5))) fun q h1 h2 => hne q (by omega))
      have RB := hid (RB.out.keep (show w5.heap.size < w6.heap.size by omega) (Nat.le_refl _) hgx)
      clear hne hgx X7 B7 G7 h7 o7
      have hq := hid (show MIsQ R (.mk 3 [] t L5 []) j2 b2 by rw [hRe.out]; exact gz_is hM.out hB2)
      clear hB2 hM hRe hple hLv hBo
      obtain ⟨rfl, hl1, hl2, rows, hrow⟩ := RB.out
      have hrd := rd_st (bs := L5) (es := []) (cc := 0) (k := 3) (s := []) (by simp) (ownx_ex o8.out (show w.heap.size + 1 ≤ w4.heap.size by omega)) (hrow.cry (Cry.ezb_mono _ (show w.heap.size + 1 ≤ w6.heap.size by omega) _) (Nat.le_refl _)) hl2 hl1 (row_none _ _) (by simp) (by simp)
      have hf := mfin8 B8.out rfl hrd (Nat.lt_succ_self _) G8.out h8.out hq.out hgl
      have hf1 := hid hf.1
      have hf2 := hid hf.2
      obtain ⟨k0, k1, k2, k3, k4, k5, k6, k7⟩ := eight X8.out
      obtain ⟨r0, r1, r2, r3, r4, r5, r6, r7⟩ := eight B8.out
      have y0 := B8.out.frozen 0
      have y1 := B8.out.frozen 1
      have y2 := B8.out.frozen 2
      have y3 := B8.out.frozen 3
      have y4 := B8.out.frozen 4
      have y5 := B8.out.frozen 5
      have y6 := B8.out.frozen 6
      have y7 := B8.out.frozen 7
      clear hf hrd X8 B8 G8 h8 o8
      go_wp2_with fail
      exact bodyPost_ret (results_cell_row Tryz.results84 _ _ w.heap.size SI _ (0, 0) _ rfl hf1.out Tryz.underlying60 rfl (by kernel_rfl)) rfl hf2.out
    | false =>
      have t2 := hid (fun w1 (hq : Rdr w1 g A c ts en i (-1)) => htk whileW w1 hq)
      rw [s2] at t2
      cases s3 : seesB ts i ifW with
      | true =>
        have hil1 := sees_lt s3
        obtain ⟨m', rfl⟩ : ∃ k, m = k + 1 := ⟨m - 1, by omega⟩
        have hRe := hid (show R = chR2 ts en (m' + 1) m' (pz ts en 2000 1 (i + 1)) by
          rw [hR, qz, if_neg (by rw [s1]; simp), if_neg (by rw [s2]; simp), if_pos s3, gz_eq]
          unfold chR2
          cases gzR ts en m' 2 (pz ts en 2000 1 (i + 1)) with
          | error a => rfl
          | ok p =>
            obtain ⟨s, j⟩ := p
            simp only
            cases kz ts en (m' + 1) (j + 1) <;> rfl)
        have t3 := hid (fun w1 (hq : Rdr w1 g A c ts en i (-1)) => htk ifW w1 hq)
        rw [s3] at t3
        clear h hb1 hR s1 s2 s3 htk hn hm hNm hTk
        go_enter Tryz.func84, Tryz.ntmps84
        go_wp2_with fail
        generalize (w.alloc (.cells sz0.toArray SI)) = w1 at *
        refine t1.out.mono ?_
        rintro e w2 ⟨rfl, hb⟩
        have z2 := hb.size
        have h2 := hid (h1.out.below hb)
        have B2 := hid (B1.out.below hb B1.out.lt)
        have G2 := hid (gb_below G1.out hb)
        clear hb B1 G1 h1
        clear t1
        go_wp2_with fail
        refine (t2.out w2 h2.out).mono ?_
        rintro e w3 ⟨rfl, hb⟩
        have z3 := hb.size
        have h3 := hid (h2.out.below hb)
        have B3 := hid (B2.out.below hb B2.out.lt)
        have G3 := hid (gb_below G2.out hb)
        clear hb B2 G2 h2
        clear t2
        go_wp2_with fail
        refine (t3.out w3 h3.out).mono ?_
        rintro e w4 ⟨rfl, hb⟩
        have z4 := hb.size
        have h4 := hid (h3.out.below hb)
        have B4 := hid (B3.out.below hb B3.out.lt)
        have G4 := hid (gb_below G3.out hb)
        clear hb B3 G3 h3
        clear t3
        obtain ⟨c0, c1, c2, c3⟩ := h4.out.cells
        have f1 := h4.out.blk.frozen 1
        have n4 := h4.out.next
        have B5 := hid (B4.out.gb n4.2 (by omega))
        have G5 := hid (gb_trans G4.out n4.2)
        have z5 : (w4.setCell ⟨g, 1, none⟩ (.int .i64 ((i : Int) + 1))).heap.size = w4.heap.size := by simp [World.setCell]
        have h5 := hid n4.1
        clear c0 c2 c3 n4 h4 B4 G4
        go_wp2_with fail
        generalize (w4.setCell ⟨g, 1, none⟩ (.int .i64 ((i : Int) + 1))) = w5 at *
        clear c1 f1
        have hcl := hid (hLv.out (.ok (i + 1)) _ _ ⟨rfl, rfl⟩ (fun _ e => by cases e; omega) w5 h5.out)
        refine hcl.out.mono ?_
        rintro e w6 ⟨K, N, s, B, L, cc, t, j, bad, rfl, o6, g6, h6, hM⟩
        have z6 := g6.size
        have B6 := hid (B5.out.gb g6 (by omega))
        have G6 := hid (gb_trans G5.out g6)
        have h6 := hid h6
        have o6 := hid o6
        clear g6 hcl B5 G5 h5
        obtain ⟨r, hr⟩ : ∃ r, r = pz ts en 2000 1 (i + 1) := ⟨_, rfl⟩
        have hM := hid (show MIs r t j bad by rw [hr]; exact hM)
        have hple := hid (fun j' (hq : posR r = .ok j') => show i + 1 < j' ∧ j' ≤ ts.length by
          rw [hr] at hq
          cases hz : pz ts en 2000 1 (i + 1) with
          | error a => rw [hz] at hq; cases hq
          | ok p => obtain ⟨e, j0⟩ := p; rw [hz] at hq; cases hq; exact pzle _ _ _ hz)
        have hRe := hid (show R = chR2 ts en (m' + 1) m' r by rw [hr]; exact hRe.out)
        clear hr pzle
        have b7 := box_below w6 (.cells (sc 2 [] K N s B L cc none 0 0 none 0 0).toArray SI)
        have z7 := size_alloc' w6 (.cells (sc 2 [] K N s B L cc none 0 0 none 0 0).toArray SI)
        have X7 := hid (Blk.new w6 SI (sc 2 [] K N s B L cc none 0 0 none 0 0))
        have B7 := hid (B6.out.below b7 B6.out.lt)
        have G7 := hid (gb_below G6.out b7)
        have h7 := hid (h6.out.below b7)
        have o7 := hid (o6.out.same (same_below b7 (Nat.le_refl _)))
        clear o6
        clear b7 B6 G6 h6
        go_wp2_with fail
        generalize (w6.alloc (.cells (sc 2 [] K N s B L cc none 0 0 none 0 0).toArray SI)) = w7 at *
        have hcl := hid (hBo.out m' (by omega) (posR r) _ _ (mis_st hM.out) (fun j' e => ⟨(hple.out j' e).2, by have := hple.out j' e; unfold needK; omega⟩) w7 h7.out)
        refine hcl.out.mono ?_
        rintro e w8 ⟨A5, l5, c5, L5, j2, b2, rfl, RB, g8, h8, hB2⟩
        have RB := hid RB
        have z8 := g8.size
        have B8 := hid (B7.out.gb g8 (by omega))
        have G8 := hid (gb_trans G7.out g8)
        have h8 := hid h8
        have X8 := hid (X7.out.gb g8 (by omega))
        have o8 := hid (o7.out.same fun q h1 h2 => g8.block q (by omega) (by simp; omega))
        clear g8 B7 G7 h7 X7 o7
        clear hcl
        have e7 : w8.cell? ⟨w6.heap.size, 6, none⟩ = some (.slice none 0 0) := X8.out.cell 6
        have f7 := X8.out.frozen 6
        have lX := X8.out.lt
        have hne : ∀ q, q ≠ w6.heap.size → (w8.setCell ⟨w6.heap.size, 6, none⟩ (.slice A5 l5 c5)).heap[q]? = w8.heap[q]? := fun q hq => heap_setCell_other _ _ _ _ hq
        have z9 : (w8.setCell ⟨w6.heap.size, 6, none⟩ (.slice A5 l5 c5)).heap.size = w8.heap.size := by simp [World.setCell]
        have hgx : w8.grownBy (w8.setCell ⟨w6.heap.size, 6, none⟩ (.slice A5 l5 c5)) (some w6.heap.size) := gb_set (gb_refl _ _) 6 _
        have X9 := hid (show Blk (w8.setCell ⟨w6.heap.size, 6, none⟩ (.slice A5 l5 c5)) (w6.heap.size) SI (sc 2 [] K N s B L cc A5 l5 c5 none 0 0) from X8.out.set_ 6 (.slice A5 l5 c5))
        have B9 := hid (show Blk (w8.setCell ⟨w6.heap.size, 6, none⟩ (.slice A5 l5 c5)) w.heap.size SI sz0 from (hne _ (by omega)).trans B8.out)
        have G9 := hid (Dr.gb_new G8.out (show w.heap.size ≤ w6.heap.size by omega) 6 (.slice A5 l5 c5))
        have h9 := hid (h8.out.far (w' := (w8.setCell ⟨w6.heap.size, 6, none⟩ (.slice A5 l5 c5))) fun q hq => hne q (by omega))
        have o9 := hid (o8.out.same (w' := (w8.setCell ⟨w6.heap.size, 6, none⟩ (.slice A5 l5 c5))) fun q h1 h2 => hne q (by omega))
        have RB := hid (RB.out.keep (show w6.heap.size < w7.heap.size by omega) (Nat.le_refl _) hgx)
        clear hne hgx X8 B8 G8 h8 o8
        go_wp2_with fail
        clear e7 f7
        generalize (w8.setCell ⟨w6.heap.size, 6, none⟩ (.slice A5 l5 c5)) = w9 at *
        have hse := hSe.out _ _ _ elseW (misB_st hB2) (fun j' e => bd_le e) w9 h9.out
        cases hs4 : seR ts elseW (posR (bdR ts en m' (posR r))) with
        | false =>
          rw [hs4] at hse
          have hq := hid (show MIsQ R (.mk 2 [] t L5 []) j2 b2 by rw [hRe.out]; exact ch_is_f hM.out hB2 hs4)
          clear hB2 hM hRe hple hLv hBo hs4 hSe
          refine hse.mono ?_
          rintro e w10 ⟨rfl, hb⟩
          have z10 := hb.size
          have h10 := hid (h9.out.below hb)
          have B10 := hid (B9.out.below hb B9.out.lt)
          have G10 := hid (gb_below G9.out hb)
          have X10 := hid (X9.out.below hb X9.out.lt)
          have o10 := hid (o9.out.same (same_below hb (by have := X9.out.lt; omega)))
          have RB := hid (RB.out.keep (h := g) (show g < w7.heap.size by omega) (Nat.le_refl _) (below_gb hb))
          clear hb B9 G9 h9 X9 o9 hse
          obtain ⟨rfl, hl1, hl2, rows, hrow⟩ := RB.out
          have hrd := rd_st (bs := L5) (es := []) (cc := 0) (k := 2) (s := []) (by simp) (ownx_ex o10.out (show w.heap.size + 1 ≤ w5.heap.size by omega)) (hrow.cry (Cry.ezb_mono _ (show w.heap.size + 1 ≤ w7.heap.size by omega) _) (Nat.le_refl _)) hl2 hl1 (row_none _ _) (by simp) (by simp)
          have hf := mfin8 B10.out rfl hrd (Nat.lt_succ_self _) G10.out h10.out hq.out hgl
          have hf1 := hid hf.1
          have hf2 := hid hf.2
          obtain ⟨k0, k1, k2, k3, k4, k5, k6, k7⟩ := eight X10.out
          obtain ⟨r0, r1, r2, r3, r4, r5, r6, r7⟩ := eight B10.out
          have y0 := B10.out.frozen 0
          have y1 := B10.out.frozen 1
          have y2 := B10.out.frozen 2
          have y3 := B10.out.frozen 3
          have y4 := B10.out.frozen 4
          have y5 := B10.out.frozen 5
          have y6 := B10.out.frozen 6
          have y7 := B10.out.frozen 7
          clear hf hrd X10 B10 G10 h10 o10
          go_wp2_with fail
          exact bodyPost_ret (results_cell_row Tryz.results84 _ _ w.heap.size SI _ (0, 0) _ rfl hf1.out Tryz.underlying60 rfl (by kernel_rfl)) rfl hf2.out
        | true =>
          rw [hs4] at hse
          obtain ⟨rfl, hj1, hj2, hfin⟩ := ch_is_t (m := m' + 1) hM.out hB2 hs4
          have hj0 := hid (show ∀ j', posR r = .ok j' → i + 1 < j' by intro j' e; exact (hple.out j' e).1)
          have hjj := hid (show i + 1 < j by
            rcases r with a | ⟨t', j'⟩
            · cases hs4
            · have := hj0.out j' rfl
              obtain ⟨-, -, rfl⟩ := hM.out
              exact this)
          replace hfin := hid hfin
          clear hB2 hM hple hLv hs4 hSe hj0
          refine hse.mono ?_
          rintro e w10 ⟨rfl, hb⟩
          have z10 := hb.size
          have h10 := hid (h9.out.below hb)
          have B10 := hid (B9.out.below hb B9.out.lt)
          have G10 := hid (gb_below G9.out hb)
          have X10 := hid (X9.out.below hb X9.out.lt)
          have o10 := hid (o9.out.same (same_below hb (by have := X9.out.lt; omega)))
          have RB := hid (RB.out.keep (h := g) (show g < w7.heap.size by omega) (Nat.le_refl _) (below_gb hb))
          have lX := X10.out.lt
          clear hb B9 G9 h9 X9 o9 hse
          obtain ⟨c0, c1, c2, c3⟩ := h10.out.cells
          have f1 := h10.out.blk.frozen 1
          have n10 := h10.out.next
          have B11 := hid (B10.out.gb n10.2 (by omega))
          have G11 := hid (gb_trans G10.out n10.2)
          have X11 := hid (X10.out.gb n10.2 (by omega))
          have o11 := hid (o10.out.same fun q h1 h2 => n10.2.block q (by omega) (by simp; omega))
          have RB := hid (RB.out.keep (show g < w7.heap.size by omega) (Nat.le_refl _) n10.2)
          have z11 : (w10.setCell ⟨g, 1, none⟩ (.int .i64 ((j2 : Int) + 1))).heap.size = w10.heap.size := by simp [World.setCell]
          have h11 := hid n10.1
          clear c0 c2 c3 n10 h10 B10 G10 X10 o10
          go_wp2_with fail
          generalize (w10.setCell ⟨g, 1, none⟩ (.int .i64 ((j2 : Int) + 1))) = w11 at *
          clear c1 f1
          have hcl := hid (hBo.out (m' + 1) (Nat.le_refl _) (.ok (j2 + 1)) _ _ ⟨rfl, rfl⟩ (fun j' e => by cases e; exact ⟨by omega, by have := hjj.out; unfold needK; omega⟩) w11 h11.out)
          refine hcl.out.mono ?_
          rintro e w12 ⟨A6, l6, c6, L6, j3, b3, rfl, RC, g12, h12, hB3⟩
          have RC := hid RC
          have hgtRB : g < w7.heap.size := by omega
          have z12 := g12.size
          have B12 := hid (B11.out.gb g12 (by omega))
          have G12 := hid (gb_trans G11.out g12)
          have h12 := hid h12
          have X12 := hid (X11.out.gb g12 (by omega))
          have o12 := hid (o11.out.same fun q h1 h2 => g12.block q (by omega) (by simp; omega))
          have RB := hid (RB.out.keep hgtRB (Nat.le_refl _) g12)
          clear g12 B11 G11 h11 X11 o11
          clear hcl
          have e7 : w12.cell? ⟨w6.heap.size, 7, none⟩ = some (.slice none 0 0) := X12.out.cell 7
          have f7 := X12.out.frozen 7
          have lX := X12.out.lt
          have hne : ∀ q, q ≠ w6.heap.size → (w12.setCell ⟨w6.heap.size, 7, none⟩ (.slice A6 l6 c6)).heap[q]? = w12.heap[q]? := fun q hq => heap_setCell_other _ _ _ _ hq
          have z13 : (w12.setCell ⟨w6.heap.size, 7, none⟩ (.slice A6 l6 c6)).heap.size = w12.heap.size := by simp [World.setCell]
          have hgx : w12.grownBy (w12.setCell ⟨w6.heap.size, 7, none⟩ (.slice A6 l6 c6)) (some w6.heap.size) := gb_set (gb_refl _ _) 7 _
          have X13 := hid (show Blk (w12.setCell ⟨w6.heap.size, 7, none⟩ (.slice A6 l6 c6)) (w6.heap.size) SI (sc 2 [] K N s B L cc A5 l5 c5 A6 l6 c6) from X12.out.set_ 7 (.slice A6 l6 c6))
          have B13 := hid (show Blk (w12.setCell ⟨w6.heap.size, 7, none⟩ (.slice A6 l6 c6)) w.heap.size SI sz0 from (hne _ (by omega)).trans B12.out)
          have G13 := hid (Dr.gb_new G12.out (show w.heap.size ≤ w6.heap.size by omega) 7 (.slice A6 l6 c6))
          have h13 := hid (h12.out.far (w' := (w12.setCell ⟨w6.heap.size, 7, none⟩ (.slice A6 l6 c6))) fun q hq => hne q (by omega))
          have o13 := hid (o12.out.same (w' := (w12.setCell ⟨w6.heap.size, 7, none⟩ (.slice A6 l6 c6))) fun q h1 h2 => hne q (by omega))
          have RB := hid (RB.out.keep (show w6.heap.size < w7.heap.size by omega) (Nat.le_refl _) hgx)
          have RC := hid (RC.out.keep (show w6.heap.size < w11.heap.size by omega) (Nat.le_refl _) hgx)
          clear hne hgx X12 B12 G12 h12 o12
          have hq := hid (show MIsQ R (.mk 2 [] t L5 L6) j3 b3 by rw [hRe.out]; exact hfin.out L6 j3 b3 hB3)
          clear hB3 hfin hRe hBo
          obtain ⟨rfl, hl1, hl2, rows, hrow⟩ := RB.out
          obtain ⟨rfl, hn1, hn2, rows2, hrow2⟩ := RC.out
          have hrd := rd_st (bs := L5) (es := L6) (k := 2) (s := []) (by simp) (ownx_ex o13.out (show w.heap.size + 1 ≤ w5.heap.size by omega)) (hrow.cry (Cry.ezb_mono _ (show w.heap.size + 1 ≤ w7.heap.size by omega) _) (Nat.le_refl _)) hl2 hl1 (hrow2.cry (Cry.ezb_mono _ (show w.heap.size + 1 ≤ w11.heap.size by omega) _) (Nat.le_refl _)) hn2 hn1
          have hf := mfin8 B13.out rfl hrd (Nat.lt_succ_self _) G13.out h13.out hq.out hgl
          have hf1 := hid hf.1
          have hf2 := hid hf.2
          obtain ⟨k0, k1, k2, k3, k4, k5, k6, k7⟩ := eight X13.out
          obtain ⟨r0, r1, r2, r3, r4, r5, r6, r7⟩ := eight B13.out
          have y0 := B13.out.frozen 0
          have y1 := B13.out.frozen 1
          have y2 := B13.out.frozen 2
          have y3 := B13.out.frozen 3
          have y4 := B13.out.frozen 4
          have y5 := B13.out.frozen 5
          have y6 := B13.out.frozen 6
          have y7 := B13.out.frozen 7
          clear hf hrd X13 B13 G13 h13 o13
          go_wp2_with fail
          exact bodyPost_ret (results_cell_row Tryz.results84 _ _ w.heap.size SI _ (0, 0) _ rfl hf1.out Tryz.underlying60 rfl (by kernel_rfl)) rfl hf2.out
      | false =>
        have t3 := hid (fun w1 (hq : Rdr w1 g A c ts en i (-1)) => htk ifW w1 hq)
        rw [s3] at t3
        have hRe := hid (show R = semiR ts en (fun e => .mk 1 ((nameAt ts i).getD []) e [] []) (lvR ts en (tkR ts en [58, 61] (nmR ts en i))) by
          rw [hR, qz, if_neg (by rw [s1]; simp), if_neg (by rw [s2]; simp), if_neg (by rw [s3]; simp)]
          unfold nmR
          cases nameAt ts i with
          | none => rfl
          | some x =>
            simp only [tkR]
            by_cases hs : seesB ts (i + 1) [58, 61] = true
            · rw [if_pos hs, if_pos hs]
              unfold lvR semiR
              simp only
              cases pz ts en 2000 1 (i + 1 + 1) <;> rfl
            · rw [if_neg hs, if_neg hs]; rfl)
        have hnle := hid (fun j' (e : nmR ts en i = .ok j') => show j' ≤ ts.length by
          unfold nmR at e
          cases hx : nameAt ts i with
          | none => rw [hx] at e; cases e
          | some x => rw [hx] at e; cases e; exact nameAt_lt hx)
        have hn8 := hid (show ((nameAt ts i).getD []).length ≤ maxI by
          cases hx : nameAt ts i with
          | none => simp
          | some x => have := nameAt_len hx; show x.length ≤ maxI; unfold maxI; omega)
        have htle := hid (fun r0 j' (e : tkR ts en [58, 61] r0 = .ok j') => show j' ≤ ts.length by
          unfold tkR at e
          rcases r0 with a | k
          · cases e
          · simp only at e
            by_cases hs : seesB ts k [58, 61] = true
            · rw [if_pos hs] at e; cases e; exact sees_lt hs
            · rw [if_neg hs] at e; cases e)
        generalize nmR ts en i = r0 at *
        generalize (nameAt ts i).getD [] = nm at *
        clear h hb1 hR s1 s2 s3 htk hn hm hSe hBo
        go_enter Tryz.func84, Tryz.ntmps84
        go_wp2_with fail
        generalize (w.alloc (.cells sz0.toArray SI)) = w1 at *
        refine t1.out.mono ?_
        rintro e w2 ⟨rfl, hb⟩
        have z2 := hb.size
        have h2 := hid (h1.out.below hb)
        have B2 := hid (B1.out.below hb B1.out.lt)
        have G2 := hid (gb_below G1.out hb)
        clear hb B1 G1 h1
        clear t1
        go_wp2_with fail
        refine (t2.out w2 h2.out).mono ?_
        rintro e w3 ⟨rfl, hb⟩
        have z3 := hb.size
        have h3 := hid (h2.out.below hb)
        have B3 := hid (B2.out.below hb B2.out.lt)
        have G3 := hid (gb_below G2.out hb)
        clear hb B2 G2 h2
        clear t2
        go_wp2_with fail
        refine (t3.out w3 h3.out).mono ?_
        rintro e w4 ⟨rfl, hb⟩
        have z4 := hb.size
        have h4 := hid (h3.out.below hb)
        have B4 := hid (B3.out.below hb B3.out.lt)
        have G4 := hid (gb_below G3.out hb)
        clear hb B3 G3 h3
        clear t3
        go_wp2_with fail
        refine (hNm.out w4 h4.out).mono ?_
        rintro e w5 ⟨j1, b1, rfl, ⟨h5, g5⟩, hS1⟩
        have z5 := g5.size
        have B5 := hid (B4.out.gb g5 (by omega))
        have G5 := hid (gb_trans G4.out g5)
        have h5 := hid h5
        clear g5 B4 G4 h4
        replace hS1 := hid hS1
        have b6 := box_below w5 (.cells (sc 1 nm 0 0 [] none 0 0 none 0 0 none 0 0).toArray SI)
        have z6 := size_alloc' w5 (.cells (sc 1 nm 0 0 [] none 0 0 none 0 0 none 0 0).toArray SI)
        have X6 := hid (Blk.new w5 SI (sc 1 nm 0 0 [] none 0 0 none 0 0 none 0 0))
        have B6 := hid (B5.out.below b6 B5.out.lt)
        have G6 := hid (gb_below G5.out b6)
        have h6 := hid (h5.out.below b6)
        clear b6 B5 G5 h5
        go_wp2_with fail
        generalize (w5.alloc (.cells (sc 1 nm 0 0 [] none 0 0 none 0 0 none 0 0).toArray SI)) = w6 at *
        refine (hTk.out r0 _ _ [58, 61] hS1.out hnle.out w6 h6.out).mono ?_
        rintro e w7 ⟨j2, b2, rfl, ⟨h7, g7⟩, hS2⟩
        have z7 := g7.size
        have B7 := hid (B6.out.gb g7 (by omega))
        have G7 := hid (gb_trans G6.out g7)
        have h7 := hid h7
        have X7 := hid (X6.out.gb g7 (by omega))
        clear g7 B6 G6 h6 X6
        replace hS2 := hid hS2
        clear hS1 hnle
        go_wp2_with fail
        have lX := X7.out.lt
        refine (hLv.out (tkR ts en [58, 61] r0) _ _ hS2.out (htle.out r0) w7 h7.out).mono ?_
        rintro e w8 ⟨K, N, s, B, L, cc, t, j, bad, rfl, o8, g8, h8, hM⟩
        have o8 := hid o8
        have z8 := g8.size
        have B8 := hid (B7.out.gb g8 (by omega))
        have G8 := hid (gb_trans G7.out g8)
        have h8 := hid h8
        have X8 := hid (X7.out.gb g8 (by omega))
        clear g8 B7 G7 h7 X7
        replace hM := hid hM
        clear hS2 htle hLv hNm
        obtain ⟨k0, k1, k2, k3, k4, k5, k6, k7⟩ := eight X8.out
        have f2 := X8.out.frozen 2
        have f3 := X8.out.frozen 3
        have f4 := X8.out.frozen 4
        have f5 := X8.out.frozen 5
        have hne : ∀ q, q ≠ w5.heap.size → ((((w8.setCell ⟨w5.heap.size, 2, none⟩ (.int .i64 K)).setCell ⟨w5.heap.size, 3, none⟩ (.int .i64 N)).setCell ⟨w5.heap.size, 4, none⟩ (.string ⟨s.toArray⟩)).setCell ⟨w5.heap.size, 5, none⟩ (.slice B L cc)).heap[q]? = w8.heap[q]? := fun q hq => by rw [heap_setCell_other _ _ _ _ hq, heap_setCell_other _ _ _ _ hq, heap_setCell_other _ _ _ _ hq, heap_setCell_other _ _ _ _ hq]
        have z9 : ((((w8.setCell ⟨w5.heap.size, 2, none⟩ (.int .i64 K)).setCell ⟨w5.heap.size, 3, none⟩ (.int .i64 N)).setCell ⟨w5.heap.size, 4, none⟩ (.string ⟨s.toArray⟩)).setCell ⟨w5.heap.size, 5, none⟩ (.slice B L cc)).heap.size = w8.heap.size := by simp [World.setCell]
        have X9 := hid (show Blk ((((w8.setCell ⟨w5.heap.size, 2, none⟩ (.int .i64 K)).setCell ⟨w5.heap.size, 3, none⟩ (.int .i64 N)).setCell ⟨w5.heap.size, 4, none⟩ (.string ⟨s.toArray⟩)).setCell ⟨w5.heap.size, 5, none⟩ (.slice B L cc)) (w5.heap.size) SI (sc 1 nm K N s B L cc none 0 0 none 0 0) from (((X8.out.set_ 2 _).set_ 3 _).set_ 4 _).set_ 5 _)
        have B9 := hid (show Blk ((((w8.setCell ⟨w5.heap.size, 2, none⟩ (.int .i64 K)).setCell ⟨w5.heap.size, 3, none⟩ (.int .i64 N)).setCell ⟨w5.heap.size, 4, none⟩ (.string ⟨s.toArray⟩)).setCell ⟨w5.heap.size, 5, none⟩ (.slice B L cc)) w.heap.size SI sz0 from (hne _ (by omega)).trans B8.out)
        have G9 := hid (show w.grownBy ((((w8.setCell ⟨w5.heap.size, 2, none⟩ (.int .i64 K)).setCell ⟨w5.heap.size, 3, none⟩ (.int .i64 N)).setCell ⟨w5.heap.size, 4, none⟩ (.string ⟨s.toArray⟩)).setCell ⟨w5.heap.size, 5, none⟩ (.slice B L cc)) (some g) from Dr.gb_new (Dr.gb_new (Dr.gb_new (Dr.gb_new G8.out (show w.heap.size ≤ w5.heap.size by omega) 2 _) (show w.heap.size ≤ w5.heap.size by omega) 3 _) (show w.heap.size ≤ w5.heap.size by omega) 4 _) (show w.heap.size ≤ w5.heap.size by omega) 5 _)
        have h9 := hid (h8.out.far (w' := ((((w8.setCell ⟨w5.heap.size, 2, none⟩ (.int .i64 K)).setCell ⟨w5.heap.size, 3, none⟩ (.int .i64 N)).setCell ⟨w5.heap.size, 4, none⟩ (.string ⟨s.toArray⟩)).setCell ⟨w5.heap.size, 5, none⟩ (.slice B L cc))) fun q hq => hne q (by omega))
        have o9 := hid (o8.out.same (w' := ((((w8.setCell ⟨w5.heap.size, 2, none⟩ (.int .i64 K)).setCell ⟨w5.heap.size, 3, none⟩ (.int .i64 N)).setCell ⟨w5.heap.size, 4, none⟩ (.string ⟨s.toArray⟩)).setCell ⟨w5.heap.size, 5, none⟩ (.slice B L cc))) fun q h1 h2 => hne q (by omega))
        clear hne X8 B8 G8 h8 o8
        go_wp2_with fail
        clear k0 k1 k2 k3 k4 k5 k6 k7 f2 f3 f4 f5
        generalize ((((w8.setCell ⟨w5.heap.size, 2, none⟩ (.int .i64 K)).setCell ⟨w5.heap.size, 3, none⟩ (.int .i64 N)).setCell ⟨w5.heap.size, 4, none⟩ (.string ⟨s.toArray⟩)).setCell ⟨w5.heap.size, 5, none⟩ (.slice B L cc)) = w9 at *
        have hple := hid (fun j' (hq : posR (lvR ts en (tkR ts en [58, 61] r0)) = .ok j') => show j' ≤ ts.length by
          cases hz : tkR ts en [58, 61] r0 with
          | error a => rw [hz] at hq; cases hq
          | ok k =>
            rw [hz] at hq
            unfold lvR posR at hq
            simp only at hq
            cases hz2 : pz ts en 2000 1 k with
            | error a => rw [hz2] at hq; cases hq
            | ok p => obtain ⟨e, j0⟩ := p; rw [hz2] at hq; cases hq; exact (pzle _ _ _ hz2).2)
        obtain ⟨r, hr⟩ : ∃ r, r = lvR ts en (tkR ts en [58, 61] r0) := ⟨_, rfl⟩
        rw [← hr] at hM hRe hple
        clear hr pzle
        refine (hTk.out (posR r) _ _ [59] (mis_st hM.out) hple.out w9 h9.out).mono ?_
        rintro e w10 ⟨j3, b3, rfl, ⟨h10, g10⟩, hS3⟩
        have z10 := g10.size
        have B10 := hid (B9.out.gb g10 (by omega))
        have G10 := hid (gb_trans G9.out g10)
        have h10 := hid h10
        have X10 := hid (X9.out.gb g10 (by omega))
        have o10 := hid (o9.out.same fun q h1 h2 => g10.block q (by omega) (by simp; omega))
        clear g10 B9 G9 h9 X9 o9
        have hq := hid (show MIsQ R (.mk 1 nm t [] []) j3 b3 by rw [hRe.out]; exact semi_is (mk := fun e => .mk 1 nm e [] []) hM.out hS3)
        clear hS3 hM hRe hple hTk
        have hrd := rd_st (bs := []) (es := []) (cb := 0) (cc := 0) (k := 1) (s := nm) hn8.out (ownx_ex o10.out (show w.heap.size + 1 ≤ w7.heap.size by omega)) (row_none _ _) (by simp) (by simp) (row_none _ _) (by simp) (by simp)
        have hf := mfin8 B10.out rfl hrd (Nat.lt_succ_self _) G10.out h10.out hq.out hgl
        have hf1 := hid hf.1
        have hf2 := hid hf.2
        obtain ⟨k0, k1, k2, k3, k4, k5, k6, k7⟩ := eight X10.out
        obtain ⟨r0, r1, r2, r3, r4, r5, r6, r7⟩ := eight B10.out
        have y0 := B10.out.frozen 0
        have y1 := B10.out.frozen 1
        have y2 := B10.out.frozen 2
        have y3 := B10.out.frozen 3
        have y4 := B10.out.frozen 4
        have y5 := B10.out.frozen 5
        have y6 := B10.out.frozen 6
        have y7 := B10.out.frozen 7
        clear hf hrd X10 B10 G10 h10 o10
        go_wp2_with fail
        exact bodyPost_ret (results_cell_row Tryz.results84 _ _ w.heap.size SI _ (0, 0) _ rfl hf1.out Tryz.underlying60 rfl (by kernel_rfl)) rfl hf2.out
def stopE (ts : List Tok) (j : Nat) : Bool := !decide (j < ts.length)
theorem progT_mz {ts : List Tok} {en : Nat} (h150 : ts.length ≤ 150) : progT ts en = match varR ts en with
    | .error a => .error a
    | .ok (V, i) => match mz ts en (stopE ts) 2000 i with
      | .error a => .error a
      | .ok (L, _) => if okP ⟨V, L⟩ = true then .ok ⟨V, L⟩ else .error 0 := by
  unfold progT bodyR varR
  by_cases hs : seesB ts 0 varsW = true
  · rw [if_pos hs, if_pos hs]
    cases hv : vz ts en 2000 1 with
    | error a => rfl
    | ok p =>
      obtain ⟨V, i⟩ := p
      have hi := (vz_adv _ _ _ _ _ _ hv).2.1
      simp only
      rw [mz_bz (stop := stopE ts) (fun j hj => by unfold stopE; rw [decide_eq_true (atSt_lt hj)]; rfl) 2000 i (by unfold needB; omega) hi]
      cases hb : bz ts en 2000 i with
      | error a => rfl
      | ok p =>
        obtain ⟨L, j⟩ := p
        unfold stopR stopE
        simp only
        by_cases hj : j < ts.length
        · rw [if_pos hj, decide_eq_true hj]; simp
        · rw [if_neg hj, decide_eq_false hj]; simp
  · rw [if_neg hs, if_neg hs]
theorem rd_pg9 {w : World} {B : Nat} {A Bb : Option Addr} {c cb : Nat} {V : List (List UInt8)} {L : List St} {rows : Nat → List Value} (hr : Rd w B A (V.map sv)) (hs : ∀ x ∈ V, x.length ≤ maxI) (h1 : V.length ≤ maxI) (h2 : V.length ≤ c) (hk : Row w B 1 Bb (dl L) rows) (h3 : L.length ≤ maxI) (h4 : L.length ≤ cb) :
    Rd8 w B [.slice A V.length c, .slice Bb L.length cb] (Pg.d ⟨V, L⟩) := by
  have f1 : Rd8 w B [.slice Bb L.length cb] [.sl 1 (dl L)] := by
    rw [← dl_len L]
    exact .sl rows (by rw [dl_len]; exact ⟨h3, h4⟩) hk.cell hk.kid .nil
  exact .ss hr hs ⟨h1, h2⟩ f1
theorem in_pg9 {w : World} {A Bb : Option Addr} {c cb : Nat} {V : List (List UInt8)} {L : List St} {rows : Nat → List Value} (hr : Rd w w.heap.size A (V.map sv)) (hs : ∀ x ∈ V, x.length ≤ maxI) (h1 : V.length ≤ maxI) (hk : Row (pln w) w.heap.size 1 Bb (dl L) rows) (h3 : L.length ≤ maxI) :
    PgIn w (.agg #[.slice A V.length c, .slice Bb L.length cb]) ⟨V, L⟩ := ⟨A, c, Bb, cb, rfl, hr, h1, hs, la_row hk h3⟩
theorem cell_al9 {w : World} {a : Addr} {v : Value} (h : w.cell? a = some v) (o : Obj) : (w.alloc o).cell? a = some v := ((box_below w o).cell (block_lt_of_cell h)).trans h
theorem new_cells9 (W : World) (cs : List Value) (ty : TypeId) : ∀ j u, cs[j]? = some u → (W.alloc (.cells cs.toArray ty)).cell? ((⟨W.heap.size, 0, none⟩ : Addr).add j) = some u := by
  intro j u hj
  rw [add_zero, (Blk.new W ty cs).cell]; exact hj
theorem one_str9 (s : List UInt8) : ∀ u ∈ [sv s], u.oneCell' = true := by intro u hu; simp at hu; subst hu; rfl
def SProgIn (S : List UInt8) (w : World) (e : Ending) (w' : World) : Prop :=
  ∃ VA vl vc A l cc, e = .returned (.tuple #[.agg #[.slice VA vl vc, .slice A l cc], .int .i64 (progV S).2]) ∧ (PgAt w' w'.heap.size (.agg #[.slice VA vl vc, .slice A l cc]) (progV S).1 ∧ PgIn w' (.agg #[.slice VA vl vc, .slice A l cc]) (progV S).1) ∧ Below w.heap.size w w'
structure PSt (w wr : World) (g P : Nat) (A : Option Addr) (c : Nat) (ts : List Tok) (en i : Nat) (bad : Int) (v b : Value) : Prop where
  low : Below w.heap.size w wr
  res : Blk wr w.heap.size PI [.slice none 0 0, .slice none 0 0]
  blk : Blk wr P PI [v, b]
  rdr : Rdr wr g A c ts en i bad
section
variable {w wr w' : World} {g P c en i j : Nat} {A : Option Addr} {ts : List Tok} {bad b2 : Int} {v b : Value}
theorem PSt.go (h : PSt w wr g P A c ts en i bad v b) (hg : wr.grownBy w' (some g)) (hr : Rdr w' g A c ts en j b2) (h1 : w.heap.size < g) (h2 : g < P) : PSt w w' g P A c ts en j b2 v b :=
  ⟨bgb h.low hg (by have := h.res.lt; omega) (by omega), h.res.gb hg (by omega), h.blk.gb hg (by omega), hr⟩
theorem PSt.below (h : PSt w wr g P A c ts en i bad v b) (hb : Below wr.heap.size wr w') : PSt w w' g P A c ts en i bad v b :=
  ⟨h.low.trans (hb.mono h.low.size), h.res.below hb h.res.lt, h.blk.below hb h.blk.lt, h.rdr.below hb⟩
theorem PSt.put (h : PSt w wr g P A c ts en i bad v b) {o : Option Nat} (hg : wr.grownBy w' o) (ho : ∀ q, o = some q → P < q) (h1 : w.heap.size < g) (h2 : g < P) :
    Blk w' P PI [v, b] ∧ (∀ u, PSt w (w'.setCell ⟨P, 0, none⟩ u) g P A c ts en i bad u b) ∧ ∀ u, PSt w (w'.setCell ⟨P, 1, none⟩ u) g P A c ts en i bad v u := by
  have hl := h.blk.lt
  have hB : Blk w' P PI [v, b] := (hg.block P hl fun e => by have := ho P e.symm; omega).trans h.blk
  have hR : Blk w' w.heap.size PI [.slice none 0 0, .slice none 0 0] := (hg.block _ h.res.lt fun e => by have := ho _ e.symm; omega).trans h.res
  have hL : Below w.heap.size w w' := ⟨hg.os.trans h.low.os, hg.tape.trans h.low.tape, hg.output.trans h.low.output, Nat.le_trans h.low.size hg.size, fun q hq => (hg.block q (by omega) fun e => by have := ho q e.symm; omega).trans (h.low.block q hq)⟩
  have hD : Rdr w' g A c ts en i bad := h.rdr.far fun q hq => hg.block q (by omega) fun e => by have := ho q e.symm; omega
  have hne : ∀ k u q, q ≠ P → (w'.setCell ⟨P, k, none⟩ u).heap[q]? = w'.heap[q]? := fun k u q hq => heap_setCell_other _ _ _ _ hq
  have key : ∀ k u, Below w.heap.size w (w'.setCell ⟨P, k, none⟩ u) ∧ Blk (w'.setCell ⟨P, k, none⟩ u) w.heap.size PI [.slice none 0 0, .slice none 0 0] ∧ Rdr (w'.setCell ⟨P, k, none⟩ u) g A c ts en i bad := fun k u =>
    ⟨hL.setCell (p := ⟨P, k, none⟩) (show w.heap.size ≤ P by omega) u, (hne k u _ (by omega)).trans hR, hD.far fun q hq => hne k u q (by omega)⟩
  exact ⟨hB, fun u => ⟨(key 0 u).1, (key 0 u).2.1, hB.set_ 0 u, (key 0 u).2.2⟩, fun u => ⟨(key 1 u).1, (key 1 u).2.1, hB.set_ 1 u, (key 1 u).2.2⟩⟩
end
theorem dl_snoc9 (L : List St) (t : St) : dl L ++ [t.d] = dl (L ++ [t]) := by simp [dl]
theorem own_form9 {w : World} {lo e m : Nat} {v : Value} {xs : List Value} (h : w.ownsRow lo e 1 v m xs) : ∃ A c, v = .slice A m c := by
  rcases h.2 with ⟨rfl, rfl⟩ | ⟨g, cap, cur, rfl, _⟩
  · exact ⟨none, 0, rfl⟩
  · exact ⟨_, _, rfl⟩
theorem cntL_snoc9 (L : List St) (t : St) : cntL (L ++ [t]) = cntL L + cntSt t := by
  induction L with
  | nil => simp [cntL]
  | cons a r ih => simp only [List.cons_append, cntL, ih]; omega
theorem exL_snoc9 (L : List St) (t : St) : exL (L ++ [t]) = exL L + exSt t := by
  induction L with
  | nil => simp [exL]
  | cons a r ih => simp only [List.cons_append, exL, ih]; omega
theorem mprog_all {ts : List Tok} {en g c : Nat} {A : Option Addr} (hG : ∀ t ∈ ts, GoodT t) (hp : ∀ t ∈ ts, 0 ≤ t.p) (h63 : ts.length ≤ 150) (n : Nat) : MQP ts en g A c n ∧ MKP ts en g A c n := by
  induction n with
  | zero => exact ⟨fun m hm i w _ _ hn => by unfold needQ at hn; omega, fun m hm i w _ _ hn => by unfold needK at hn; omega⟩
  | succ n ih => exact ⟨mstmt_any hG hp h63 ih.2, mbody_any hp h63 ih.1⟩
theorem vz_snocM {ts : List Tok} {en n i : Nat} {R : Except Int (List (List UInt8) × Nat)} {acc : List (List UInt8)} (h : R = match vz ts en (n + 1) i with
    | .error a => .error a
    | .ok (V, k) => .ok (acc ++ V, k)) (hs : seesB ts i [59] = false) : (∀ x, nameAt ts i = some x → R = match vz ts en n (i + 1) with
    | .error a => .error a
    | .ok (V, k) => .ok ((acc ++ [x]) ++ V, k)) ∧ (nameAt ts i = none → R = .error (errAt ts en i)) := by
  refine ⟨fun x hx => vz_snoc h hs hx, fun hx => ?_⟩
  rw [h, vz, if_neg (by rw [hs]; simp), hx]
theorem sprog_in (S : List UInt8) (hS : S.length ≤ 9223372036854775807) (w : World) : Calls Tryz.prog 43 #[.string ⟨S.toArray⟩] w (SProgIn S w) := by
  have b1 := box_below w (.cells #[.slice none 0 0, .slice none 0 0] PI)
  have B1 := hid (Blk.new w PI [.slice none 0 0, .slice none 0 0])
  have z1 := size_alloc' w (.cells #[.slice none 0 0, .slice none 0 0] PI)
  have ht := stokz S hS (w.alloc (.cells #[.slice none 0 0, .slice none 0 0] PI))
  unfold TokOk at ht
  have b1 := hid b1
  have h150 := tokz_len S
  have hz0 : ∀ W : World, Rd8 W W.heap.size [.slice none 0 0, .slice none 0 0] (Pg.d ⟨[], []⟩) := fun W => rd_pg9 (V := []) (L := []) (A := none) (Bb := none) (c := 0) (cb := 0) Rd.nil_ (by simp) (by simp) (Nat.le_refl _) (row_none _ _) (by simp) (Nat.le_refl _)
  have hz1 : ∀ W : World, PgIn W (.agg #[.slice none 0 0, .slice none 0 0]) ⟨[], []⟩ := fun W => in_pg9 (V := []) (L := []) (A := none) (Bb := none) (c := 0) (cb := 0) Rd.nil_ (by simp) (by simp) (row_none _ _) (by simp)
  by_cases hb : (tokz S).2 = -1
  · have hsm := tokz_le hb
    have hgd := hid (fun t ht => (tokz_good hsm t ht).1)
    have hpp := hid (fun t ht => (tokz_good hsm t ht).2.1)
    have hRe : progR S = progT (tokz S).1 S.length := by unfold progR; rw [if_pos hb]
    rw [progT_mz (by omega)] at hRe
    rw [hb] at ht
    clear hb
    replace ht := hid ht
    replace hRe := hid hRe
    generalize (tokz S).1 = ts at *
    generalize hen : S.length = en at *
    go_enter Tryz.func43, Tryz.ntmps43
    go_wp2_with fail
    generalize (w.alloc (.cells #[.slice none 0 0, .slice none 0 0] PI)) = w1 at *
    refine ht.out.mono ?_
    rintro e w2 ⟨rr, rfl, ho, hb2⟩
    obtain ⟨A, c, rfl, hrd, -, -, -, -⟩ := ho.read
    have z2 := hb2.size
    have B2 := B1.out.below hb2 B1.out.lt
    have b2 := b1.out.trans (hb2.mono b1.out.size)
    have b3 := box_below w2 (.cells #[.slice A ts.length c, .int .i64 0, .int .i64 (en : Nat), .int .i64 (-1)] RT)
    have R3 : Rdr (w2.alloc (.cells #[.slice A ts.length c, .int .i64 0, .int .i64 (en : Nat), .int .i64 (-1)] RT)) w2.heap.size A c ts en 0 (-1) := ⟨Blk.new w2 RT _, hrd.below b3⟩
    have z3 := size_alloc' w2 (.cells #[.slice A ts.length c, .int .i64 0, .int .i64 (en : Nat), .int .i64 (-1)] RT)
    have b4 := box_below (w2.alloc (.cells #[.slice A ts.length c, .int .i64 0, .int .i64 (en : Nat), .int .i64 (-1)] RT)) (.cells #[.slice none 0 0, .slice none 0 0] PI)
    have P4 := Blk.new (w2.alloc (.cells #[.slice A ts.length c, .int .i64 0, .int .i64 (en : Nat), .int .i64 (-1)] RT)) PI [.slice none 0 0, .slice none 0 0]
    rw [z3] at P4
    have z4 := size_alloc' (w2.alloc (.cells #[.slice A ts.length c, .int .i64 0, .int .i64 (en : Nat), .int .i64 (-1)] RT)) (.cells #[.slice none 0 0, .slice none 0 0] PI)
    rw [z3] at z4
    have hQ : PSt w ((w2.alloc (.cells #[.slice A ts.length c, .int .i64 0, .int .i64 (en : Nat), .int .i64 (-1)] RT)).alloc (.cells #[.slice none 0 0, .slice none 0 0] PI)) w2.heap.size (w2.heap.size + 1) A c ts en 0 (-1) (.slice none 0 0) (.slice none 0 0) :=
      ⟨(b2.trans (b3.mono b2.size)).trans (b4.mono (by have := b2.size; omega)), (B2.below b3 B2.lt).below b4 (B2.below b3 B2.lt).lt, P4, R3.below b4⟩
    have hwg : w.heap.size < w2.heap.size := by omega
    replace hQ := hid hQ
    clear ho hrd hb2 B2 b2 b3 b4 P4 R3 B1 b1 ht
    go_wp2_with fail
    generalize ((w2.alloc (.cells #[.slice A ts.length c, .int .i64 0, .int .i64 (en : Nat), .int .i64 (-1)] RT)).alloc (.cells #[.slice none 0 0, .slice none 0 0] PI)) = w4 at *
    generalize w2.heap.size = g at *
    have htv := hid (take9 (r := .ok 0) hpp.out h150 varsW ⟨rfl, rfl⟩ (fun _ e => by cases e; omega) w4 hQ.out.rdr)
    refine htv.out.mono ?_
    rintro e w5 ⟨i5, b5, rfl, ⟨h5, g5⟩, hS5⟩
    have z5 := g5.size
    have Q5 := hid (hQ.out.go g5 h5 hwg (Nat.lt_succ_self _))
    clear hQ htv h5 g5
    obtain ⟨R1, hR1⟩ : ∃ R1, R1 = varR ts en := ⟨_, rfl⟩
    have hRe2 := hRe.out
    rw [← hR1] at hRe2
    have hA5 : (b5 = -1 ∧ ∃ m', m' ≤ 2000 ∧ Hid (R1 = match vz ts en m' i5 with
        | .error a => .error a
        | .ok (V, k) => .ok (([] : List (List UInt8)) ++ V, k)) ∧ Hid (needQ ts i5 ≤ m') ∧ i5 ≤ ts.length ∧ ([] : List (List UInt8)).length ≤ i5) ∨ (0 ≤ b5 ∧ Hid (R1 = .error b5)) := by
      unfold tkR at hS5
      simp only at hS5
      unfold varR at hR1
      by_cases hs : seesB ts 0 varsW = true
      · rw [if_pos hs] at hS5 hR1
        obtain ⟨rfl, rfl⟩ := hS5
        have := sees_lt hs
        refine Or.inl ⟨rfl, 2000, Nat.le_refl _, hid ?_, hid (by unfold needQ; omega), by omega, by simp⟩
        rw [hR1]
        cases vz ts en 2000 (0 + 1) <;> rfl
      · rw [if_neg hs] at hS5 hR1
        obtain ⟨rfl, ha⟩ := hS5
        exact Or.inr ⟨ha, hid hR1⟩
    replace hRe := hid hRe2
    clear hRe2 hR1 hS5
    replace hA5 := hid hA5
    go_wp2_with fail
    go_loopw [] (fun wr => ∃ (V : List (List UInt8)) (i : Nat) (bad : Int) (v : Value), ((bad = -1 ∧ ∃ m', m' ≤ 2000 ∧ Hid (R1 = match vz ts en m' i with
          | .error a => .error a
          | .ok (V', k) => .ok (V ++ V', k)) ∧ Hid (needQ ts i ≤ m') ∧ i ≤ ts.length ∧ V.length ≤ i) ∨ (0 ≤ bad ∧ Hid (R1 = .error bad))) ∧ (∀ x ∈ V, x.length ≤ maxI) ∧ V.length ≤ 100000 ∧
        wr.ownsRow (g + 1 + 1) 9 1 v V.length (V.map sv) ∧ PSt w wr g (g + 1) A c ts en i bad v (.slice none 0 0)) (fun wr => mesM g (ts.length + 1) wr)
    case atStart => exact ⟨[], i5, b5, _, hA5.out, by simp, by simp, World.ownsRow_nil _ _ _ _, Q5.out⟩
    case round =>
      clear hA5 Q5
      obtain ⟨V, i, bad, v, hA, hVs, hVl, ho, hQ⟩ := hrel
      have hmes := hid (mesM_at hQ.rdr (ts.length + 1))
      obtain ⟨c0, c1, c2, c3⟩ := hQ.rdr.cells
      have zr := hQ.low.size
      have lP := hQ.blk.lt
      rcases hA with ⟨rfl, m', hm', hR1, hnQ, hil, hVi⟩ | ⟨hb0, hR1⟩
      · obtain ⟨m', rfl⟩ : ∃ k, m' = k + 1 := ⟨m' - 1, by have := hnQ.out; unfold needQ at this; omega⟩
        have hse := msees_any g A c ts en i [59] wr hQ.rdr hil
        cases hs : seesB ts i [59] with
        | true =>
          have hR2 := hid (show R1 = .ok (V, i + 1) by rw [hR1.out, vz, if_pos hs]; simp)
          have hil2 := sees_lt hs
          rw [hs] at hse
          have hmt := hid (fun w1 (h1 : Rdr w1 g A c ts en i (-1)) => mtake_any g A c ts en i [59] w1 h1 hil (by omega))
          rw [hs] at hmt
          obtain ⟨R2, hR2d⟩ : ∃ R2, R2 = mz ts en (stopE ts) 2000 (i + 1) := ⟨_, rfl⟩
          have hRp := hRe.out
          rw [hR2.out] at hRp
          simp only [← hR2d] at hRp
          replace hRp := hid hRp
          have hst := hid (show R2 = match mz ts en (stopE ts) 2000 (i + 1) with
              | .error a => .error a
              | .ok (L, k) => .ok (([] : List St) ++ L, k) by
            rw [hR2d]
            cases mz ts en (stopE ts) 2000 (i + 1) <;> rfl)
          have hst9 := hid (fun m i (hm : m ≤ 2000) w1 (hr : Rdr w1 g A c ts en i (-1)) (hi : i ≤ ts.length) (hn : needQ ts i ≤ m) => (mprog_all (c := c) (A := A) (en := en) (g := g) hgd.out hpp.out h150 2000).1 m hm i w1 hr hi hn)
          replace hse := hid hse
          replace hQ := hid hQ
          replace ho := hid ho
          replace hVs := hid hVs
          have hwP : w.heap.size < g + 1 := by omega
          clear hs hR1 hR2 hR2d hRe hmes hgd hpp hnQ
          go_wp2_with fail
          refine hse.out.mono ?_
          rintro e w6 ⟨rfl, hb⟩
          have z6 := hb.size
          have Q6 := hid (hQ.out.below hb)
          have o6 := hid (own_keep ho.out fun q hq => hb.block q (own_ge ho.out hq).2)
          clear hb hse hQ ho c0 c1 c2 c3
          go_wp2_with fail
          refine (hmt.out w6 Q6.out.rdr).mono ?_
          rintro e w7 ⟨rfl, h7, g7⟩
          have h7 : Rdr w7 g A c ts en (i + 1) (-1) := h7
          have z7 := g7.size
          have Q7 := hid (Q6.out.go g7 h7 hwg (Nat.lt_succ_self _))
          have o7 := hid (own_keep o6.out fun q hq => g7.block q (own_ge o6.out hq).2 fun e => by cases e; have := (own_ge o6.out hq).1; omega)
          clear h7 g7 Q6 o6 hmt
          go_wp2_with fail
          go_loopw [] (fun wr => ∃ (L : List St) (i : Nat) (bad : Int) (b : Value), ((bad = -1 ∧ ∃ m', m' ≤ 2000 ∧ Hid (R2 = match mz ts en (stopE ts) m' i with
                | .error a => .error a
                | .ok (L', k) => .ok (L ++ L', k)) ∧ Hid (needB ts i ≤ m') ∧ i ≤ ts.length ∧ L.length ≤ i) ∨ (0 ≤ bad ∧ Hid (R2 = .error bad))) ∧ Hid (cntL L ≤ i ∧ exL L ≤ i ∨ 0 ≤ bad) ∧
              GrowD wr w7.heap.size 1 b (dl L) ∧ wr.ownsRow (g + 1 + 1) 9 1 v V.length (V.map sv) ∧ PSt w wr g (g + 1) A c ts en i bad v b ∧ w7.heap.size ≤ wr.heap.size) (fun wr => mesM g (ts.length + 1) wr)
          case atStart => exact ⟨[], i + 1, -1, _, Or.inl ⟨rfl, 2000, Nat.le_refl _, hst, hid (by unfold needB; omega), by omega, by simp⟩, hid (Or.inl ⟨by simp [cntL], by simp [exL]⟩), GrowD.nil w7 _ 1, o7.out, Q7.out, Nat.le_refl _⟩
          case round =>
            have hvb := hid (fun q (hq : v.ownBlock = some q) => own_ge o7.out hq)
            have lP7 := Q7.out.blk.lt
            clear hst Q7 o7
            obtain ⟨L, j, bad, b, hA, hcx, hK, ho, hQ, zl⟩ := hrel
            have hmes := hid (mesM_at hQ.rdr (ts.length + 1))
            obtain ⟨c0, c1, c2, c3⟩ := hQ.rdr.cells
            have lP := hQ.blk.lt
            rcases hA with ⟨rfl, m2, hm2, hR3, hnB, hjl, hLj⟩ | ⟨hb0, hR3⟩
            · obtain ⟨m2, rfl⟩ : ∃ k, m2 = k + 1 := ⟨m2 - 1, by have := hnB.out; unfold needB at this; omega⟩
              by_cases hjt : j < ts.length
              · have tj : decide ((j : Int) < (ts.length : Int)) = true := decide_eq_true (by omega)
                have tq : needQ ts j ≤ m2 := by have := hnB.out; unfold needB at this; unfold needQ; omega
                obtain ⟨VB, vb, rowsB, rfl, hvb2, -, hvm2⟩ := hK.rd
                have hbd : Below wr.heap.size wr wr.drew := (Below.refl _ _).drew
                have hcl := hid (hst9.out m2 j (by omega) wr.drew (hQ.rdr.below hbd) hjl tq)
                have hsn := hid (fun s j2 (hq : qz ts en m2 j = .ok (s, j2)) => mz_snoc hR3.out (show stopE ts j = false by unfold stopE; rw [decide_eq_true hjt]; rfl) hq)
                have her := hid (fun a (hq : qz ts en m2 j = .error a) => mz_errs hR3.out (show stopE ts j = false by unfold stopE; rw [decide_eq_true hjt]; rfl) hq)
                have hadv := hid (fun s j2 (hq : qz ts en m2 j = .ok (s, j2)) => (adv_all ts en m2).1 j s j2 hq)
                obtain ⟨r, hr⟩ : ∃ r, r = qz ts en m2 j := ⟨_, rfl⟩
                rw [← hr] at hcl hsn her hadv
                rw [dl_len] at *
                have hl6 : (dl L).length < 1000000 := by rw [dl_len]; omega
                obtain ⟨k0, k1⟩ := two hQ.blk
                have k1o := fun o => cell_al9 k1 o
                have QD := hid (hQ.below hbd)
                have KD := hid (hK.below hbd)
                have oD := hid (own_keep ho fun q hq => hbd.block q (own_ge ho hq).2)
                have zD : wr.drew.heap.size = wr.heap.size := rfl
                have hownB := hid (fun q (hq : (Value.slice VB L.length vb).ownBlock = some q) => hK.own hq)
                clear hQ hK ho hR3 hnB hr hst9 hbd rowsB
                go_wp2_with fail
                clear c0 c1 c2 c3
                go_region_law (first
                  | (refine GrowD.step K6.out (by omega) (sc k s ek en' es A' l' c' Bb lb cb C lc cc') t.d rfl r6.out hl6 stT9m zeroSt rfl (by omega) rfl (.tmp 59) (.tmp 62) rfl rfl _ rfl rfl ?_; intro v8 w8 hG8 hg8; rw [dl_snoc9] at hG8; generalize hL8 : L ++ [t] = L8 at hG8; obtain ⟨B8, c8, rows8, rfl, -, -, -⟩ := hG8.rd; rw [dl_len] at hG8; rw [dl_len]; obtain ⟨H8, -, PU⟩ := Q6.out.put hg8 (fun q hq => by have := (hownB.out q hq).1; omega) hwg (Nat.lt_succ_self _); obtain ⟨j0, j1⟩ := two H8; have f1 := H8.frozen 1)
                  | (go_simp; go_at_call 84; refine hcl.out.mono ?_; rintro e w6 ⟨k, s, ek, en', es, A', l', c', Bb, lb, cb, C, lc, cc', t, j2, b2, rfl, hr8, g6, h6, hM⟩; have z6 := g6.size; have Q6 := hid (QD.out.go g6 h6 hwg (Nat.lt_succ_self _)); have K6 := hid (KD.out.keep (by omega) g6); have o6 := hid (own_keep oD.out fun q hq => g6.block q (own_ge oD.out hq).2 fun e => by cases e; have := (own_ge oD.out hq).1; omega); have r6 := hid (hr8.cry (Cry.later (lo := w7.heap.size) (o := (Value.slice VB L.length vb).ownBlock) (by omega) (fun q h => by have := (hownB.out q h).2; omega) w6.heap.size) (Nat.le_refl _)); obtain ⟨i0, i1⟩ := two Q6.out.blk; have i1o := fun o => cell_al9 i1 o))
                all_goals
                  have Q9 := hid (PU (.slice B8 L8.length c8))
                  have z9 : (w8.setCell ⟨g + 1, 1, none⟩ (.slice B8 L8.length c8)).heap.size = w8.heap.size := by simp [World.setCell]
                  have z8 := hg8.size
                  have K9 := hid (hG8.keep (h := g + 1) (by omega) (gb_set (gb_refl w8 (some (g + 1))) 1 (.slice B8 L8.length c8)))
                  have o9 := hid (own_keep o6.out (w' := w8.setCell ⟨g + 1, 1, none⟩ (.slice B8 L8.length c8)) fun q hq => (heap_setCell_other _ _ _ _ (show q ≠ g + 1 by have := (own_ge o6.out hq).1; omega)).trans (hg8.block q (own_ge o6.out hq).2 fun e => by have := (hownB.out q e.symm).1; have := (hvb.out q hq).2; omega))
                  have hM9 := hid (mesM_at (PU (.slice B8 L8.length c8)).rdr (ts.length + 1))
                  have hcx2 := hid hcx.out
                  replace hL8 := hid hL8
                  clear i0 i1 i1o k0 k1 k1o j0 j1 f1 hG8 hg8 H8 PU Q6 K6 o6 r6 hr8 g6 h6 QD KD oD hcl
                  go_wp2_with fail
                  rcases r with a | ⟨t', j'⟩
                  · obtain ⟨rfl, ha⟩ := hM
                    refine ⟨⟨L8, j2, b2, _, Or.inr ⟨ha, hid (her.out b2 rfl)⟩, hid (Or.inr ha), K9.out, o9.out, Q9.out, by omega⟩, ?_⟩
                    rw [hmes.out, hM9.out, if_neg (by omega), if_pos (by omega)]; omega
                  · obtain ⟨rfl, rfl, rfl⟩ := hM
                    obtain ⟨q1, q2, q3, q4, -⟩ := hadv.out t j2 rfl
                    have hlen8 : L8.length = L.length + 1 := by rw [← hL8.out]; simp
                    refine ⟨⟨L8, j2, -1, _, Or.inl ⟨rfl, m2, by omega, hid (by rw [← hL8.out]; exact hsn.out t j2 rfl), hid (by unfold needQ at tq; unfold needB; omega), q2, by omega⟩, hid ?_, K9.out, o9.out, Q9.out, by omega⟩, ?_⟩
                    · left
                      rw [← hL8.out, cntL_snoc9, exL_snoc9]
                      rcases hcx2.out with ⟨e1, e2⟩ | e1
                      · omega
                      · omega
                    · rw [hmes.out, hM9.out, if_pos (by omega), if_pos (by omega)]; omega
              · obtain rfl : j = ts.length := by omega
                have tj : decide ((ts.length : Int) < (ts.length : Int)) = false := decide_eq_false (by omega)
                have hR4 := mz_stop hR3.out (show stopE ts ts.length = true by unfold stopE; simp)
                have hRq := hRp.out
                rw [hR4] at hRq
                simp only at hRq
                have hcc : cntL L ≤ 1000 ∧ exL L ≤ 1000 := by
                  rcases hcx.out with ⟨e1, e2⟩ | e1
                  · omega
                  · omega
                obtain ⟨VB, vb, rowsB, rfl, hvb2, hrow, hvm2⟩ := hK.rd
                rw [dl_len] at *
                have ho' : wr.ownsRow (g + 1 + 1) 9 1 v (V.map sv).length (V.map sv) := by rw [List.length_map]; exact ho
                obtain ⟨VA, vc, hv, hrd, hvc, hvm, -⟩ := OwnS.read_ (l := V) (own_row ho')
                subst hv
                have hVm : V.length ≤ maxI := by unfold maxI; omega
                have hcl := hid (svalidP ⟨V, L⟩ (by dsimp only; omega) (by dsimp only; omega) _ wr (rd_pg9 (Bb := VB) (cb := vb) hrd hVs.out hVm hvc (hrow.cry (Cry.ezb_out _ _ _) (Nat.le_refl _)) hvm2 hvb2))
                have hcl := hid (show Calls Tryz.prog 10 #[.agg #[.slice VA V.length vc, .slice VB L.length vb]] wr _ from hcl.out)
                obtain ⟨k0, k1⟩ := two hQ.blk
                have hlo2 : w.heap.size < w7.heap.size := by omega
                replace hRq := hid hRq
                replace hK := hid hK
                replace ho' := hid ho'
                replace hQ := hid hQ
                clear hR3 hR4 hnB hst9 hrow hrd ho rowsB
                cases hok : okP ⟨V, L⟩ with
                | true =>
                  have hV := hid (progV_ok (show progR S = .ok ⟨V, L⟩ by rw [hRq.out, hok]; rfl))
                  rw [hok] at hcl
                  clear hRq hok
                  go_wp2_with fail
                  refine hcl.out.mono ?_
                  rintro e w9 ⟨rfl, hb⟩
                  have z9 := hb.size
                  have Q9 := hQ.out.below hb
                  have K9 := hK.out.below hb
                  have o9 := own_keep ho'.out fun q hq => hb.block q (own_ge ho'.out hq).2
                  clear k0 k1 c0 c1 c2 c3
                  obtain ⟨k0, k1⟩ := two Q9.blk
                  obtain ⟨r0, r1⟩ := two Q9.res
                  have y0 := Q9.res.frozen 0
                  have y1 := Q9.res.frozen 1
                  have hres := hid (show Blk ((w9.setCell ⟨w.heap.size, 0, none⟩ (.slice VA V.length vc)).setCell ⟨w.heap.size, 1, none⟩ (.slice VB L.length vb)) w.heap.size PI [.slice VA V.length vc, .slice VB L.length vb] from (Q9.res.set_ 0 _).set_ 1 _)
                  have hlow := hid ((Q9.low.setCell (p := ⟨w.heap.size, 0, none⟩) (Nat.le_refl _) (.slice VA V.length vc)).setCell (p := ⟨w.heap.size, 1, none⟩) (Nat.le_refl _) (.slice VB L.length vb))
                  have hne : ∀ q, q ≠ w.heap.size → ((w9.setCell ⟨w.heap.size, 0, none⟩ (.slice VA V.length vc)).setCell ⟨w.heap.size, 1, none⟩ (.slice VB L.length vb)).heap[q]? = w9.heap[q]? := fun q hq => by rw [heap_setCell_other _ _ _ _ hq, heap_setCell_other _ _ _ _ hq]
                  have oF := own_keep o9 (w' := (w9.setCell ⟨w.heap.size, 0, none⟩ (.slice VA V.length vc)).setCell ⟨w.heap.size, 1, none⟩ (.slice VB L.length vb)) fun q hq => hne q (by have := (own_ge o9 hq).1; omega)
                  have KF := (K9.keep (h := w.heap.size) hlo2 (gb_set (gb_refl w9 (some w.heap.size)) 0 (.slice VA V.length vc))).keep (h := w.heap.size) hlo2 (gb_set (gb_refl _ (some w.heap.size)) 1 (.slice VB L.length vb))
                  obtain ⟨VA2, vc2, hv2, hrd2, hvc2, -, -⟩ := OwnS.read_ (l := V) (own_row oF)
                  injection hv2 with e1 e2 e3
                  subst e1 e3
                  obtain ⟨VB2, vb2, rows2, hv3, hvb3, hrow2, -⟩ := KF.rd
                  injection hv3 with e4 e5 e6
                  subst e4 e6
                  have hfin := hid (rd_pg9 (Bb := VB) (cb := vb) hrd2 hVs.out hVm hvc2 (hrow2.cry (Cry.ezb_out _ _ _) (Nat.le_refl _)) hvm2 hvb2)
                  have hfin2 := hid (in_pg9 (c := vc) (Bb := VB) (cb := vb) hrd2 hVs.out hVm (hrow2.cry (Cry.ezb_pln _ _ _) (Nat.le_refl _)) hvm2)
                  clear hne oF KF hrd2 hrow2 Q9 K9 o9 hb hQ hK ho' hcl e2 e5 hvb3
                  go_wp2_with fail
                  exact bodyPost_ret (results_cell2 Tryz.results43 _ _ w.heap.size 27 _ (0, 0) _ rfl hres.out Tryz.underlying27 rfl (by kernel_rfl)) rfl ⟨VA, _, vc, VB, _, vb, by rw [hV.out]; rfl, by rw [hV.out]; exact ⟨⟨_, rfl, hfin.out⟩, hfin2.out⟩, hlow.out⟩
                | false =>
                  have hV := hid (progV_err (show progR S = .error 0 by rw [hRq.out, hok]; rfl))
                  rw [hok] at hcl
                  clear hRq hok
                  go_wp2_with fail
                  refine hcl.out.mono ?_
                  rintro e w9 ⟨rfl, hb⟩
                  have Q9 := hQ.out.below hb
                  clear k0 k1 c0 c1 c2 c3
                  obtain ⟨r0, r1⟩ := two Q9.res
                  have y0 := Q9.res.frozen 0
                  have y1 := Q9.res.frozen 1
                  have zf := hid (hz0 ((w9.setCell ⟨w.heap.size, 0, none⟩ (.slice none 0 0)).setCell ⟨w.heap.size, 1, none⟩ (.slice none 0 0)))
                  have hres := hid (show Blk ((w9.setCell ⟨w.heap.size, 0, none⟩ (.slice none 0 0)).setCell ⟨w.heap.size, 1, none⟩ (.slice none 0 0)) w.heap.size PI [.slice none 0 0, .slice none 0 0] from (Q9.res.set_ 0 _).set_ 1 _)
                  have hlow := hid ((Q9.low.setCell (p := ⟨w.heap.size, 0, none⟩) (Nat.le_refl _) (.slice none 0 0)).setCell (p := ⟨w.heap.size, 1, none⟩) (Nat.le_refl _) (.slice none 0 0))
                  clear Q9 hb hQ hK ho' hcl
                  go_wp2_with fail
                  exact bodyPost_ret (results_cell2 Tryz.results43 _ _ w.heap.size 27 _ (0, 0) _ rfl hres.out Tryz.underlying27 rfl (by kernel_rfl)) rfl ⟨none, 0, 0, none, 0, 0, by rw [hV.out]; rfl, by rw [hV.out]; exact ⟨⟨_, rfl, zf.out⟩, hz1 _⟩, hlow.out⟩
            · have hV := hid (progV_err (show progR S = .error bad by rw [hRp.out, hR3.out]))
              have t1 : decide (bad < 0) = false := decide_eq_false (by omega)
              replace hQ := hid hQ
              clear hR3 hRp hst9 hK ho hcx hmes
              go_wp2_with fail
              clear c0 c1 c2 c3
              obtain ⟨c0, c1, c2, c3⟩ := hQ.out.rdr.cells
              obtain ⟨r0, r1⟩ := two hQ.out.res
              have y0 := hQ.out.res.frozen 0
              have y1 := hQ.out.res.frozen 1
              have tb : decide (0 ≤ bad) = true := decide_eq_true hb0
              go_wp2_with fail
              have zf := hz0 (((wr.setCell ⟨w.heap.size, 0, none⟩ (.slice none 0 0)).setCell ⟨w.heap.size, 1, none⟩ (.slice none 0 0)).drew)
              have hres := (hQ.out.res.set_ 0 (.slice none 0 0)).set_ 1 (.slice none 0 0)
              have hlow := ((hQ.out.low.setCell (p := ⟨w.heap.size, 0, none⟩) (Nat.le_refl _) (.slice none 0 0)).setCell (p := ⟨w.heap.size, 1, none⟩) (Nat.le_refl _) (.slice none 0 0)).drew
              have hres := hid (show Blk (((wr.setCell ⟨w.heap.size, 0, none⟩ (.slice none 0 0)).setCell ⟨w.heap.size, 1, none⟩ (.slice none 0 0)).drew) w.heap.size PI [.slice none 0 0, .slice none 0 0] from hres)
              replace hlow := hid hlow
              replace zf := hid zf
              go_region
              all_goals
                clear c0 c1 c2 c3 r0 r1 y0 y1 tb
                go_wp2_with fail
                exact bodyPost_ret (results_cell2 Tryz.results43 _ _ w.heap.size 27 _ (0, 0) _ rfl hres.out Tryz.underlying27 rfl (by kernel_rfl)) rfl ⟨none, 0, 0, none, 0, 0, by rw [hV.out]; rfl, by rw [hV.out]; exact ⟨⟨_, rfl, zf.out⟩, hz1 _⟩, hlow.out⟩
        | false =>
          have hsn := hid (vz_snocM hR1.out hs)
          have hnm := hid (fun w1 (h1 : Rdr w1 g A c ts en i (-1)) => name9 hgd.out hpp.out h150 i hil w1 h1)
          rw [hs] at hse
          obtain ⟨k0, k1⟩ := two hQ.blk
          replace hse := hid hse
          replace hQ := hid hQ
          replace ho := hid ho
          replace hVs := hid hVs
          clear hs hR1 k0 k1
          go_wp2_with fail
          refine hse.out.mono ?_
          rintro e w3 ⟨rfl, hb⟩
          have z3w := hb.size
          have Q3 := hQ.out.below hb
          have o3 := own_keep ho.out fun q hq => hb.block q (own_ge ho.out hq).2
          have hbd : Below w3.heap.size w3 w3.drew := (Below.refl _ _).drew
          have zD : w3.drew.heap.size = w3.heap.size := rfl
          have QD := hid (Q3.below hbd)
          have oD := hid (own_keep o3 fun q hq => hbd.block q (own_ge o3 hq).2)
          obtain ⟨k0, k1⟩ := two Q3.blk
          have k0o := fun o => cell_al9 k0 o
          have hcl := hid (hnm.out w3.drew QD.out.rdr)
          have hml : (V.map sv).length = V.length := List.length_map _
          generalize hnmd : (nameAt ts i).getD [] = nm at *
          clear hb hse hQ ho c0 c1 c2 c3 Q3 o3 hnm hbd
          go_wp2_with fail
          go_region_law (first
            | (refine step_own strT rfl (.tmp 36) (.tmp 39) rfl (g + 1 + 1) v (V.map sv) rfl (o6o.out _) ⟨w6.heap.size, 0, none⟩ 1 1 [sv nm] rfl rfl (new_cells9 w6 [sv nm] _) (one_str9 nm) (by rw [hml]; omega) (by rw [size_alloc']; have := hlw6.out; omega) ?_; intro v8 w8 ho8' hg8 _; have ho8 : w8.ownsRow (g + 1 + 1) 9 1 v8 (V ++ [nm]).length ((V ++ [nm]).map sv) := (by simpa using ho8'); generalize hV8 : V ++ [nm] = V8 at ho8; obtain ⟨A8, c8, rfl⟩ := own_form9 ho8; obtain ⟨H8, PU, -⟩ := Q6.out.put (gb_trans (World.grownBy_alloc w6 _ _) hg8) (fun q hq => by have := (own_ge o6.out hq).1; omega) hwg (Nat.lt_succ_self _); obtain ⟨j0, j1⟩ := two H8; have f0 := H8.frozen 0)
            | (go_simp; go_at_call 83; refine hcl.out.mono ?_; rintro e w6 ⟨j2, b2, rfl, ⟨h6, g6⟩, hS6⟩; have z6 := g6.size; have Q6 := hid (QD.out.go g6 h6 hwg (Nat.lt_succ_self _)); have o6 := hid (own_keep oD.out fun q hq => g6.block q (own_ge oD.out hq).2 fun e => by cases e; have := (own_ge oD.out hq).1; omega); have o6o := hid (fun o => show (w6.alloc o).ownsRow (g + 1 + 1) 9 1 v (V.map sv).length (V.map sv) by rw [hml]; exact own_keep o6.out fun q hq => (box_below w6 o).block q (own_ge o6.out hq).2); have hlw6 := hid (show g + 1 + 1 ≤ w6.heap.size by have := Q6.out.blk.lt; omega); obtain ⟨i0, i1⟩ := two Q6.out.blk; have i0o := fun o => cell_al9 i0 o))
          all_goals
            have Q9 := hid (PU (.slice A8 V8.length c8))
            have o9 := hid (own_keep ho8 (w' := w8.setCell ⟨g + 1, 0, none⟩ (.slice A8 V8.length c8)) fun q hq => heap_setCell_other _ _ _ _ (show q ≠ g + 1 by have := (own_ge ho8 hq).1; omega))
            have hM9 := hid (mesM_at (PU (.slice A8 V8.length c8)).rdr (ts.length + 1))
            replace hV8 := hid hV8
            replace hnmd := hid hnmd
            clear i0 i1 i0o k0 k1 k0o j0 j1 f0 ho8 ho8' hg8 H8 PU Q6 o6 o6o hlw6 g6 h6 QD oD hcl
            go_wp2_with fail
            have hn8 : nm.length ≤ maxI := by
              rw [← hnmd.out]
              cases hx : nameAt ts i with
              | none => simp
              | some x => have := nameAt_len hx; show x.length ≤ maxI; unfold maxI; omega
            have hVs9 : ∀ x ∈ V8, x.length ≤ maxI := fun x hx => by
              rw [← hV8.out] at hx
              rcases List.mem_append.1 hx with h | h
              · exact hVs.out x h
              · simp only [List.mem_singleton] at h
                subst h; exact hn8
            have hlen8 : V8.length = V.length + 1 := by rw [← hV8.out]; simp
            unfold nmR at hS6
            cases hx : nameAt ts i with
            | none =>
              rw [hx] at hS6
              obtain ⟨rfl, ha⟩ := hS6
              refine ⟨⟨V8, j2, _, _, Or.inr ⟨ha, hid (hsn.out.2 hx)⟩, hVs9, by omega, o9.out, Q9.out⟩, ?_⟩
              rw [hmes.out, hM9.out, if_neg (by omega), if_pos (by omega)]; omega
            | some x =>
              have hlt := nameAt_lt hx
              rw [hx] at hS6
              obtain ⟨rfl, rfl⟩ := hS6
              have hxn : x = nm := by rw [← hnmd.out, hx]; rfl
              refine ⟨⟨V8, i + 1, -1, _, Or.inl ⟨rfl, m', by omega, hid (by rw [← hV8.out, ← hxn]; exact hsn.out.1 x hx), hid (by have := hnQ.out; unfold needQ at this ⊢; omega), by omega, by omega⟩, hVs9, by omega, o9.out, Q9.out⟩, ?_⟩
              rw [hmes.out, hM9.out, if_pos (by omega), if_pos (by omega)]; omega
      · have hV := hid (progV_err (show progR S = .error bad by rw [hRe.out, hR1.out]))
        have t1 : decide (bad < 0) = false := decide_eq_false (by omega)
        have hmt := hid (fun w1 (h1 : Rdr w1 g A c ts en i bad) => mtake_bad g A c ts en i bad [59] w1 h1 hb0)
        replace hQ := hid hQ
        clear hR1 hRe ho hmes hgd hpp
        go_wp2_with fail
        clear c0 c1 c2 c3
        refine (hmt.out wr hQ.out.rdr).mono ?_
        rintro e w7 ⟨rfl, hb⟩
        have Q7 := hid (hQ.out.below hb)
        obtain ⟨c0, c1, c2, c3⟩ := Q7.out.rdr.cells
        clear hb hQ hmt
        go_wp2_with fail
        refine wp_loop_rounds 1 ?_; rw [rounds_succ]
        go_wp2_with fail
        clear c0 c1 c2 c3
        obtain ⟨c0, c1, c2, c3⟩ := Q7.out.rdr.cells
        obtain ⟨r0, r1⟩ := two Q7.out.res
        have y0 := Q7.out.res.frozen 0
        have y1 := Q7.out.res.frozen 1
        have tb : decide (0 ≤ bad) = true := decide_eq_true hb0
        go_wp2_with fail
        have zf := hz0 (((w7.setCell ⟨w.heap.size, 0, none⟩ (.slice none 0 0)).setCell ⟨w.heap.size, 1, none⟩ (.slice none 0 0)).drew)
        have hres := (Q7.out.res.set_ 0 (.slice none 0 0)).set_ 1 (.slice none 0 0)
        have hlow := ((Q7.out.low.setCell (p := ⟨w.heap.size, 0, none⟩) (Nat.le_refl _) (.slice none 0 0)).setCell (p := ⟨w.heap.size, 1, none⟩) (Nat.le_refl _) (.slice none 0 0)).drew
        have hres := hid (show Blk (((w7.setCell ⟨w.heap.size, 0, none⟩ (.slice none 0 0)).setCell ⟨w.heap.size, 1, none⟩ (.slice none 0 0)).drew) w.heap.size PI [.slice none 0 0, .slice none 0 0] from hres)
        replace hlow := hid hlow
        replace zf := hid zf
        go_region
        all_goals
          clear c0 c1 c2 c3 r0 r1 y0 y1 tb
          go_wp2_with fail
          exact bodyPost_ret (results_cell2 Tryz.results43 _ _ w.heap.size 27 _ (0, 0) _ rfl hres.out Tryz.underlying27 rfl (by kernel_rfl)) rfl ⟨none, 0, 0, none, 0, 0, by rw [hV.out]; rfl, by rw [hV.out]; exact ⟨⟨_, rfl, zf.out⟩, hz1 _⟩, hlow.out⟩
  · have hbad := (tokz_bad hb).2
    have hV := hid (progV_err (show progR S = .error (tokz S).2 by unfold progR; rw [if_neg hb]))
    generalize (tokz S).2 = bad at *
    have t1 : decide (0 ≤ bad) = true := decide_eq_true hbad
    replace ht := hid ht
    clear hb hbad
    go_enter Tryz.func43, Tryz.ntmps43
    go_wp2_with fail
    generalize (w.alloc (.cells #[.slice none 0 0, .slice none 0 0] PI)) = w1 at *
    refine ht.out.mono ?_
    rintro e w2 ⟨rr, rfl, ho, hb2⟩
    have B2 := B1.out.below hb2 B1.out.lt
    have b2 := b1.out.trans (hb2.mono b1.out.size)
    obtain ⟨r0, r1⟩ := two B2
    have y0 := B2.frozen 0
    have y1 := B2.frozen 1
    have zf := hid (hz0 ((w2.setCell ⟨w.heap.size, 0, none⟩ (.slice none 0 0)).setCell ⟨w.heap.size, 1, none⟩ (.slice none 0 0)))
    have hres := hid (show Blk ((w2.setCell ⟨w.heap.size, 0, none⟩ (.slice none 0 0)).setCell ⟨w.heap.size, 1, none⟩ (.slice none 0 0)) w.heap.size PI [.slice none 0 0, .slice none 0 0] from (B2.set_ 0 _).set_ 1 _)
    have hlow := hid ((b2.setCell (p := ⟨w.heap.size, 0, none⟩) (Nat.le_refl _) (.slice none 0 0)).setCell (p := ⟨w.heap.size, 1, none⟩) (Nat.le_refl _) (.slice none 0 0))
    clear B2 b2 B1 b1 hb2 ho ht
    go_wp2_with fail
    exact bodyPost_ret (results_cell2 Tryz.results43 _ _ w.heap.size 27 _ (0, 0) _ rfl hres.out Tryz.underlying27 rfl (by kernel_rfl)) rfl ⟨none, 0, 0, none, 0, 0, by rw [hV.out]; rfl, by rw [hV.out]; exact ⟨⟨_, rfl, zf.out⟩, hz1 _⟩, hlow.out⟩
end Go.Proofs.YtiogceepjffmkaaGreatDoor.Gd
