/- The program's reading of programs: the variables and the statements; the whole source. -/
import Derived.Test.YtiogceepjffmkaaGreatDoorQP9d
import Derived.Deep.RegionWith
set_option maxHeartbeats 4000000
set_option maxRecDepth 100000
namespace Go.Proofs.YtiogceepjffmkaaGreatDoor.Gd
open Go.RowKit Go.Lib Go.Sort Num Com Mem Ow YtiogceepjffmkaaGreatDoor.Os Tr Tk Pl Gs Sr
theorem own_pg9 {w : World} {lo hi a1 b1 a2 b2 : Nat} {v : Value} {p : Pg} {B : Option Addr} {lb cb : Nat} (hs : ∀ x ∈ p.vs, x.length ≤ maxI) (h1 : OwnS a1 b1 w v p.vs) (h2 : OwnD w (Iv a2 b2) [.slice B lb cb] [.sl 1 (dl p.body)]) (q1 : lo ≤ a1) (q2 : b1 ≤ a2) (q3 : b2 ≤ hi) (q4 : a1 ≤ b1) (q5 : a2 ≤ b2) :
  OwnD w (Iv lo hi) [v, .slice B lb cb] p.d := by
 refine .ss (R2 := Iv a2 hi) h1 hs (fun g hg => ?_) (fun g hg => ?_) (OwnD.app_sl (R2 := fun _ => False) h2 .nil (fun g hg => ?_) (fun g hg => hg.elim))
 ·have := hg.1; have := hg.2
  exact ⟨⟨by omega, by omega⟩, fun h => by have := h.1; omega⟩
 ·have := hg.1; have := hg.2
  exact ⟨by omega, by omega⟩
 ·have := hg.1; have := hg.2
  exact ⟨⟨by omega, by omega⟩, id⟩
abbrev pgv (VA : Option Addr) (vl vc : Nat) (A : Option Addr) (l cc : Nat) : Value := .agg #[.slice VA vl vc, .slice A l cc]
abbrev pg0 : Pg := ⟨[], []⟩
theorem owns_nil (w : World) (lo hi : Nat) : OwnS lo hi w (.slice none 0 0) [] := ⟨none, 0, [], rfl, Nat.le_refl _, Nat.zero_le _, fun _ => ⟨rfl, rfl⟩, (fun ad e => by cases e), rfl⟩
theorem ownp_zero (w : World) (lo hi : Nat) : OwnP lo hi w (pgv none 0 0 none 0 0) pg0 :=
 ⟨[.slice none 0 0, .slice none 0 0], rfl, .ss (lo := 0) (hi := 0) (R2 := fun _ => False) (owns_nil w 0 0) (by simp) (fun g hg => by have := hg.1; have := hg.2; omega) (fun _ h => h.elim) (own_nil8 w _ 1)⟩
theorem ans_finP {w wx : World} {VA : Option Addr} {vl vc : Nat} {A : Option Addr} {l cc : Nat} {p : Pg} {lo hi : Nat} {z0 z1 : Value} (hres : Blk wx w.heap.size PI [z0, z1]) (own : OwnP lo hi wx (pgv VA vl vc A l cc) p) (hlo : w.heap.size < lo) (hhi : hi ≤ wx.heap.size) (hb : Below w.heap.size w wx) :
  Blk ((wx.setCell ⟨w.heap.size, 0, none⟩ (.slice VA vl vc)).setCell ⟨w.heap.size, 1, none⟩ (.slice A l cc)) w.heap.size PI [.slice VA vl vc, .slice A l cc] ∧
   OwnP w.heap.size ((wx.setCell ⟨w.heap.size, 0, none⟩ (.slice VA vl vc)).setCell ⟨w.heap.size, 1, none⟩ (.slice A l cc)).heap.size ((wx.setCell ⟨w.heap.size, 0, none⟩ (.slice VA vl vc)).setCell ⟨w.heap.size, 1, none⟩ (.slice A l cc)) (pgv VA vl vc A l cc) p ∧
   Below w.heap.size w ((wx.setCell ⟨w.heap.size, 0, none⟩ (.slice VA vl vc)).setCell ⟨w.heap.size, 1, none⟩ (.slice A l cc)) := by
 have hs : ((wx.setCell ⟨w.heap.size, 0, none⟩ (.slice VA vl vc)).setCell ⟨w.heap.size, 1, none⟩ (.slice A l cc)).heap.size = wx.heap.size := by simp [World.setCell]
 refine ⟨(hres.set_ 0 _).set_ 1 _, ?_, (hb.setCell (p := ⟨w.heap.size, 0, none⟩) (Nat.le_refl _) _).setCell (p := ⟨w.heap.size, 1, none⟩) (Nat.le_refl _) _⟩
 obtain ⟨cs, e, h⟩ := own
 refine ⟨cs, e, ?_⟩
 rw [hs]
 exact own_iv (h.same fun q hq => by
  have := hq.1
  rw [heap_setCell_other _ _ _ _ (show q ≠ w.heap.size by omega), heap_setCell_other _ _ _ _ (show q ≠ w.heap.size by omega)]) (by omega) hhi
theorem ivalidP_cnt {lo hi : Nat} {v : Value} {p : Pg} (w : World) (h : OwnP lo hi w v p) (hc : cntL p.body ≤ 1000) (hx : exL p.body ≤ 1000) : Calls Tryz.prog 22 #[v] w fun e w' => e = .returned (.bool (okP p)) ∧ Below w.heap.size w w' := by
 obtain ⟨cs, rfl, hr⟩ := h
 unfold Pg.d at hr
 cases hr with
 | ss hS hs _ _ r =>
  obtain ⟨A, c, rfl, hrd, hc1, hm1, _, hA⟩ := hS.read_
  obtain ⟨Bb, cb, rr, rows, rfl, hk, hl, hn⟩ := (own_plnD r).sl_
  obtain rfl := hn.nil_
  rw [dl_len] at *
  exact ivalidP p w A c Bb cb hrd hA (by unfold maxLen at hm1; unfold maxI; omega) hs (la_row hk hl) (by omega) (by omega)
def PgRes (r : Except Int (List (List UInt8) × List St × Nat)) (p : Pg) (x : Value) (j : Nat) : Prop := match r with
 | .ok (V, L, j') => p = ⟨V, L⟩ ∧ x = .nilIface ∧ j = j'
 | .error a => x = errV a
def PgmOk (ts : List Tok) (en g b c : Nat) (w : World) (e : Ending) (w' : World) : Prop :=
 ∃ VA vl vc A l cc p x j, e = .returned (.tuple #[pgv VA vl vc A l cc, x]) ∧ OwnP w.heap.size w'.heap.size w' (pgv VA vl vc A l cc) p ∧ w.grownBy w' (some g) ∧ Prs w' g b c (uz ts en) j ∧ PgRes (bodyR ts en) p x j
theorem fin_gb {w wx : World} {g : Nat} (gb : w.grownBy wx (some g)) (u v : Value) : w.grownBy ((wx.setCell ⟨w.heap.size, 0, none⟩ u).setCell ⟨w.heap.size, 1, none⟩ v) (some g) := Dr.gb_new (Dr.gb_new gb (Nat.le_refl _) 0 u) (Nat.le_refl _) 1 v
theorem ans_finG {w wx : World} {g b c j : Nat} {us : List Tok} {VA : Option Addr} {vl vc : Nat} {A : Option Addr} {l cc : Nat} {p : Pg} {lo hi : Nat} {z0 z1 : Value} (hres : Blk wx w.heap.size PI [z0, z1]) (own : OwnP lo hi wx (pgv VA vl vc A l cc) p) (hlo : w.heap.size < lo) (hhi : hi ≤ wx.heap.size) (gb : w.grownBy wx (some g)) (hp : Prs wx g b c us j) (hg : g < w.heap.size) (hb : b < w.heap.size) :
  Blk ((wx.setCell ⟨w.heap.size, 0, none⟩ (.slice VA vl vc)).setCell ⟨w.heap.size, 1, none⟩ (.slice A l cc)) w.heap.size PI [.slice VA vl vc, .slice A l cc] ∧
   OwnP w.heap.size ((wx.setCell ⟨w.heap.size, 0, none⟩ (.slice VA vl vc)).setCell ⟨w.heap.size, 1, none⟩ (.slice A l cc)).heap.size ((wx.setCell ⟨w.heap.size, 0, none⟩ (.slice VA vl vc)).setCell ⟨w.heap.size, 1, none⟩ (.slice A l cc)) (pgv VA vl vc A l cc) p ∧
   w.grownBy ((wx.setCell ⟨w.heap.size, 0, none⟩ (.slice VA vl vc)).setCell ⟨w.heap.size, 1, none⟩ (.slice A l cc)) (some g) ∧
   Prs ((wx.setCell ⟨w.heap.size, 0, none⟩ (.slice VA vl vc)).setCell ⟨w.heap.size, 1, none⟩ (.slice A l cc)) g b c us j := by
 have hs : ((wx.setCell ⟨w.heap.size, 0, none⟩ (.slice VA vl vc)).setCell ⟨w.heap.size, 1, none⟩ (.slice A l cc)).heap.size = wx.heap.size := by simp [World.setCell]
 have hne : ∀ q, q ≠ w.heap.size → ((wx.setCell ⟨w.heap.size, 0, none⟩ (.slice VA vl vc)).setCell ⟨w.heap.size, 1, none⟩ (.slice A l cc)).heap[q]? = wx.heap[q]? := fun q hq => by rw [heap_setCell_other _ _ _ _ hq, heap_setCell_other _ _ _ _ hq]
 refine ⟨(hres.set_ 0 _).set_ 1 _, ?_, fin_gb gb _ _, hp.far (hne _ (by omega)) (hne _ (by omega))⟩
 obtain ⟨cs, e, h⟩ := own
 refine ⟨cs, e, ?_⟩
 rw [hs]
 exact own_iv (h.same fun q hq => hne q (by have := hq.1; omega)) (by omega) hhi
theorem program_any {ts : List Tok} {en g b c : Nat} (hG : ∀ t ∈ ts, GoodT t) (h150 : ts.length ≤ 150) (w : World) (h : Prs w g b c (uz ts en) 0) :
  Calls Tryz.prog 32 #[.pointer (some ⟨g, 0, none⟩)] w (PgmOk ts en g b c w) := by
 have hgl := h.lt
 have hbl := h.blt
 have hb1 := box_below w (.cells #[.slice none 0 0, .slice none 0 0] PI)
 have z1 := size_alloc' w (.cells #[.slice none 0 0, .slice none 0 0] PI)
 have B1 := hid (Blk.new w PI [.slice none 0 0, .slice none 0 0])
 have G1 := hid (gb_below (gb_refl w (some g)) hb1)
 have hv := hid (vars_any (en := en) hG h150 _ (h.below hb1))
 have hst := hid (fun i w1 (h1 : Prs w1 g b c (uz ts en) i) => (program_all (en := en) (g := g) (b := b) (c := c) hG h150 2000).2.2.2 2000 (Nat.le_refl _) i w1 h1 (by unfold needB; omega))
 have hbR : bodyR ts en = match varR ts en with
   | .error a => .error a
   | .ok (V, i) => match bz ts en 2000 i with
    | .error a => .error a
    | .ok (L, j) => .ok (V, L, j) := by
  unfold bodyR varR
  by_cases hs : seesB ts 0 varsW = true
  ·rw [if_pos hs, if_pos hs]
   cases vz ts en 2000 1 <;> rfl
  ·rw [if_neg hs, if_neg hs]
 have hvl : ∀ V i, varR ts en = .ok (V, i) → ∀ x ∈ V, x.length ≤ 8 := fun V i hv => by
  unfold varR at hv
  split at hv
  ·exact (vz_adv _ _ _ _ _ _ hv).2.2.2
  ·cases hv
 replace hbR := hid hbR
 replace hvl := hid hvl
 clear h hb1
 go_enter Tryz.func32, Tryz.ntmps32
 go_wp2_with fail
 generalize (w.alloc (.cells #[.slice none 0 0, .slice none 0 0] PI)) = w1 at *
 refine hv.out.mono ?_
 rintro e w2 ⟨v, V, x, i, rfl, hS, hg, hp, hV⟩
 obtain ⟨VA, vc, rfl, -, hvc, hvm, -⟩ := hS.read_
 have z2 := hg.size
 have B2 := B1.out.gb hg (by omega)
 have G2 := gb_trans G1.out hg
 clear hv hg G1 B1
 obtain ⟨vr, hvr⟩ : ∃ vr, vr = varR ts en := ⟨_, rfl⟩
 have hbR2 := hbR.out
 have hvl2 := hvl.out
 rw [← hvr] at hV hbR2 hvl2
 clear hbR hvl hvr
 rcases vr with a | ⟨V', i'⟩
 ·obtain rfl : x = errV a := hV
  have hf := ans_finG (VA := none) (vl := 0) (vc := 0) (A := none) (l := 0) (cc := 0) B2 (ownp_zero w2 (w.heap.size + 1) (w.heap.size + 1)) (Nat.lt_succ_self _) B2.lt G2 hp hgl hbl
  obtain ⟨F1, F2, F3, F4⟩ := hf
  have hR := hid (show PgRes (bodyR ts en) pg0 (errV a) i by rw [hbR2]; rfl)
  obtain ⟨r0, r1⟩ := two B2
  have y0 := B2.frozen 0
  have y1 := B2.frozen 1
  replace F1 := hid F1
  replace F2 := hid F2
  replace F3 := hid F3
  replace F4 := hid F4
  clear hbR2 hvl2 hS hp B2 G2 hst
  go_wp2_with fail
  exact bodyPost_ret (results_cell2 Tryz.results32 _ _ w.heap.size 27 _ (0, 0) _ rfl F1.out Tryz.underlying27 rfl (by kernel_rfl)) rfl ⟨_, _, _, _, _, _, _, _, _, rfl, F2.out, F3.out, F4.out, hR.out⟩
 ·obtain ⟨rfl, rfl, rfl⟩ := hV
  have hVs : ∀ x ∈ V, x.length ≤ maxI := fun x hx => by have := hvl2 V i rfl x hx; unfold maxI; omega
  have hcl := hid (hst.out i w2 hp)
  replace hbR2 := hid hbR2
  replace hVs := hid hVs
  replace B2 := hid B2
  replace G2 := hid G2
  replace hS := hid hS
  clear hvl2 hp hst
  go_wp2_with fail
  refine hcl.out.mono ?_
  rintro e w3 ⟨A, l, cc, L, x, j, rfl, hO, hg, hp, hB⟩
  have z3 := hg.size
  have B3 := B2.out.gb hg (by omega)
  have G3 := gb_trans G2.out hg
  have S3 := hS.out.same (w' := w3) fun q h1 h2 => hg.block q (by omega) (by simp; omega)
  have hO3 : OwnP w1.heap.size w3.heap.size w3 (pgv VA V.length vc A l cc) ⟨V, L⟩ := ⟨[.slice VA V.length vc, .slice A l cc], rfl, own_pg9 (p := ⟨V, L⟩) hVs.out S3 hO (Nat.le_refl _) (Nat.le_refl _) (Nat.le_refl _) (by omega) (by omega)⟩
  obtain ⟨F1, F2, F3, F4⟩ := ans_finG B3 hO3 (by omega) (Nat.le_refl _) G3 hp hgl hbl
  have hR := hid (show PgRes (bodyR ts en) ⟨V, L⟩ x j by
   rw [hbR2.out]
   cases hb : bz ts en 2000 i with
   | error a => rw [hb] at hB; exact hB
   | ok p =>
    obtain ⟨L', j'⟩ := p
    rw [hb] at hB
    obtain ⟨rfl, rfl, rfl⟩ := hB
    exact ⟨rfl, rfl, rfl⟩)
  obtain ⟨r0, r1⟩ := two B3
  have y0 := B3.frozen 0
  have y1 := B3.frozen 1
  replace F1 := hid F1
  replace F2 := hid F2
  replace F3 := hid F3
  replace F4 := hid F4
  clear hbR2 hS hp B2 G2 B3 G3 S3 hO3 hO hg hB hcl
  go_wp2_with fail
  exact bodyPost_ret (results_cell2 Tryz.results32 _ _ w.heap.size 27 _ (0, 0) _ rfl F1.out Tryz.underlying27 rfl (by kernel_rfl)) rfl ⟨_, _, _, _, _, _, _, _, _, rfl, F2.out, F3.out, F4.out, hR.out⟩
def ErrIsP (q : Except Int Pg) (p : Pg) (x : Value) : Prop := match q with
 | .ok p' => p = p' ∧ x = .nilIface
 | .error a => x = errV a ∨ (a = 0 ∧ ∃ y, x = .iface As.PES (.pointer y))
def WholeP (S : List UInt8) (w : World) (e : Ending) (w' : World) : Prop :=
 ∃ VA vl vc A l cc p x, e = .returned (.tuple #[pgv VA vl vc A l cc, x]) ∧ OwnP w.heap.size w'.heap.size w' (pgv VA vl vc A l cc) p ∧ Below w.heap.size w w' ∧ ErrIsP (progR S) p x
def ProgOk (S : List UInt8) (w : World) (e : Ending) (w' : World) : Prop :=
 ∃ VA vl vc A l cc, e = .returned (.tuple #[pgv VA vl vc A l cc, .int .i64 (progV S).2]) ∧ OwnP w.heap.size w'.heap.size w' (pgv VA vl vc A l cc) (progV S).1 ∧ Below w.heap.size w w'
theorem readP_any (S : List UInt8) (hS : S.length ≤ 9223372036854775807) (w : World) (hnv : NotV w) : Calls Tryz.prog 69 #[.string ⟨S.toArray⟩, .func (Fn.func 32) #[] #[], .func (Fn.func 22) #[] #[]] w (WholeP S w) := by
 have b1 := box_below w (.cells #[.slice none 0 0, .slice none 0 0] PI)
 have B1 := hid (Blk.new w PI [.slice none 0 0, .slice none 0 0])
 have z1 := size_alloc' w (.cells #[.slice none 0 0, .slice none 0 0] PI)
 have hn := newp_any S hS (w.alloc (.cells #[.slice none 0 0, .slice none 0 0] PI))
 unfold NewOk at hn
 have b1 := hid b1
 by_cases hb : (tokz S).2 = -1
 ·simp only [if_pos hb] at hn
  have hn := hid hn
  have hsm := tokz_le hb
  have hgd := fun t ht => (tokz_good hsm t ht).1
  have hRe : progR S = progT (tokz S).1 S.length := by unfold progR; rw [if_pos hb]
  have h150 := tokz_len S
  clear hb
  have hgd := hid hgd
  generalize (tokz S).1 = ts at *
  generalize hen : S.length = en at *
  have hRe : progR S = match bodyR ts en with
    | .error a => .error a
    | .ok (V, L, j) => if j < ts.length then .error (errAt ts en j) else if okP ⟨V, L⟩ = true then .ok ⟨V, L⟩ else .error 0 := by
   rw [hRe]; unfold progT
   cases bodyR ts en <;> rfl
  have hadv := hid (fun V L j (h : bodyR ts en = .ok (V, L, j)) => body_adv h)
  obtain ⟨r, hr⟩ : ∃ r, r = bodyR ts en := ⟨_, rfl⟩
  rw [← hr] at hRe hadv
  have hcl := hid (fun g b c w1 (h1 : Prs w1 g b c (uz ts en) 0) => program_any (en := en) (g := g) (b := b) (c := c) hgd.out (by omega) w1 h1)
  replace hRe := hid hRe
  replace hr := hid hr
  go_enter Tryz.func69, Tryz.ntmps69
  go_wp2_with fail
  generalize (w.alloc (.cells #[.slice none 0 0, .slice none 0 0] PI)) = w1 at *
  refine hn.out.mono ?_
  rintro e w2 ⟨hb2, g, b, c, rfl, hp, hg, hbb⟩
  have z2 := hb2.size
  have B2 := hid (B1.out.below hb2 B1.out.lt)
  have b2 := hid (b1.out.trans (hb2.mono b1.out.size))
  have hcl := hid (hcl.out g b c w2 hp)
  clear hb2 hn hp
  go_wp2_with fail
  refine hcl.out.mono ?_
  rintro e w3 ⟨VA, vl, vc, A, l, cc, p, x, j, rfl, ho, hgg, hp, hR⟩
  rw [← hr.out] at hR
  have z3 := hgg.size
  have B3 := B2.out.gb hgg (by omega)
  have b3 : Below w.heap.size w w3 := bgb b2.out hgg (by omega) (by omega)
  have b4 := box_below w3 (.cells #[.slice VA vl vc, .slice A l cc] PI)
  have B4 := B3.below b4 B3.lt
  have q4 := Blk.new w3 PI [.slice VA vl vc, .slice A l cc]
  have bb4 := b3.trans (b4.mono b3.size)
  have p4 := hp.below b4
  have o4 := ho.same (same_below b4 (Nat.le_refl _))
  have z4 := size_alloc' w3 (.cells #[.slice VA vl vc, .slice A l cc] PI)
  obtain ⟨k0, k1⟩ := two q4
  obtain ⟨r0, r1⟩ := two B4
  have y0 := B4.frozen 0
  have y1 := B4.frozen 1
  obtain ⟨hf1, hf2, hf3⟩ := ans_finP B4 o4 (by omega) (by omega) bb4
  replace hf1 := hid hf1
  replace hf2 := hid hf2
  replace hf3 := hid hf3
  clear B3 b3 B2 b2 B1 b1 hgg hcl
  rcases r with a | ⟨V, L, j'⟩
  ·obtain rfl : x = errV a := hR
   have hE := hid (show ErrIsP (progR S) p (errV a) by rw [hRe.out]; exact Or.inl rfl)
   clear hRe B4 q4 bb4 p4 o4 b4 ho hp hadv
   go_wp2_with fail
   exact bodyPost_ret (results_cell2 Tryz.results69 _ _ w.heap.size 27 _ (0, 0) _ rfl hf1.out Tryz.underlying27 rfl (by kernel_rfl)) rfl ⟨_, _, _, _, _, _, _, _, rfl, hf2.out, hf3.out, hE.out⟩
  ·obtain ⟨rfl, rfl, rfl⟩ := hR
   obtain ⟨hjl0, -, -, hcn, hxn, -⟩ := hadv.out V L j rfl
   have hjl := p4.ilt
   obtain ⟨n', m', hB, hn', hn1, hm'⟩ := p4.blk
   have c0 := hB.cell 0
   have c0 : (w3.alloc (.cells #[.slice VA vl vc, .slice A l cc] PI)).cell? ⟨g, 0, none⟩ = some (.slice (some ⟨b, j * 4, none⟩) n' m') := c0
   obtain ⟨l0, l1, l2, l3⟩ := p4.at_ hjl
   have hiv := hid (ivalidP_cnt _ o4 (show cntL L ≤ 1000 by omega) (show exL L ≤ 1000 by omega))
   have hhe := hid (here_any g b c (uz ts en) j _ p4)
   have hnv4 := hid (hnv.below bb4)
   by_cases hlast : j < ts.length
   ·have hk := good_k (hgd.out _ (List.getElem_mem hlast))
    rw [uz_at hlast] at l0
    rw [errAt_uz ts en j (by omega)] at hhe
    have hE := hid (show ErrIsP (progR S) ⟨V, L⟩ (errV (errAt ts en j)) by rw [hRe.out]; simp only; rw [if_pos hlast]; exact Or.inl rfl)
    have tk : (ts[j].k != 0) = true := bne_iff_ne.2 hk
    generalize ts[j].k = kk at *
    clear hk l1 l2 l3 hB p4 o4 bb4 b4 q4 B4 ho hp hiv hnv4 hadv hr hRe
    go_wp2_with fail
    refine hhe.out.mono ?_
    rintro e w5 ⟨rfl, rfl⟩
    go_wp2_with fail
    exact bodyPost_ret (results_cell2 Tryz.results69 _ _ w.heap.size 27 _ (0, 0) _ rfl hf1.out Tryz.underlying27 rfl (by kernel_rfl)) rfl ⟨_, _, _, _, _, _, _, _, rfl, hf2.out, hf3.out, hE.out⟩
   ·obtain rfl : j = ts.length := by omega
    rw [uz_end] at l0
    have hR2 := hid (show progR S = if okP ⟨V, L⟩ = true then .ok ⟨V, L⟩ else .error 0 by rw [hRe.out]; simp only; rw [if_neg hlast])
    have hgo := hid (fun (w5 : World) (hb5 : Below (w3.alloc (.cells #[.slice VA vl vc, .slice A l cc] PI)).heap.size (w3.alloc (.cells #[.slice VA vl vc, .slice A l cc] PI)) w5) => (⟨B4.below hb5 B4.lt, q4.below hb5 q4.lt, o4.same (same_below hb5 (by omega)), bb4.trans (hb5.mono bb4.size), hb5.size⟩ :
     Blk w5 w.heap.size PI [.slice none 0 0, .slice none 0 0] ∧ Blk w5 w3.heap.size PI [.slice VA vl vc, .slice A l cc] ∧ OwnP w2.heap.size w3.heap.size w5 (pgv VA vl vc A l cc) ⟨V, L⟩ ∧ Below w.heap.size w w5 ∧ (w3.alloc (.cells #[.slice VA vl vc, .slice A l cc] PI)).heap.size ≤ w5.heap.size))
    have hnv := hid hnv
    clear l1 l2 l3 hB p4 o4 b4 q4 ho hp hhe hadv hr B4 bb4 hnv4 r0 r1 y0 y1 hf1 hf2 hf3 hRe
    cases hok : okP ⟨V, L⟩ with
    | true =>
     have hE := hid (show ErrIsP (progR S) ⟨V, L⟩ .nilIface by rw [hR2.out, hok]; exact ⟨rfl, rfl⟩)
     rw [hok] at hiv
     clear hR2 hok
     go_wp2_with fail
     generalize (w3.alloc (.cells #[.slice VA vl vc, .slice A l cc] PI)) = w4 at *
     refine hiv.out.mono ?_
     rintro e w5 ⟨rfl, hb5⟩
     obtain ⟨B5, q5, o5, b5, z5⟩ := hgo.out w5 hb5
     obtain ⟨hf1, hf2, hf3⟩ := ans_finP B5 o5 (by omega) (by omega) b5
     replace hf1 := hid hf1
     replace hf2 := hid hf2
     replace hf3 := hid hf3
     obtain ⟨m0, m1⟩ := two q5
     obtain ⟨r0, r1⟩ := two B5
     have y0 := B5.frozen 0
     have y1 := B5.frozen 1
     clear B5 q5 o5 b5 hb5 hgo hiv
     go_wp2_with fail
     exact bodyPost_ret (results_cell2 Tryz.results69 _ _ w.heap.size 27 _ (0, 0) _ rfl hf1.out Tryz.underlying27 rfl (by kernel_rfl)) rfl ⟨_, _, _, _, _, _, _, _, rfl, hf2.out, hf3.out, hE.out⟩
    | false =>
     have hE := hid (fun y => show ErrIsP (progR S) ⟨V, L⟩ (.iface As.PES (.pointer y)) by rw [hR2.out, hok]; exact Or.inr ⟨rfl, y, rfl⟩)
     rw [hok] at hiv
     clear hR2 hok
     go_wp2_with fail
     generalize (w3.alloc (.cells #[.slice VA vl vc, .slice A l cc] PI)) = w4 at *
     refine hiv.out.mono ?_
     rintro e w5 ⟨rfl, hb5⟩
     obtain ⟨y, hy⟩ := hnv.out.below (hgo.out w5 hb5).2.2.2.1
     obtain ⟨B5, q5, o5, b5, z5⟩ := hgo.out w5 hb5
     obtain ⟨hf1, hf2, hf3⟩ := ans_finP B5 o5 (by omega) (by omega) b5
     replace hf1 := hid hf1
     replace hf2 := hid hf2
     replace hf3 := hid hf3
     obtain ⟨m0, m1⟩ := two q5
     obtain ⟨r0, r1⟩ := two B5
     have y0 := B5.frozen 0
     have y1 := B5.frozen 1
     clear B5 q5 o5 b5 hb5 hgo hiv
     go_wp2_with fail
     exact bodyPost_ret (results_cell2 Tryz.results69 _ _ w.heap.size 27 _ (0, 0) _ rfl hf1.out Tryz.underlying27 rfl (by kernel_rfl)) rfl ⟨_, _, _, _, _, _, _, _, rfl, hf2.out, hf3.out, hE.out y⟩
 ·simp only [if_neg hb] at hn
  have hn := hid hn
  have hRe : progR S = .error (tokz S).2 := by unfold progR; rw [if_neg hb]
  generalize (tokz S).2 = bad at *
  have hE := hid (show ErrIsP (progR S) pg0 (errV bad) by rw [hRe]; exact Or.inl rfl)
  clear hRe hb
  go_enter Tryz.func69, Tryz.ntmps69
  go_wp2_with fail
  generalize (w.alloc (.cells #[.slice none 0 0, .slice none 0 0] PI)) = w1 at *
  refine hn.out.mono ?_
  rintro e w2 ⟨hb2, rfl⟩
  have z2 := hb2.size
  have b3 := box_below w2 (.cells #[.slice none 0 0, .slice none 0 0] PI)
  have z3 := size_alloc' w2 (.cells #[.slice none 0 0, .slice none 0 0] PI)
  have q3 := Blk.new w2 PI [.slice none 0 0, .slice none 0 0]
  have B2 := (B1.out.below hb2 B1.out.lt).below b3 (B1.out.below hb2 B1.out.lt).lt
  have b2 := (b1.out.trans (hb2.mono b1.out.size)).trans (b3.mono (by have := b1.out.size; omega))
  obtain ⟨k0, k1⟩ := two q3
  obtain ⟨r0, r1⟩ := two B2
  have y0 := B2.frozen 0
  have y1 := B2.frozen 1
  obtain ⟨hf1, hf2, hf3⟩ := ans_finP B2 (ownp_zero (w2.alloc (.cells #[.slice none 0 0, .slice none 0 0] PI)) (w.heap.size + 1) (w.heap.size + 1)) (Nat.lt_succ_self _) B2.lt b2
  replace hf1 := hid hf1
  replace hf2 := hid hf2
  replace hf3 := hid hf3
  clear B2 b2 B1 b1 hb2 hn q3 b3
  go_wp2_with fail
  exact bodyPost_ret (results_cell2 Tryz.results69 _ _ w.heap.size 27 _ (0, 0) _ rfl hf1.out Tryz.underlying27 rfl (by kernel_rfl)) rfl ⟨_, _, _, _, _, _, _, _, rfl, hf2.out, hf3.out, hE.out⟩
theorem pwholeP_any (S : List UInt8) (hS : S.length ≤ 9223372036854775807) (w : World) (hnv : NotV w) (hh : As.Handle w) : Calls Tryz.prog 31 #[.string ⟨S.toArray⟩, .func (Fn.func 32) #[] #[], .func (Fn.func 22) #[] #[]] w (ProgOk S w) := by
 have b1 := box_below w (.cells #[.slice none 0 0, .slice none 0 0] PI)
 have B1 := hid (Blk.new w PI [.slice none 0 0, .slice none 0 0])
 have z1 := size_alloc' w (.cells #[.slice none 0 0, .slice none 0 0] PI)
 have hn := hid (readP_any S hS (w.alloc (.cells #[.slice none 0 0, .slice none 0 0] PI)) (hnv.below b1))
 have b1 := hid b1
 have hh := hid hh
 go_enter Tryz.func31, Tryz.ntmps31
 go_wp2_with fail
 generalize (w.alloc (.cells #[.slice none 0 0, .slice none 0 0] PI)) = w1 at *
 refine hn.out.mono ?_
 rintro e w2 ⟨VA, vl, vc, A, l, cc, p, x, rfl, ho, hb, hE⟩
 have z2 := hb.size
 have B2 := B1.out.below hb B1.out.lt
 have b2 := b1.out.trans (hb.mono b1.out.size)
 have b3 := box_below w2 (.cells #[.slice VA vl vc, .slice A l cc] PI)
 have z3 := size_alloc' w2 (.cells #[.slice VA vl vc, .slice A l cc] PI)
 have B3 := B2.below b3 B2.lt
 have q3 := Blk.new w2 PI [.slice VA vl vc, .slice A l cc]
 have bb3 := b2.trans (b3.mono b2.size)
 have o3 := ho.same (same_below b3 (Nat.le_refl _))
 have hh3 := hid (hand_below hh.out bb3)
 clear hb ho b3 b2 B2 b1 B1 hn
 cases hP : progR S with
 | ok p' =>
  rw [hP] at hE
  obtain ⟨rfl, rfl⟩ := hE
  have hV := hid (progV_ok hP)
  obtain ⟨hf1, hf2, hf3⟩ := ans_finP B3 o3 (by omega) (by omega) bb3
  replace hf1 := hid hf1
  replace hf2 := hid hf2
  replace hf3 := hid hf3
  obtain ⟨m0, m1⟩ := two q3
  obtain ⟨r0, r1⟩ := two B3
  have y0 := B3.frozen 0
  have y1 := B3.frozen 1
  clear B3 q3 o3 bb3 hP
  go_wp2_with fail
  exact bodyPost_ret (results_cell2 Tryz.results31 _ _ w.heap.size 27 _ (0, 0) _ rfl hf1.out Tryz.underlying27 rfl (by kernel_rfl)) rfl ⟨_, _, _, _, _, _, by rw [hV.out]; rfl, by rw [hV.out]; exact hf2.out, hf3.out⟩
 | error a =>
  rw [hP] at hE
  have hV := hid (progV_err hP)
  have B3 := hid B3
  have bb3 := hid bb3
  clear hP o3 q3
  have off : ∀ w4, Calls Tryz.prog 70 #[x] w4 (fun e w' => e = .returned (.int .i64 a) ∧ Below w4.heap.size w4 w') ∨ ¬ As.Handle w4 := fun w4 => by
   by_cases h : As.Handle w4
   ·left
    rcases hE with rfl | ⟨rfl, y, rfl⟩
    ·exact off_hit a _ h
    ·exact off_miss y _ h
   ·exact Or.inr h
  have off := hid (fun w4 (h : As.Handle w4) => (off w4).resolve_right fun hn => hn h)
  obtain ⟨xT, xv, rfl⟩ : ∃ T v, x = .iface T v := by
   rcases hE with rfl | ⟨_, y, rfl⟩
   ·exact ⟨_, _, rfl⟩
   ·exact ⟨_, _, rfl⟩
  clear hE
  go_wp2_with fail
  generalize (w2.alloc (.cells #[.slice VA vl vc, .slice A l cc] PI)) = w3 at *
  have b4 := box_below w3 (.cells #[.slice none 0 0, .slice none 0 0] PI)
  have z4 := size_alloc' w3 (.cells #[.slice none 0 0, .slice none 0 0] PI)
  have q4 : Blk (w3.alloc (.cells #[.slice none 0 0, .slice none 0 0] PI)) (w2.heap.size + 1) PI [.slice none 0 0, .slice none 0 0] := by rw [← z3]; exact Blk.new w3 PI _
  have B4 := hid (B3.out.below b4 B3.out.lt)
  have bb4 := hid (bb3.out.trans (b4.mono bb3.out.size))
  have h4 := hid (hand_below (hand_below hh3.out b4) ((Below.refl _ _).drew))
  obtain ⟨k0, k1⟩ := two q4
  replace q4 := hid q4
  clear b4 B3 bb3 hh3 hh
  generalize (w3.alloc (.cells #[.slice none 0 0, .slice none 0 0] PI)) = w4 at *
  have step : ∀ W, Below w4.drew.heap.size w4.drew W → Hid (Blk W (w2.heap.size + 1) PI [.slice none 0 0, .slice none 0 0]) ∧ Hid (Blk W w.heap.size PI [.slice none 0 0, .slice none 0 0]) ∧ Hid (Below w.heap.size w W) := fun W hW => by
   have hW' : Below w4.heap.size w4 W := (Below.refl _ w4).drew.trans hW
   exact ⟨hid (q4.out.below hW' q4.out.lt), hid (B4.out.below hW' B4.out.lt), hid (bb4.out.trans (hW'.mono bb4.out.size))⟩
  go_region_with (first
   | (go_at_call 70; refine (off.out _ h4.out).mono ?_; rintro e w5 ⟨rfl, hb⟩; obtain ⟨Q5, B5, bb5⟩ := step w5 hb; obtain ⟨n0, n1⟩ := two Q5.out; obtain ⟨r0, r1⟩ := two B5.out; have y0 := B5.out.frozen 0; have y1 := B5.out.frozen 1))
  all_goals
   obtain ⟨hf1, hf2, hf3⟩ := ans_finP B5.out (ownp_zero w5 (w.heap.size + 1) (w.heap.size + 1)) (Nat.lt_succ_self _) B5.out.lt bb5.out
   replace hf1 := hid hf1
   replace hf2 := hid hf2
   replace hf3 := hid hf3
   clear step q4 Q5 B5 bb5 n0 n1 r0 r1 y0 y1 k0 k1 off
   go_wp2_with fail
   exact bodyPost_ret (results_cell2 Tryz.results31 _ _ w.heap.size 27 _ (0, 0) _ rfl hf1.out Tryz.underlying27 rfl (by kernel_rfl)) rfl ⟨_, _, _, _, _, _, by rw [hV.out]; rfl, by rw [hV.out]; exact hf2.out, hf3.out⟩
theorem iprog_any (S : List UInt8) (hS : S.length ≤ 9223372036854775807) (w : World) (hnv : NotV w) (hh : As.Handle w) : Calls Tryz.prog 12 #[.string ⟨S.toArray⟩] w (ProgOk S w) := by
 have b1 := box_below w (.cells #[.slice none 0 0, .slice none 0 0] PI)
 have B1 := hid (Blk.new w PI [.slice none 0 0, .slice none 0 0])
 have z1 := size_alloc' w (.cells #[.slice none 0 0, .slice none 0 0] PI)
 have hn := hid (pwholeP_any S hS (w.alloc (.cells #[.slice none 0 0, .slice none 0 0] PI)) (hnv.below b1) (hand_below hh b1))
 have b1 := hid b1
 clear hnv hh
 go_enter Tryz.func12, Tryz.ntmps12
 go_wp2_with fail
 generalize (w.alloc (.cells #[.slice none 0 0, .slice none 0 0] PI)) = w1 at *
 refine hn.out.mono ?_
 rintro e w2 ⟨VA, vl, vc, A, l, cc, rfl, ho, hb⟩
 have z2 := hb.size
 have B2 := B1.out.below hb B1.out.lt
 have b2 := b1.out.trans (hb.mono b1.out.size)
 obtain ⟨hf1, hf2, hf3⟩ := ans_finP B2 ho (by omega) (Nat.le_refl _) b2
 replace hf1 := hid hf1
 replace hf2 := hid hf2
 replace hf3 := hid hf3
 obtain ⟨r0, r1⟩ := two B2
 have y0 := B2.frozen 0
 have y1 := B2.frozen 1
 clear B2 b2 hb ho hn B1 b1
 go_wp2_with fail
 exact bodyPost_ret (results_cell2 Tryz.results12 _ _ w.heap.size 27 _ (0, 0) _ rfl hf1.out Tryz.underlying27 rfl (by kernel_rfl)) rfl ⟨_, _, _, _, _, _, rfl, hf2.out, hf3.out⟩
end Go.Proofs.YtiogceepjffmkaaGreatDoor.Gd
