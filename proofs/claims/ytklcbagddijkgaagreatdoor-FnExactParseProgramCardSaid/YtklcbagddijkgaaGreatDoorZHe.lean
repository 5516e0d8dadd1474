/- The program's reading of programs: the variables and the statements; the whole source. -/
import Derived.Test.YtklcbagddijkgaaGreatDoorZP9d
import Derived.Test.YtklcbagddijkgaaGreatDoorZP6i
import Derived.Test.YtklcbagddijkgaaGreatDoorZXi
import Derived.Deep.RegionWith
import Derived.Test.YtklcbagddijkgaaGreatDoorZSt4
import Derived.Test.YtklcbagddijkgaaGreatDoorZE8
import Derived.Test.YtklcbagddijkgaaGreatDoorZTr
import Derived.Test.YtklcbagddijkgaaGreatDoorZPp
import Derived.Test.YtklcbagddijkgaaGreatDoorZC9a
set_option maxRecDepth 100000
namespace Go.Proofs.YtklcbagddijkgaaGreatDoor.Gd
open Go.RowKit Go.Lib Go.Sort Go.Proofs.YtklcbagddijkgaaGreatDoor.Num Go.Proofs.YtklcbagddijkgaaGreatDoor.Com Go.Proofs.YtklcbagddijkgaaGreatDoor.Mem Go.Proofs.YtklcbagddijkgaaGreatDoor.Ow Go.Proofs.YtklcbagddijkgaaGreatDoor.Os Go.Proofs.YtklcbagddijkgaaGreatDoor.Tr Go.Proofs.YtklcbagddijkgaaGreatDoor.Tk Go.Proofs.YtklcbagddijkgaaGreatDoor.Pl Go.Proofs.YtklcbagddijkgaaGreatDoor.Gs Go.Proofs.YtklcbagddijkgaaGreatDoor.Sr

theorem own_pg9 {w : World} {lo hi a1 b1 a2 b2 : Nat} {v : Value} {p : Pg} {B : Option Addr} {lb cb : Nat} (hs : ∀ x ∈ p.vs, x.length ≤ maxI) (h1 : OwnS a1 b1 w v p.vs) (h2 : OwnD w (Iv a2 b2) [.slice B lb cb] [.sl 1 (dl p.body)]) (q1 : lo ≤ a1) (q2 : b1 ≤ a2) (q3 : b2 ≤ hi) (q4 : a1 ≤ b1) (q5 : a2 ≤ b2) :
    OwnD w (Iv lo hi) [v, .slice B lb cb] p.d := by
  refine .ss (R2 := Iv a2 hi) h1 hs (fun g hg => ?_) (fun g hg => ?_) (OwnD.app_sl (R2 := fun _ => False) h2 .nil (fun g hg => ?_) (fun g hg => hg.elim))
  · have := hg.1; have := hg.2
    exact ⟨⟨by omega, by omega⟩, fun h => by have := h.1; omega⟩
  · have := hg.1; have := hg.2
    exact ⟨by omega, by omega⟩
  · have := hg.1; have := hg.2
    exact ⟨⟨by omega, by omega⟩, id⟩
abbrev pgv (VA : Option Addr) (vl vc : Nat) (A : Option Addr) (l cc : Nat) : Value := .agg #[.slice VA vl vc, .slice A l cc]
abbrev pg0 : Pg := ⟨[], []⟩
theorem owns_nil (w : World) (lo hi : Nat) : OwnS lo hi w (.slice none 0 0) [] := ⟨none, 0, [], rfl, Nat.le_refl _, Nat.zero_le _, fun _ => ⟨rfl, rfl⟩, (fun ad e => by cases e), rfl⟩
theorem ownp_zero (w : World) (lo hi : Nat) : OwnP lo hi w (pgv none 0 0 none 0 0) pg0 :=
  ⟨[.slice none 0 0, .slice none 0 0], rfl, .ss (lo := 0) (hi := 0) (R2 := fun _ => False) (owns_nil w 0 0) (by simp) (fun g hg => by have := hg.1; have := hg.2; omega) (fun _ h => h.elim) (own_nil8 w _ 1)⟩
/-- the answer goes into the result's block -/
theorem ans_finP {w wx : World} {VA : Option Addr} {vl vc : Nat} {A : Option Addr} {l cc : Nat} {p : Pg} {lo hi : Nat} {z0 z1 : Value} (hres : Blk wx w.heap.size PI [z0, z1]) (own : OwnP lo hi wx (pgv VA vl vc A l cc) p) (hlo : w.heap.size < lo) (hhi : hi ≤ wx.heap.size) (hb : Below w.heap.size w wx) :
    Blk ((wx.setCell ⟨w.heap.size, 0, none⟩ (.slice VA vl vc)).setCell ⟨w.heap.size, 1, none⟩ (.slice A l cc)) w.heap.size PI [.slice VA vl vc, .slice A l cc] ∧
      OwnP w.heap.size ((wx.setCell ⟨w.heap.size, 0, none⟩ (.slice VA vl vc)).setCell ⟨w.heap.size, 1, none⟩ (.slice A l cc)).heap.size ((wx.setCell ⟨w.heap.size, 0, none⟩ (.slice VA vl vc)).setCell ⟨w.heap.size, 1, none⟩ (.slice A l cc)) (pgv VA vl vc A l cc) p ∧
      Below w.heap.size w ((wx.setCell ⟨w.heap.size, 0, none⟩ (.slice VA vl vc)).setCell ⟨w.heap.size, 1, none⟩ (.slice A l cc)) := by
  have hs : ((wx.setCell ⟨w.heap.size, 0, none⟩ (.slice VA vl vc)).setCell ⟨w.heap.size, 1, none⟩ (.slice A l cc)).heap.size = wx.heap.size := by simp [World.setCell]
  refine ⟨(hres.set_ 0 _).set_ 1 _, ?_, (hb.setCell (p := ⟨w.heap.size, 0, none⟩) (Nat.le_refl _) _).setCell (p := ⟨w.heap.size, 1, none⟩) (Nat.le_refl _) _⟩
  obtain ⟨cs, e, h⟩ := own
  refine ⟨cs, e, ?_⟩
  rw [hs]
  exact own_iv (h.same fun q hq => by
    have := hq.1
    rw [heap_setCell_other _ _ _ _ (show q ≠ w.heap.size by omega), heap_setCell_other _ _ _ _ (show q ≠ w.heap.size by omega)]) (by omega) hhi
/-- validity, by the numbers of its statements and nodes -/
theorem ivalidP_cnt {lo hi : Nat} {v : Value} {p : Pg} (w : World) (h : OwnP lo hi w v p) (hc : cntL p.body ≤ 1000) (hx : exL p.body ≤ 1000) : Calls Tryz.prog 59 #[v] w fun e w' => e = .returned (.bool (okP p)) ∧ Below w.heap.size w w' := by
  obtain ⟨cs, rfl, hr⟩ := h
  unfold Pg.d at hr
  cases hr with
  | ss hS hs _ _ r =>
    obtain ⟨A, c, rfl, hrd, hc1, hm1, _, hA⟩ := hS.read_
    obtain ⟨Bb, cb, rr, rows, rfl, hk, hl, hn⟩ := (own_plnD r).sl_
    obtain rfl := hn.nil_
    rw [dl_len] at *
    exact ivalidP p w A c Bb cb hrd hA (by unfold maxLen at hm1; unfold maxI; omega) hs (la_row hk hl) (by omega) (by omega)
def PgRes (r : Except Int (List (List UInt8) × List St × Nat)) (p : Pg) (x : Value) (j : Nat) : Prop := match r with
  | .ok (V, L, j') => p = ⟨V, L⟩ ∧ x = .nilIface ∧ j = j'
  | .error a => x = errV a
def PgmOk (ts : List Tok) (en g b c : Nat) (w : World) (e : Ending) (w' : World) : Prop :=
  ∃ VA vl vc A l cc p x j, e = .returned (.tuple #[pgv VA vl vc A l cc, x]) ∧ OwnP w.heap.size w'.heap.size w' (pgv VA vl vc A l cc) p ∧ w.grownBy w' (some g) ∧ Prs w' g b c (uz ts en) j ∧ PgRes (bodyR ts en) p x j
/-- the parser's block is another than the result's -/
theorem fin_gb {w wx : World} {g : Nat} (gb : w.grownBy wx (some g)) (u v : Value) : w.grownBy ((wx.setCell ⟨w.heap.size, 0, none⟩ u).setCell ⟨w.heap.size, 1, none⟩ v) (some g) := Dr.gb_new (Dr.gb_new gb (Nat.le_refl _) 0 u) (Nat.le_refl _) 1 v
theorem ans_finG {w wx : World} {g b c j : Nat} {us : List Tok} {VA : Option Addr} {vl vc : Nat} {A : Option Addr} {l cc : Nat} {p : Pg} {lo hi : Nat} {z0 z1 : Value} (hres : Blk wx w.heap.size PI [z0, z1]) (own : OwnP lo hi wx (pgv VA vl vc A l cc) p) (hlo : w.heap.size < lo) (hhi : hi ≤ wx.heap.size) (gb : w.grownBy wx (some g)) (hp : Prs wx g b c us j) (hg : g < w.heap.size) (hb : b < w.heap.size) :
    Blk ((wx.setCell ⟨w.heap.size, 0, none⟩ (.slice VA vl vc)).setCell ⟨w.heap.size, 1, none⟩ (.slice A l cc)) w.heap.size PI [.slice VA vl vc, .slice A l cc] ∧
      OwnP w.heap.size ((wx.setCell ⟨w.heap.size, 0, none⟩ (.slice VA vl vc)).setCell ⟨w.heap.size, 1, none⟩ (.slice A l cc)).heap.size ((wx.setCell ⟨w.heap.size, 0, none⟩ (.slice VA vl vc)).setCell ⟨w.heap.size, 1, none⟩ (.slice A l cc)) (pgv VA vl vc A l cc) p ∧
      w.grownBy ((wx.setCell ⟨w.heap.size, 0, none⟩ (.slice VA vl vc)).setCell ⟨w.heap.size, 1, none⟩ (.slice A l cc)) (some g) ∧
      Prs ((wx.setCell ⟨w.heap.size, 0, none⟩ (.slice VA vl vc)).setCell ⟨w.heap.size, 1, none⟩ (.slice A l cc)) g b c us j := by
  have hs : ((wx.setCell ⟨w.heap.size, 0, none⟩ (.slice VA vl vc)).setCell ⟨w.heap.size, 1, none⟩ (.slice A l cc)).heap.size = wx.heap.size := by simp [World.setCell]
  have hne : ∀ q, q ≠ w.heap.size → ((wx.setCell ⟨w.heap.size, 0, none⟩ (.slice VA vl vc)).setCell ⟨w.heap.size, 1, none⟩ (.slice A l cc)).heap[q]? = wx.heap[q]? := fun q hq => by rw [heap_setCell_other _ _ _ _ hq, heap_setCell_other _ _ _ _ hq]
  refine ⟨(hres.set_ 0 _).set_ 1 _, ?_, fin_gb gb _ _, hp.far (hne _ (by omega)) (hne _ (by omega))⟩
  obtain ⟨cs, e, h⟩ := own
  refine ⟨cs, e, ?_⟩
  rw [hs]
  exact own_iv (h.same fun q hq => hne q (by have := hq.1; omega)) (by omega) hhi
set_option maxHeartbeats 4000000 in
theorem program_any {ts : List Tok} {en g b c : Nat} (hG : ∀ t ∈ ts, GoodT t) (h150 : ts.length ≤ 150) (w : World) (h : Prs w g b c (uz ts en) 0) :
    Calls Tryz.prog 58 #[.pointer (some ⟨g, 0, none⟩)] w (PgmOk ts en g b c w) := by
  have hgl := h.lt
  have hbl := h.blt
  have hb1 := box_below w (.cells #[.slice none 0 0, .slice none 0 0] PI)
  have z1 := size_alloc' w (.cells #[.slice none 0 0, .slice none 0 0] PI)
  have B1 := hid (Blk.new w PI [.slice none 0 0, .slice none 0 0])
  have G1 := hid (gb_below (gb_refl w (some g)) hb1)
  have hv := hid (vars_any (en := en) hG h150 _ (h.below hb1))
  have hst := hid (fun i w1 (h1 : Prs w1 g b c (uz ts en) i) => (program_all (en := en) (g := g) (b := b) (c := c) hG h150 2000).2.2.2 2000 (Nat.le_refl _) i w1 h1 (by unfold needB; omega))
  have hbR : bodyR ts en = match varR ts en with
      | .error a => .error a
      | .ok (V, i) => match bz ts en 2000 i with
        | .error a => .error a
        | .ok (L, j) => .ok (V, L, j) := by
    unfold bodyR varR
    by_cases hs : seesB ts 0 varsW = true
    · rw [if_pos hs, if_pos hs]
      cases vz ts en 2000 1 <;> rfl
    · rw [if_neg hs, if_neg hs]
  have hvl : ∀ V i, varR ts en = .ok (V, i) → ∀ x ∈ V, x.length ≤ 8 := fun V i hv => by
    unfold varR at hv
    split at hv
    · exact (vz_adv _ _ _ _ _ _ hv).2.2.2
    · cases hv
  replace hbR := hid hbR
  replace hvl := hid hvl
  clear h hb1
  go_enter Tryz.func58, Tryz.ntmps58
  go_wp2_with fail
  generalize (w.alloc (.cells #[.slice none 0 0, .slice none 0 0] PI)) = w1 at *
  refine hv.out.mono ?_
  rintro e w2 ⟨v, V, x, i, rfl, hS, hg, hp, hV⟩
  obtain ⟨VA, vc, rfl, -, hvc, hvm, -⟩ := hS.read_
  have z2 := hg.size
  have B2 := B1.out.gb hg (by omega)
  have G2 := gb_trans G1.out hg
  clear hv hg G1 B1
  obtain ⟨vr, hvr⟩ : ∃ vr, vr = varR ts en := ⟨_, rfl⟩
  have hbR2 := hbR.out
  have hvl2 := hvl.out
  rw [← hvr] at hV hbR2 hvl2
  clear hbR hvl hvr
  rcases vr with a | ⟨V', i'⟩
  · obtain rfl : x = errV a := hV
    have hf := ans_finG (VA := none) (vl := 0) (vc := 0) (A := none) (l := 0) (cc := 0) B2 (ownp_zero w2 (w.heap.size + 1) (w.heap.size + 1)) (Nat.lt_succ_self _) B2.lt G2 hp hgl hbl
    obtain ⟨F1, F2, F3, F4⟩ := hf
    have hR := hid (show PgRes (bodyR ts en) pg0 (errV a) i by rw [hbR2]; rfl)
    obtain ⟨r0, r1⟩ := two B2
    have y0 := B2.frozen 0
    have y1 := B2.frozen 1
    replace F1 := hid F1
    replace F2 := hid F2
    replace F3 := hid F3
    replace F4 := hid F4
    clear hbR2 hvl2 hS hp B2 G2 hst
    go_wp2_with fail
    exact bodyPost_ret (results_cell2 Tryz.results58 _ _ w.heap.size 39 _ (0, 0) _ rfl F1.out Tryz.underlying39 rfl (by kernel_rfl)) rfl ⟨_, _, _, _, _, _, _, _, _, rfl, F2.out, F3.out, F4.out, hR.out⟩
  · obtain ⟨rfl, rfl, rfl⟩ := hV
    have hVs : ∀ x ∈ V, x.length ≤ maxI := fun x hx => by have := hvl2 V i rfl x hx; unfold maxI; omega
    have hcl := hid (hst.out i w2 hp)
    replace hbR2 := hid hbR2
    replace hVs := hid hVs
    replace B2 := hid B2
    replace G2 := hid G2
    replace hS := hid hS
    clear hvl2 hp hst
    go_wp2_with fail
    refine hcl.out.mono ?_
    rintro e w3 ⟨A, l, cc, L, x, j, rfl, hO, hg, hp, hB⟩
    have z3 := hg.size
    have B3 := B2.out.gb hg (by omega)
    have G3 := gb_trans G2.out hg
    have S3 := hS.out.same (w' := w3) fun q h1 h2 => hg.block q (by omega) (by simp; omega)
    have hO3 : OwnP w1.heap.size w3.heap.size w3 (pgv VA V.length vc A l cc) ⟨V, L⟩ := ⟨[.slice VA V.length vc, .slice A l cc], rfl, own_pg9 (p := ⟨V, L⟩) hVs.out S3 hO (Nat.le_refl _) (Nat.le_refl _) (Nat.le_refl _) (by omega) (by omega)⟩
    obtain ⟨F1, F2, F3, F4⟩ := ans_finG B3 hO3 (by omega) (Nat.le_refl _) G3 hp hgl hbl
    have hR := hid (show PgRes (bodyR ts en) ⟨V, L⟩ x j by
      rw [hbR2.out]
      cases hb : bz ts en 2000 i with
      | error a => rw [hb] at hB; exact hB
      | ok p =>
        obtain ⟨L', j'⟩ := p
        rw [hb] at hB
        obtain ⟨rfl, rfl, rfl⟩ := hB
        exact ⟨rfl, rfl, rfl⟩)
    obtain ⟨r0, r1⟩ := two B3
    have y0 := B3.frozen 0
    have y1 := B3.frozen 1
    replace F1 := hid F1
    replace F2 := hid F2
    replace F3 := hid F3
    replace F4 := hid F4
    clear hbR2 hS hp B2 G2 B3 G3 S3 hO3 hO hg hB hcl
    go_wp2_with fail
    exact bodyPost_ret (results_cell2 Tryz.results58 _ _ w.heap.size 39 _ (0, 0) _ rfl F1.out Tryz.underlying39 rfl (by kernel_rfl)) rfl ⟨_, _, _, _, _, _, _, _, _, rfl, F2.out, F3.out, F4.out, hR.out⟩
end Go.Proofs.YtklcbagddijkgaaGreatDoor.Gd

/- The program's ParseProgram by its contract. -/
set_option maxRecDepth 100000
namespace Go.Proofs.YtklcbagddijkgaaGreatDoor.Gd
open Go.RowKit Go.Lib Go.Sort Go.Proofs.YtklcbagddijkgaaGreatDoor.Num Go.Proofs.YtklcbagddijkgaaGreatDoor.Com Go.Proofs.YtklcbagddijkgaaGreatDoor.Mem Go.Proofs.YtklcbagddijkgaaGreatDoor.Ow Go.Proofs.YtklcbagddijkgaaGreatDoor.Os Go.Proofs.YtklcbagddijkgaaGreatDoor.Tr Go.Proofs.YtklcbagddijkgaaGreatDoor.Tk Go.Proofs.YtklcbagddijkgaaGreatDoor.Pl Go.Proofs.YtklcbagddijkgaaGreatDoor.Gs Go.Proofs.YtklcbagddijkgaaGreatDoor.Sr

def ErrIsP (q : Except Int Pg) (p : Pg) (x : Value) : Prop := match q with
  | .ok p' => p = p' ∧ x = .nilIface
  | .error a => x = errV a ∨ (a = 0 ∧ ∃ y, x = .iface As.PES (.pointer y))
def WholeP (S : List UInt8) (w : World) (e : Ending) (w' : World) : Prop :=
  ∃ VA vl vc A l cc p x, e = .returned (.tuple #[pgv VA vl vc A l cc, x]) ∧ OwnP w.heap.size w'.heap.size w' (pgv VA vl vc A l cc) p ∧ Below w.heap.size w w' ∧ ErrIsP (progR S) p x
/-- what ParseProgram promises -/
def ProgOk (S : List UInt8) (w : World) (e : Ending) (w' : World) : Prop :=
  ∃ VA vl vc A l cc, e = .returned (.tuple #[pgv VA vl vc A l cc, .int .i64 (progV S).2]) ∧ OwnP w.heap.size w'.heap.size w' (pgv VA vl vc A l cc) (progV S).1 ∧ Below w.heap.size w w'
set_option maxHeartbeats 4000000 in
theorem readP_any (S : List UInt8) (hS : S.length ≤ 9223372036854775807) (w : World) (hnv : NotV w) : Calls Tryz.prog 105 #[.string ⟨S.toArray⟩, .func (Fn.func 58) #[] #[], .func (Fn.func 59) #[] #[]] w (WholeP S w) := by
  have b1 := box_below w (.cells #[.slice none 0 0, .slice none 0 0] PI)
  have B1 := hid (Blk.new w PI [.slice none 0 0, .slice none 0 0])
  have z1 := size_alloc' w (.cells #[.slice none 0 0, .slice none 0 0] PI)
  have hn := newp_any S hS (w.alloc (.cells #[.slice none 0 0, .slice none 0 0] PI))
  unfold NewOk at hn
  have b1 := hid b1
  by_cases hb : (tokz S).2 = -1
  · simp only [if_pos hb] at hn
    have hn := hid hn
    have hsm := tokz_le hb
    have hgd := fun t ht => (tokz_good hsm t ht).1
    have hRe : progR S = progT (tokz S).1 S.length := by unfold progR; rw [if_pos hb]
    have h150 := tokz_len S
    clear hb
    have hgd := hid hgd
    generalize (tokz S).1 = ts at *
    generalize hen : S.length = en at *
    have hRe : progR S = match bodyR ts en with
        | .error a => .error a
        | .ok (V, L, j) => if j < ts.length then .error (errAt ts en j) else if okP ⟨V, L⟩ = true then .ok ⟨V, L⟩ else .error 0 := by
      rw [hRe]; unfold progT
      cases bodyR ts en <;> rfl
    have hadv := hid (fun V L j (h : bodyR ts en = .ok (V, L, j)) => body_adv h)
    obtain ⟨r, hr⟩ : ∃ r, r = bodyR ts en := ⟨_, rfl⟩
    rw [← hr] at hRe hadv
    have hcl := hid (fun g b c w1 (h1 : Prs w1 g b c (uz ts en) 0) => program_any (en := en) (g := g) (b := b) (c := c) hgd.out (by omega) w1 h1)
    replace hRe := hid hRe
    replace hr := hid hr
    go_enter Tryz.func105, Tryz.ntmps105
    go_wp2_with fail
    generalize (w.alloc (.cells #[.slice none 0 0, .slice none 0 0] PI)) = w1 at *
    refine hn.out.mono ?_
    rintro e w2 ⟨hb2, g, b, c, rfl, hp, hg, hbb⟩
    have z2 := hb2.size
    have B2 := hid (B1.out.below hb2 B1.out.lt)
    have b2 := hid (b1.out.trans (hb2.mono b1.out.size))
    have hcl := hid (hcl.out g b c w2 hp)
    clear hb2 hn hp
    go_wp2_with fail
    refine hcl.out.mono ?_
    rintro e w3 ⟨VA, vl, vc, A, l, cc, p, x, j, rfl, ho, hgg, hp, hR⟩
    rw [← hr.out] at hR
    have z3 := hgg.size
    have B3 := B2.out.gb hgg (by omega)
    have b3 : Below w.heap.size w w3 := bgb b2.out hgg (by omega) (by omega)
    have b4 := box_below w3 (.cells #[.slice VA vl vc, .slice A l cc] PI)
    have B4 := B3.below b4 B3.lt
    have q4 := Blk.new w3 PI [.slice VA vl vc, .slice A l cc]
    have bb4 := b3.trans (b4.mono b3.size)
    have p4 := hp.below b4
    have o4 := ho.same (same_below b4 (Nat.le_refl _))
    have z4 := size_alloc' w3 (.cells #[.slice VA vl vc, .slice A l cc] PI)
    obtain ⟨k0, k1⟩ := two q4
    obtain ⟨r0, r1⟩ := two B4
    have y0 := B4.frozen 0
    have y1 := B4.frozen 1
    obtain ⟨hf1, hf2, hf3⟩ := ans_finP B4 o4 (by omega) (by omega) bb4
    replace hf1 := hid hf1
    replace hf2 := hid hf2
    replace hf3 := hid hf3
    clear B3 b3 B2 b2 B1 b1 hgg hcl
    rcases r with a | ⟨V, L, j'⟩
    · obtain rfl : x = errV a := hR
      have hE := hid (show ErrIsP (progR S) p (errV a) by rw [hRe.out]; exact Or.inl rfl)
      clear hRe B4 q4 bb4 p4 o4 b4 ho hp hadv
      go_wp2_with fail
      exact bodyPost_ret (results_cell2 Tryz.results105 _ _ w.heap.size 39 _ (0, 0) _ rfl hf1.out Tryz.underlying39 rfl (by kernel_rfl)) rfl ⟨_, _, _, _, _, _, _, _, rfl, hf2.out, hf3.out, hE.out⟩
    · obtain ⟨rfl, rfl, rfl⟩ := hR
      obtain ⟨hjl0, -, -, hcn, hxn, -⟩ := hadv.out V L j rfl
      have hjl := p4.ilt
      obtain ⟨n', m', hB, hn', hn1, hm'⟩ := p4.blk
      have c0 := hB.cell 0
      have c0 : (w3.alloc (.cells #[.slice VA vl vc, .slice A l cc] PI)).cell? ⟨g, 0, none⟩ = some (.slice (some ⟨b, j * 4, none⟩) n' m') := c0
      obtain ⟨l0, l1, l2, l3⟩ := p4.at_ hjl
      have hiv := hid (ivalidP_cnt _ o4 (show cntL L ≤ 1000 by omega) (show exL L ≤ 1000 by omega))
      have hhe := hid (here_any g b c (uz ts en) j _ p4)
      have hnv4 := hid (hnv.below bb4)
      by_cases hlast : j < ts.length
      · have hk := good_k (hgd.out _ (List.getElem_mem hlast))
        rw [uz_at hlast] at l0
        rw [errAt_uz ts en j (by omega)] at hhe
        have hE := hid (show ErrIsP (progR S) ⟨V, L⟩ (errV (errAt ts en j)) by rw [hRe.out]; simp only; rw [if_pos hlast]; exact Or.inl rfl)
        have tk : (ts[j].k != 0) = true := bne_iff_ne.2 hk
        generalize ts[j].k = kk at *
        clear hk l1 l2 l3 hB p4 o4 bb4 b4 q4 B4 ho hp hiv hnv4 hadv hr hRe
        go_wp2_with fail
        refine hhe.out.mono ?_
        rintro e w5 ⟨rfl, rfl⟩
        go_wp2_with fail
        exact bodyPost_ret (results_cell2 Tryz.results105 _ _ w.heap.size 39 _ (0, 0) _ rfl hf1.out Tryz.underlying39 rfl (by kernel_rfl)) rfl ⟨_, _, _, _, _, _, _, _, rfl, hf2.out, hf3.out, hE.out⟩
      · obtain rfl : j = ts.length := by omega
        rw [uz_end] at l0
        have hR2 := hid (show progR S = if okP ⟨V, L⟩ = true then .ok ⟨V, L⟩ else .error 0 by rw [hRe.out]; simp only; rw [if_neg hlast])
        have hgo := hid (fun (w5 : World) (hb5 : Below (w3.alloc (.cells #[.slice VA vl vc, .slice A l cc] PI)).heap.size (w3.alloc (.cells #[.slice VA vl vc, .slice A l cc] PI)) w5) => (⟨B4.below hb5 B4.lt, q4.below hb5 q4.lt, o4.same (same_below hb5 (by omega)), bb4.trans (hb5.mono bb4.size), hb5.size⟩ :
          Blk w5 w.heap.size PI [.slice none 0 0, .slice none 0 0] ∧ Blk w5 w3.heap.size PI [.slice VA vl vc, .slice A l cc] ∧ OwnP w2.heap.size w3.heap.size w5 (pgv VA vl vc A l cc) ⟨V, L⟩ ∧ Below w.heap.size w w5 ∧ (w3.alloc (.cells #[.slice VA vl vc, .slice A l cc] PI)).heap.size ≤ w5.heap.size))
        have hnv := hid hnv
        clear l1 l2 l3 hB p4 o4 b4 q4 ho hp hhe hadv hr B4 bb4 hnv4 r0 r1 y0 y1 hf1 hf2 hf3 hRe
        cases hok : okP ⟨V, L⟩ with
        | true =>
          have hE := hid (show ErrIsP (progR S) ⟨V, L⟩ .nilIface by rw [hR2.out, hok]; exact ⟨rfl, rfl⟩)
          rw [hok] at hiv
          clear hR2 hok
          go_wp2_with fail
          generalize (w3.alloc (.cells #[.slice VA vl vc, .slice A l cc] PI)) = w4 at *
          refine hiv.out.mono ?_
          rintro e w5 ⟨rfl, hb5⟩
          obtain ⟨B5, q5, o5, b5, z5⟩ := hgo.out w5 hb5
          obtain ⟨hf1, hf2, hf3⟩ := ans_finP B5 o5 (by omega) (by omega) b5
          replace hf1 := hid hf1
          replace hf2 := hid hf2
          replace hf3 := hid hf3
          obtain ⟨m0, m1⟩ := two q5
          obtain ⟨r0, r1⟩ := two B5
          have y0 := B5.frozen 0
          have y1 := B5.frozen 1
          clear B5 q5 o5 b5 hb5 hgo hiv
          go_wp2_with fail
          exact bodyPost_ret (results_cell2 Tryz.results105 _ _ w.heap.size 39 _ (0, 0) _ rfl hf1.out Tryz.underlying39 rfl (by kernel_rfl)) rfl ⟨_, _, _, _, _, _, _, _, rfl, hf2.out, hf3.out, hE.out⟩
        | false =>
          have hE := hid (fun y => show ErrIsP (progR S) ⟨V, L⟩ (.iface As.PES (.pointer y)) by rw [hR2.out, hok]; exact Or.inr ⟨rfl, y, rfl⟩)
          rw [hok] at hiv
          clear hR2 hok
          go_wp2_with fail
          generalize (w3.alloc (.cells #[.slice VA vl vc, .slice A l cc] PI)) = w4 at *
          refine hiv.out.mono ?_
          rintro e w5 ⟨rfl, hb5⟩
          obtain ⟨y, hy⟩ := hnv.out.below (hgo.out w5 hb5).2.2.2.1
          obtain ⟨B5, q5, o5, b5, z5⟩ := hgo.out w5 hb5
          obtain ⟨hf1, hf2, hf3⟩ := ans_finP B5 o5 (by omega) (by omega) b5
          replace hf1 := hid hf1
          replace hf2 := hid hf2
          replace hf3 := hid hf3
          obtain ⟨m0, m1⟩ := two q5
          obtain ⟨r0, r1⟩ := two B5
          have y0 := B5.frozen 0
          have y1 := B5.frozen 1
          clear B5 q5 o5 b5 hb5 hgo hiv
          go_wp2_with fail
          exact bodyPost_ret (results_cell2 Tryz.results105 _ _ w.heap.size 39 _ (0, 0) _ rfl hf1.out Tryz.underlying39 rfl (by kernel_rfl)) rfl ⟨_, _, _, _, _, _, _, _, rfl, hf2.out, hf3.out, hE.out y⟩
  · simp only [if_neg hb] at hn
    have hn := hid hn
    have hRe : progR S = .error (tokz S).2 := by unfold progR; rw [if_neg hb]
    generalize (tokz S).2 = bad at *
    have hE := hid (show ErrIsP (progR S) pg0 (errV bad) by rw [hRe]; exact Or.inl rfl)
    clear hRe hb
    go_enter Tryz.func105, Tryz.ntmps105
    go_wp2_with fail
    generalize (w.alloc (.cells #[.slice none 0 0, .slice none 0 0] PI)) = w1 at *
    refine hn.out.mono ?_
    rintro e w2 ⟨hb2, rfl⟩
    have z2 := hb2.size
    have b3 := box_below w2 (.cells #[.slice none 0 0, .slice none 0 0] PI)
    have z3 := size_alloc' w2 (.cells #[.slice none 0 0, .slice none 0 0] PI)
    have q3 := Blk.new w2 PI [.slice none 0 0, .slice none 0 0]
    have B2 := (B1.out.below hb2 B1.out.lt).below b3 (B1.out.below hb2 B1.out.lt).lt
    have b2 := (b1.out.trans (hb2.mono b1.out.size)).trans (b3.mono (by have := b1.out.size; omega))
    obtain ⟨k0, k1⟩ := two q3
    obtain ⟨r0, r1⟩ := two B2
    have y0 := B2.frozen 0
    have y1 := B2.frozen 1
    obtain ⟨hf1, hf2, hf3⟩ := ans_finP B2 (ownp_zero (w2.alloc (.cells #[.slice none 0 0, .slice none 0 0] PI)) (w.heap.size + 1) (w.heap.size + 1)) (Nat.lt_succ_self _) B2.lt b2
    replace hf1 := hid hf1
    replace hf2 := hid hf2
    replace hf3 := hid hf3
    clear B2 b2 B1 b1 hb2 hn q3 b3
    go_wp2_with fail
    exact bodyPost_ret (results_cell2 Tryz.results105 _ _ w.heap.size 39 _ (0, 0) _ rfl hf1.out Tryz.underlying39 rfl (by kernel_rfl)) rfl ⟨_, _, _, _, _, _, _, _, rfl, hf2.out, hf3.out, hE.out⟩
set_option maxHeartbeats 4000000 in
theorem pwholeP_any (S : List UInt8) (hS : S.length ≤ 9223372036854775807) (w : World) (hnv : NotV w) (hh : As.Handle w) : Calls Tryz.prog 57 #[.string ⟨S.toArray⟩, .func (Fn.func 58) #[] #[], .func (Fn.func 59) #[] #[]] w (ProgOk S w) := by
  have b1 := box_below w (.cells #[.slice none 0 0, .slice none 0 0] PI)
  have B1 := hid (Blk.new w PI [.slice none 0 0, .slice none 0 0])
  have z1 := size_alloc' w (.cells #[.slice none 0 0, .slice none 0 0] PI)
  have hn := hid (readP_any S hS (w.alloc (.cells #[.slice none 0 0, .slice none 0 0] PI)) (hnv.below b1))
  have b1 := hid b1
  have hh := hid hh
  go_enter Tryz.func57, Tryz.ntmps57
  go_wp2_with fail
  generalize (w.alloc (.cells #[.slice none 0 0, .slice none 0 0] PI)) = w1 at *
  refine hn.out.mono ?_
  rintro e w2 ⟨VA, vl, vc, A, l, cc, p, x, rfl, ho, hb, hE⟩
  have z2 := hb.size
  have B2 := B1.out.below hb B1.out.lt
  have b2 := b1.out.trans (hb.mono b1.out.size)
  have b3 := box_below w2 (.cells #[.slice VA vl vc, .slice A l cc] PI)
  have z3 := size_alloc' w2 (.cells #[.slice VA vl vc, .slice A l cc] PI)
  have B3 := B2.below b3 B2.lt
  have q3 := Blk.new w2 PI [.slice VA vl vc, .slice A l cc]
  have bb3 := b2.trans (b3.mono b2.size)
  have o3 := ho.same (same_below b3 (Nat.le_refl _))
  have hh3 := hid (hand_below hh.out bb3)
  clear hb ho b3 b2 B2 b1 B1 hn
  cases hP : progR S with
  | ok p' =>
    rw [hP] at hE
    obtain ⟨rfl, rfl⟩ := hE
    have hV := hid (progV_ok hP)
    obtain ⟨hf1, hf2, hf3⟩ := ans_finP B3 o3 (by omega) (by omega) bb3
    replace hf1 := hid hf1
    replace hf2 := hid hf2
    replace hf3 := hid hf3
    obtain ⟨m0, m1⟩ := two q3
    obtain ⟨r0, r1⟩ := two B3
    have y0 := B3.frozen 0
    have y1 := B3.frozen 1
    clear B3 q3 o3 bb3 hP
    go_wp2_with fail
    exact bodyPost_ret (results_cell2 Tryz.results57 _ _ w.heap.size 39 _ (0, 0) _ rfl hf1.out Tryz.underlying39 rfl (by kernel_rfl)) rfl ⟨_, _, _, _, _, _, by rw [hV.out]; rfl, by rw [hV.out]; exact hf2.out, hf3.out⟩
  | error a =>
    rw [hP] at hE
    have hV := hid (progV_err hP)
    have B3 := hid B3
    have bb3 := hid bb3
    clear hP o3 q3
    have off : ∀ w4, Calls Tryz.prog 85 #[x] w4 (fun e w' => e = .returned (.int .i64 a) ∧ Below w4.heap.size w4 w') ∨ ¬ As.Handle w4 := fun w4 => by
      by_cases h : As.Handle w4
      · left
        rcases hE with rfl | ⟨rfl, y, rfl⟩
        · exact off_hit a _ h
        · exact off_miss y _ h
      · exact Or.inr h
    have off := hid (fun w4 (h : As.Handle w4) => (off w4).resolve_right fun hn => hn h)
    obtain ⟨xT, xv, rfl⟩ : ∃ T v, x = .iface T v := by
      rcases hE with rfl | ⟨_, y, rfl⟩
      · exact ⟨_, _, rfl⟩
      · exact ⟨_, _, rfl⟩
    clear hE
    go_wp2_with fail
    generalize (w2.alloc (.cells #[.slice VA vl vc, .slice A l cc] PI)) = w3 at *
    have b4 := box_below w3 (.cells #[.slice none 0 0, .slice none 0 0] PI)
    have z4 := size_alloc' w3 (.cells #[.slice none 0 0, .slice none 0 0] PI)
    have q4 : Blk (w3.alloc (.cells #[.slice none 0 0, .slice none 0 0] PI)) (w2.heap.size + 1) PI [.slice none 0 0, .slice none 0 0] := by rw [← z3]; exact Blk.new w3 PI _
    have B4 := hid (B3.out.below b4 B3.out.lt)
    have bb4 := hid (bb3.out.trans (b4.mono bb3.out.size))
    have h4 := hid (hand_below (hand_below hh3.out b4) ((Below.refl _ _).drew))
    obtain ⟨k0, k1⟩ := two q4
    replace q4 := hid q4
    clear b4 B3 bb3 hh3 hh
    generalize (w3.alloc (.cells #[.slice none 0 0, .slice none 0 0] PI)) = w4 at *
    have step : ∀ W, Below w4.drew.heap.size w4.drew W → Hid (Blk W (w2.heap.size + 1) PI [.slice none 0 0, .slice none 0 0]) ∧ Hid (Blk W w.heap.size PI [.slice none 0 0, .slice none 0 0]) ∧ Hid (Below w.heap.size w W) := fun W hW => by
      have hW' : Below w4.heap.size w4 W := (Below.refl _ w4).drew.trans hW
      exact ⟨hid (q4.out.below hW' q4.out.lt), hid (B4.out.below hW' B4.out.lt), hid (bb4.out.trans (hW'.mono bb4.out.size))⟩
    go_region_with (first
      | (go_at_call 85; refine (off.out _ h4.out).mono ?_; rintro e w5 ⟨rfl, hb⟩; obtain ⟨Q5, B5, bb5⟩ := step w5 hb; obtain ⟨n0, n1⟩ := two Q5.out; obtain ⟨r0, r1⟩ := two B5.out; have y0 := B5.out.frozen 0; have y1 := B5.out.frozen 1))
    all_goals
      obtain ⟨hf1, hf2, hf3⟩ := ans_finP B5.out (ownp_zero w5 (w.heap.size + 1) (w.heap.size + 1)) (Nat.lt_succ_self _) B5.out.lt bb5.out
      replace hf1 := hid hf1
      replace hf2 := hid hf2
      replace hf3 := hid hf3
      clear step q4 Q5 B5 bb5 n0 n1 r0 r1 y0 y1 k0 k1 off
      go_wp2_with fail
      exact bodyPost_ret (results_cell2 Tryz.results57 _ _ w.heap.size 39 _ (0, 0) _ rfl hf1.out Tryz.underlying39 rfl (by kernel_rfl)) rfl ⟨_, _, _, _, _, _, by rw [hV.out]; rfl, by rw [hV.out]; exact hf2.out, hf3.out⟩
set_option maxHeartbeats 2000000 in
theorem iprog_any (S : List UInt8) (hS : S.length ≤ 9223372036854775807) (w : World) (hnv : NotV w) (hh : As.Handle w) : Calls Tryz.prog 24 #[.string ⟨S.toArray⟩] w (ProgOk S w) := by
  have b1 := box_below w (.cells #[.slice none 0 0, .slice none 0 0] PI)
  have B1 := hid (Blk.new w PI [.slice none 0 0, .slice none 0 0])
  have z1 := size_alloc' w (.cells #[.slice none 0 0, .slice none 0 0] PI)
  have hn := hid (pwholeP_any S hS (w.alloc (.cells #[.slice none 0 0, .slice none 0 0] PI)) (hnv.below b1) (hand_below hh b1))
  have b1 := hid b1
  clear hnv hh
  go_enter Tryz.func24, Tryz.ntmps24
  go_wp2_with fail
  generalize (w.alloc (.cells #[.slice none 0 0, .slice none 0 0] PI)) = w1 at *
  refine hn.out.mono ?_
  rintro e w2 ⟨VA, vl, vc, A, l, cc, rfl, ho, hb⟩
  have z2 := hb.size
  have B2 := B1.out.below hb B1.out.lt
  have b2 := b1.out.trans (hb.mono b1.out.size)
  obtain ⟨hf1, hf2, hf3⟩ := ans_finP B2 ho (by omega) (Nat.le_refl _) b2
  replace hf1 := hid hf1
  replace hf2 := hid hf2
  replace hf3 := hid hf3
  obtain ⟨r0, r1⟩ := two B2
  have y0 := B2.frozen 0
  have y1 := B2.frozen 1
  clear B2 b2 hb ho hn B1 b1
  go_wp2_with fail
  exact bodyPost_ret (results_cell2 Tryz.results24 _ _ w.heap.size 39 _ (0, 0) _ rfl hf1.out Tryz.underlying39 rfl (by kernel_rfl)) rfl ⟨_, _, _, _, _, _, rfl, hf2.out, hf3.out⟩
end Go.Proofs.YtklcbagddijkgaaGreatDoor.Gd

/- Statements of the call's own: marked (markStmtS). -/
set_option maxRecDepth 100000
namespace Go.Proofs.YtklcbagddijkgaaGreatDoor.Gd
open Go.RowKit Go.Lib Go.Sort Go.Proofs.YtklcbagddijkgaaGreatDoor.Com Go.Proofs.YtklcbagddijkgaaGreatDoor.Mem Go.Proofs.YtklcbagddijkgaaGreatDoor.Os Go.Proofs.YtklcbagddijkgaaGreatDoor.Tr

/-- what markStmtS promises -/
def MkL (L : List St) : Prop := ∀ (R : Nat → Prop) (A : Option Addr) (l c k : Nat) (w : World), OwnD w R [.slice A l c] [.sl 1 (dl L)] → (∀ g, R g → g < w.heap.size) → 0 < k → k + nL L ≤ 9223372036000000000 →
  Calls Tryz.prog 78 #[.slice A l c, .int .i64 k] w fun e w' => e = .returned (.int .i64 ((k + nL L : Nat) : Int)) ∧ OwnD w' R [.slice A l c] [.sl 1 (dl (markL k L))] ∧ ChgR w w' R
theorem markL_none (A : Option Addr) (c k : Nat) (w : World) : Calls Tryz.prog 78 #[.slice A 0 c, .int .i64 k] w fun e w' => e = .returned (.int .i64 k) ∧ w = w' := by
  go_enter Tryz.func78, Tryz.ntmps78
  go_wp2_with fail
  refine wp_loop_rounds 1 ?_; rw [rounds_succ]
  go_wp2_with fail
  go_ret
  exact ⟨rfl, rfl⟩
theorem set5_eq (cs : List Value) (o : Nat) (a b c d e : Value) : ((((cs.set o a).set (o + 1) b).set (o + 2) c).set (o + 2 + 1) d).set (o + 2 + 2) e = setN cs o [a, b, c, d, e] := rfl
theorem put5 {a b c d e x0 x1 x2 x3 x4 : Value} {t : List Value} : [a, b, c, d, e] ++ (x0 :: x1 :: x2 :: x3 :: x4 :: t).drop 5 = a :: b :: c :: d :: e :: t := rfl
set_option maxHeartbeats 8000000 in
theorem markL_any : ∀ (M : Nat) (L : List St), cntL L = M → MkL L := by
  intro M
  induction M using Nat.strongRecOn with
  | ind M ih =>
    intro L hM R A l c k w ho hRb hk0 hk1
    obtain ⟨rfl, hlc, hcap, hA0, R2, rows, Rs, hA, hkid, hR, hd, -, -⟩ := ho.sl_inv
    have hNb : (dl L).length ≤ 9223372036854775807 := by unfold maxLen at hcap; omega
    rw [dl_len] at *
    by_cases hz : L.length = 0
    · obtain rfl := List.eq_nil_of_length_eq_zero hz
      refine (markL_none A c k w).mono ?_
      rintro e w' ⟨rfl, rfl⟩
      exact ⟨by simp [nL], by rw [markL]; exact ho, ChgR.refl _ _⟩
    obtain ⟨ad, rfl⟩ : ∃ ad, A = some ad := by
      cases A with
      | none => have := hA0 rfl; omega
      | some ad => exact ⟨ad, rfl⟩
    obtain ⟨g, cs0, rfl, hg, hg2, hblk, hrow, hgd⟩ := hA ad rfl
    have hrow : RowsN 8 cs0 L.length rows := hrow
    have hih : ∀ L' : List St, cntL L' < M → MkL L' := fun L' h => ih _ h L' rfl
    have hR' : ∀ j g, j < L.length → Rs j g → R g := fun j g h1 h2 => (hR j g h1 h2).1
    have hinit := hid (show nL (L.take 0) = 0 by simp [nL])
    have hkid' : ∀ (j : Nat) (e : St), L[j]? = some e → OwnD w (Rs j) (rows j) e.d := fun j e he => hkid j _ (by simp [he])
    clear hA ho ih hR hg2 hA0 hkid
    have hz := hid hz
    have hd := hid hd
    have hgd := hid hgd
    have hih := hid hih
    have hR' := hid hR'
    have hRb := hid hRb
    have hgs := hid (hRb.out g hg)
    have hgR := hid hg
    clear hg
    generalize hN : L.length = N at *
    go_enter Tryz.func78, Tryz.ntmps78
    go_wp2_with fail
    go_loopw [1, 5] (fun a i wr => ∃ (m : Nat) (cs : List Value) (rows' : Nat → List Value), m ≤ N ∧ i = .int .i64 m ∧ a = .int .i64 ((k + nL (L.take m) : Nat) : Int) ∧ Blk wr g SI cs ∧ RowsN 8 cs N rows' ∧
      (∀ (j : Nat) (e : St), L[j]? = some e → OwnD wr (Rs j) (rows' j) (if j < m then markSt (k + nL (L.take j)) e else e).d) ∧ ChgR w wr R) (fun _ i _ => N - (Go.RowKit.intOf i).toNat)
    case atStart => exact ⟨0, cs0, rows, Nat.zero_le _, rfl, by rw [hinit.out]; simp, hblk, hrow, fun j e he => by rw [if_neg (by omega)]; exact hkid' j e he, ChgR.refl _ _⟩
    case round =>
      clear hblk hrow hkid'
      obtain ⟨m, cs, rows', hm, rfl, rfl, hblk, hrow, hkid, hch⟩ := hrel
      by_cases hlt : m < N
      · have hu : L[m]? = some L[m] := List.getElem?_eq_getElem (by omega)
        have hle := nL_le L (m + 1)
        rw [nL_take (by omega)] at hle
        have hst := hid (nL_take (L := L) (m := m) (by omega))
        have hom := hkid m _ hu
        rw [if_neg (by omega)] at hom
        have hcm := cntSt_mem (List.getElem_mem (show m < L.length by omega))
        generalize hT : L[m] = t at *
        obtain ⟨k', s, e, bs, es⟩ := t
        rw [nSt_mk] at hle hst
        obtain ⟨ek, en, en', A', l', c', Bb, cb, C, cc, lo, hi, R2, R3, hrm, hs, oX, oB, oE, d1, d2, d3⟩ := own_st_inv hom
        have hcB : cntL bs < M := by simp only [cntSt] at hcm; omega
        have hcE : cntL es < M := by simp only [cntSt] at hcm; omega
        obtain ⟨-, hr8⟩ := hrow m hlt
        rw [hrm] at hr8
        have c0 := hr8 0 _ rfl
        have c1 := hr8 1 _ rfl
        have c2 := hr8 2 _ rfl
        have c3 := hr8 3 _ rfl
        have c4 := hr8 4 _ rfl
        have c5 := hr8 5 _ rfl
        have c6 := hr8 6 _ rfl
        have c7 := hr8 7 _ rfl
        generalize hq : k + nL (L.take m) = q at *
        have hpos := cnt_pos e
        have hq1 : q + (2 + 3 * cntT e + nL bs + nL es) ≤ 9223372036000000000 := by omega
        have p0 : wr.cell? ⟨g, m * 8, none⟩ = some (.int .i64 k') := by rw [hblk.cell]; exact c0
        have f0 := hblk.frozen (m * 8)
        have hmt1 := fun w => Lh.markText_any (q + 1) (by omega) (by omega) w
        rw [show ((q + 1 : Nat) : Int) = (q : Int) + 1 by omega] at hmt1
        have hmt1 := hid hmt1
        have hmt2 := fun w => Lh.markText_any (q + 4) (by omega) (by omega) w
        rw [show ((q + 4 : Nat) : Int) = (q : Int) + 1 + 1 + 1 + 1 by omega] at hmt2
        have hmt2 := hid hmt2
        have hb0 := hid hblk
        have hr0 := hid hrow
        have hk0' := hid hkid
        have hc0 := hid hch
        have c1 := hid c1
        have c2 := hid c2
        have c3 := hid c3
        have c4 := hid c4
        have c5 := hid c5
        have c6 := hid c6
        have c7 := hid c7
        clear hblk hrow hkid hch c0 hr8
        go_wp2_with fail
        refine (hmt1.out _).mono ?_
        rintro e1 w2 ⟨rfl, hb⟩
        have hB1 := hb0.out.set_ (m * 8) (.int .i64 (q : Int))
        have hB2 := hB1.below hb hB1.lt
        have p1 : w2.cell? ⟨g, m * 8 + 1, none⟩ = some (sv s) := by
          rw [hB2.cell]; simp only [List.getElem?_set]; rw [if_neg (by omega)]; exact c1.out
        have p2 : w2.cell? ⟨g, m * 8 + 2, none⟩ = some (.int .i64 ek) := by
          rw [hB2.cell]; simp only [List.getElem?_set]; rw [if_neg (by omega)]; exact c2.out
        have p3 : w2.cell? ⟨g, m * 8 + 3, none⟩ = some (.int .i64 en) := by
          rw [hB2.cell]; simp only [List.getElem?_set]; rw [if_neg (by omega)]; exact c3.out
        have f1 := hB2.frozen (m * 8 + 1)
        have f2 := hB2.frozen (m * 8 + 2)
        have f3 := hB2.frozen (m * 8 + 3)
        have hX1 := hid (ChgR.trans (ChgR.set1 wr g (m * 8) (.int .i64 (q : Int))) (ChgR.of_below hb _))
        replace hB2 := hid hB2
        clear hB1 hb hmt1
        go_wp2_with fail
        refine (hmt2.out _).mono ?_
        rintro e2 w3 ⟨rfl, hb⟩
        have hB3 := ((hB2.out.set_ (m * 8 + 1) (sv (Lh.mk (q + 1)))).set_ (m * 8 + 2) (.int .i64 ((q : Int) + 1 + 1))).set_ (m * 8 + 2 + 1) (.int .i64 ((q : Int) + 1 + 1 + 1))
        have hB4 := hB3.below hb hB3.lt
        have p4 : w3.cell? ⟨g, m * 8 + 2 + 2, none⟩ = some (sv en') := by
          rw [hB4.cell]; simp only [List.getElem?_set]; rw [if_neg (by omega), if_neg (by omega), if_neg (by omega), if_neg (by omega)]; exact c4.out
        have p5 : w3.cell? ⟨g, m * 8 + 2 + 3, none⟩ = some (.slice A' l' c') := by
          rw [hB4.cell]; simp only [List.getElem?_set]; rw [if_neg (by omega), if_neg (by omega), if_neg (by omega), if_neg (by omega)]; exact c5.out
        have f4 := hB4.frozen (m * 8 + 2 + 2)
        have hX2 := hid (hX1.out.trans (((((ChgR.set1 w2 g (m * 8 + 1) (sv (Lh.mk (q + 1)))).trans (ChgR.set1 _ g (m * 8 + 2) (.int .i64 ((q : Int) + 1 + 1)))).trans (ChgR.set1 _ g (m * 8 + 2 + 1) (.int .i64 ((q : Int) + 1 + 1 + 1)))).trans (ChgR.of_below hb _)).trans (ChgR.set1 w3 g (m * 8 + 2 + 2) (sv (Lh.mk (q + 4))))))
        have hB5 := hid (hB4.set_ (m * 8 + 2 + 2) (sv (Lh.mk (q + 4))))
        clear hB3 hB4 hB2 hb hmt2 hX1 p1 p2 p3 f1 f2 f3
        go_wp2_with fail
        -- the blocks of this statement, and of the others, are not the row's
        have hRs := hid (fun (h : Nat) (hh : Rs m h) => show h ≠ g ∧ h < wr.heap.size from ⟨fun e => by subst e; exact hgd.out m hlt hh, Nat.lt_of_lt_of_le (hRb.out h (hR'.out m h hlt hh)) hc0.out.size⟩)
        have hgI : ¬ Iv lo hi g := fun h => (hRs.out g (d1 g h).1).1 rfl
        have hg2 : ¬ R2 g := fun h => (hRs.out g (d2 g h).1).1 rfl
        have hg3 : ¬ R3 g := fun h => (hRs.out g (d3 g h)).1 rfl
        have hgI := hid hgI
        have hg2 := hid hg2
        have hg3 := hid hg3
        have d1 := hid d1
        have d2 := hid d2
        have d3 := hid d3
        have zX := hid hX2.out.size
        have oX1 := OwnX.chgR oX hX2.out (fun h hh => (hRs.out h (d1.out h hh).1).1) (fun h hh => (hRs.out h (d1.out h hh).1).2)
        have oB1 := hid (OwnD.chg oB hX2.out (fun h hh => (hRs.out h (d2.out h hh).1).1) (fun h hh => (hRs.out h (d2.out h hh).1).2))
        have oE1 := hid (OwnD.chg oE hX2.out (fun h hh => (hRs.out h (d3.out h hh)).1) (fun h hh => (hRs.out h (d3.out h hh)).2))
        have hcl := markE e lo hi ek en en' A' l' c' (q + 5) _ oX1 (by omega) (by omega)
        rw [show ((q + 5 : Nat) : Int) = (q : Int) + 1 + 1 + 1 + 1 + 1 by omega] at hcl
        have hcl := hid hcl
        clear oX1 oX oB oE
        refine hcl.out.mono ?_
        rintro e3 w4 ⟨rfl, oX2, hch⟩
        have hX3 := hid (ChgR.of_chg (R := Iv lo hi) hch fun h hh => hh)
        have oX2 := hid oX2
        have hB6 := blk_chgR hB5.out hX3.out hgI.out
        have p6 : w4.cell? ⟨g, m * 8 + 6, none⟩ = some (.slice Bb bs.length cb) := by
          rw [hB6.cell]; simp only [List.getElem?_set]; rw [if_neg (by omega), if_neg (by omega), if_neg (by omega), if_neg (by omega), if_neg (by omega)]; exact c6.out
        have hB6 := hid hB6
        clear hch hcl p4 p5 f4 hB5
        generalize hq2 : q + 5 + 3 * (cntT e - 1) = q2 at *
        have oB2 := hid (OwnD.chg oB1.out hX3.out (fun h hh hi => ((d1.out h hi).2.1 hh)) (fun h hh => Nat.lt_of_lt_of_le (hRs.out h (d2.out h hh).1).2 zX.out))
        have oE2 := hid (OwnD.chg oE1.out hX3.out (fun h hh hi => ((d1.out h hi).2.2 hh)) (fun h hh => Nat.lt_of_lt_of_le (hRs.out h (d3.out h hh)).2 zX.out))
        have zY := hid (Nat.le_trans zX.out hX3.out.size)
        have hcl := hid (hih.out bs hcB R2 Bb bs.length cb q2 w4 oB2.out (fun h hh => Nat.lt_of_lt_of_le (hRs.out h (d2.out h hh).1).2 zY.out) (by omega) (by omega))
        clear oB1 oE1 oB2
        go_wp2_with fail
        refine hcl.out.mono ?_
        rintro e4 w5 ⟨rfl, oB3, hX4⟩
        have hX4 := hid hX4
        have oB3 := hid oB3
        have hB7 := blk_chgR hB6.out hX4.out hg2.out
        have p7 : w5.cell? ⟨g, m * 8 + 7, none⟩ = some (.slice C es.length cc) := by
          rw [hB7.cell]; simp only [List.getElem?_set]; rw [if_neg (by omega), if_neg (by omega), if_neg (by omega), if_neg (by omega), if_neg (by omega)]; exact c7.out
        have hB7 := hid hB7
        clear hcl p6 hB6
        generalize hq3 : q2 + nL bs = q3 at *
        have oX3 := hid (OwnX.chgR oX2.out hX4.out (fun h hh => (d1.out h hh).2.1) (fun h hh => Nat.lt_of_lt_of_le (hRs.out h (d1.out h hh).1).2 zY.out))
        have oE3 := hid (OwnD.chg oE2.out hX4.out (fun h hh hi => (d2.out h hi).2 hh) (fun h hh => Nat.lt_of_lt_of_le (hRs.out h (d3.out h hh)).2 zY.out))
        have zZ := hid (Nat.le_trans zY.out hX4.out.size)
        have hcl := hid (hih.out es hcE R3 C es.length cc q3 w5 oE3.out (fun h hh => Nat.lt_of_lt_of_le (hRs.out h (d3.out h hh)).2 zZ.out) (by omega) (by omega))
        clear oX2 oE2 oE3
        go_wp2_with fail
        refine hcl.out.mono ?_
        rintro e5 w6 ⟨rfl, oE4, hX5⟩
        have hX5 := hid hX5
        have oE4 := hid oE4
        have hB8 := hid (blk_chgR hB7.out hX5.out hg3.out)
        have oX4 := hid (OwnX.chgR oX3.out hX5.out (fun h hh => (d1.out h hh).2.2) (fun h hh => Nat.lt_of_lt_of_le (hRs.out h (d1.out h hh).1).2 zZ.out))
        have oB4 := hid (OwnD.chg oB3.out hX5.out (fun h hh => (d2.out h hh).2) (fun h hh => Nat.lt_of_lt_of_le (hRs.out h (d2.out h hh).1).2 zZ.out))
        clear hcl p7 hB7 oX3 oB3
        go_wp2_with fail
        have hXa := hid (((hX2.out.mono (R' := fun x => x = g ∨ Rs m x) fun h hh => .inl hh).trans (hX3.out.mono fun h hh => .inr (d1.out h hh).1)).trans ((hX4.out.mono fun h hh => .inr (d2.out h hh).1).trans (hX5.out.mono fun h hh => .inr (d3.out h hh))))
        have hq2' : q2 = q + 2 + 3 * cntT e := by omega
        subst hq3
        subst hq2'
        have hB9 := hB8.out
        rw [set5_eq] at hB9
        have hR9 := RowsN.put (m := m) hr0.out hlt (by decide) [.int .i64 (q : Int), sv (Lh.mk (q + 1)), .int .i64 ((q : Int) + 1 + 1), .int .i64 ((q : Int) + 1 + 1 + 1), sv (Lh.mk (q + 4))] (of_decide_eq_true rfl)
        rw [hrm, show ([.int .i64 (q : Int), sv (Lh.mk (q + 1)), .int .i64 ((q : Int) + 1 + 1), .int .i64 ((q : Int) + 1 + 1 + 1), sv (Lh.mk (q + 4))] : List Value).length = 5 from rfl, put5] at hR9
        generalize setN cs (m * 8) [.int .i64 (q : Int), sv (Lh.mk (q + 1)), .int .i64 ((q : Int) + 1 + 1), .int .i64 ((q : Int) + 1 + 1 + 1), sv (Lh.mk (q + 4))] = cs9 at hB9 hR9
        refine ⟨⟨m + 1, cs9, _, hlt, by go_num, ?_, hB9, hR9, ?_, hc0.out.trans (hXa.out.mono fun h hh => ?_)⟩, by simp [Go.RowKit.intOf]; omega⟩
        · have := hst.out
          congr 1
          omega
        · intro j ej hj
          by_cases e1 : j = m
          · subst e1
            rw [hu] at hj; cases hj
            rw [if_pos rfl, if_pos (by omega), hq, markSt_mk]
            have hx5 := oX4.out
            rw [show q + 5 = q + 2 + 3 by omega] at hx5
            have hmk := OwnE.mark hx5 (by omega)
            rw [show ((q + 2 : Nat) : Int) = (q : Int) + 1 + 1 by omega, show q + 2 + 2 = q + 4 by omega] at hmk
            exact own_st_mk (mk_len _ (by omega) (by omega)) hmk oB4.out oE4.out d1.out d2.out d3.out
          · have hjn := lt_of_get hj
            rw [if_neg e1]
            have hb1 : ∀ h, Rs j h → h < wr.heap.size := fun h hh => Nat.lt_of_lt_of_le (hRb.out h (hR'.out j h (by omega) hh)) hc0.out.size
            have h2 := OwnD.chg (hk0'.out j ej hj) hXa.out (fun h hh h3 => h3.elim (fun e => by subst e; exact hgd.out j (by omega) hh) (fun h3 => by
              rcases Nat.lt_or_ge j m with hjm | hjm
              · exact hd.out j m h hjm hlt hh h3
              · exact hd.out m j h (by omega) (by omega) h3 hh)) hb1
            by_cases hjm : j < m
            · rw [if_pos (by omega)]; rw [if_pos hjm] at h2; exact h2
            · rw [if_neg (by omega)]; rw [if_neg hjm] at h2; exact h2
        · rcases hh with rfl | hh
          · exact hgR.out
          · exact hR'.out m h hlt hh
      · obtain rfl : m = N := by omega
        have hf := hid (show ((k + nL (L.take m) : Nat) : Int) = ((k + nL L : Nat) : Int) by rw [List.take_of_length_le (by omega)])
        have hb0 := hid hblk
        have hr0 := hid hrow
        have hk0' := hid hkid
        have hc0 := hid hch
        clear hblk hrow hkid hch
        go_wp2_with fail
        go_ret
        refine ⟨by rw [← hf.out]; rfl, ?_, hc0.out⟩
        have hml : (dl (markL k L)).length = m := by rw [dl_len, markL_len, hN]
        have hgoal : OwnD wr R [.slice (some ⟨g, 0, none⟩) (dl (markL k L)).length c] [.sl 1 (dl (markL k L))] := by
          refine .sl (R2 := fun _ => False) rows' Rs (by rw [hml]; exact hlc) hcap (fun h => by cases h) (fun ad e => ?_) (fun j e he => ?_) (fun j h hj hh => ⟨hR'.out j h (hml ▸ hj) hh, fun h => h⟩) (fun i j h hij hj => hd.out i j h hij (hml ▸ hj)) (fun h hh => hh.elim) .nil
          · cases e
            exact ⟨g, cs, rfl, hgR.out, fun h => h, hb0.out, by rw [hml]; exact hr0.out, fun j hj => hgd.out j (hml ▸ hj)⟩
          · rw [show dl (markL k L) = (markL k L).map St.d from rfl, List.getElem?_map, markL_at] at he
            cases hkj : L[j]? with
            | none => rw [hkj] at he; cases he
            | some b =>
              rw [hkj] at he
              cases he
              have := hk0'.out j b hkj
              rw [if_pos (by have := lt_of_get hkj; omega)] at this
              exact this
        rw [hml] at hgoal
        exact hgoal
end Go.Proofs.YtklcbagddijkgaaGreatDoor.Gd

/- Statements in the exact laws' words: marked. -/
set_option maxRecDepth 100000
namespace Go.Proofs.YtklcbagddijkgaaGreatDoor.Gd
open Go.RowKit Go.Lib Go.Proofs.YtklcbagddijkgaaGreatDoor.Com Go.Proofs.YtklcbagddijkgaaGreatDoor.Mem Go.Proofs.YtklcbagddijkgaaGreatDoor.Os Go.Proofs.YtklcbagddijkgaaGreatDoor.Tr

end Go.Proofs.YtklcbagddijkgaaGreatDoor.Gd

/- Expressions of the call's own: read again behind their marks. -/
set_option maxRecDepth 100000
namespace Go.Proofs.YtklcbagddijkgaaGreatDoor.Tr
open Go.RowKit Go.Lib Go.Sort Go.Proofs.YtklcbagddijkgaaGreatDoor.Com Go.Proofs.YtklcbagddijkgaaGreatDoor.Mem Go.Proofs.YtklcbagddijkgaaGreatDoor.Os

def kidsT : T → List T
  | .mk _ _ _ ks => ks
theorem cnt_kids (t : T) : cntT t = 1 + cntK (kidsT t) := by
  obtain ⟨k, n, s, ks⟩ := t
  exact cntT_mk k n s ks
theorem mk_node {w : World} {A : Option Addr} {k : Nat} {ks : List T} {vs : Nat → Value} (h : Tr.Kids w w.heap.size A (markK k ks) vs) {m : Nat} (hm : m < ks.length) :
    ∃ ad A' c' vs', A = some ad ∧ w.cell? (ad.add (m * 4)) = some (.int .i64 ((k + 3 * cntK (ks.take m) : Nat) : Int)) ∧ w.cell? ⟨(ad.add (m * 4)).block, (ad.add (m * 4)).off + 1, none⟩ = some (.int .i64 (((k + 3 * cntK (ks.take m) : Nat) : Int) + 1)) ∧
      w.cell? ⟨(ad.add (m * 4)).block, (ad.add (m * 4)).off + 2, none⟩ = some (sv (Lh.mk (k + 3 * cntK (ks.take m) + 2))) ∧ w.cell? ⟨(ad.add (m * 4)).block, (ad.add (m * 4)).off + 3, none⟩ = some (.slice A' (kidsT ks[m]).length c') ∧
      Tr.Kids w w.heap.size A' (markK (k + 3 * cntK (ks.take m) + 3) (kidsT ks[m])) vs' := by
  have hu : (markK k ks)[m]? = some (markN (k + 3 * cntK (ks.take m)) ks[m]) := by rw [markK_at, List.getElem?_eq_getElem hm]; rfl
  have hx := h.kid m _ hu
  obtain ⟨ad, e, _, c0, c1, c2, c3, ev, k0, k1, k2, k3⟩ := h.cell m (by rw [markK_len]; exact hm)
  generalize k + 3 * cntK (ks.take m) = q at *
  generalize ks[m] = a at *
  obtain ⟨ka, na, sa, kk⟩ := a
  rw [markN_mk] at hx
  obtain ⟨A', c', vs', e2, _, _, hk⟩ := hx.kids
  rw [e2] at ev
  injection ev with e1
  have e3 := congrArg Array.toList e1
  simp only [List.cons.injEq] at e3
  obtain ⟨rfl, rfl, rfl, rfl, _⟩ := e3
  rw [markK_len] at k3
  exact ⟨ad, A', c', vs', e, k0, k1, k2, k3, hk⟩
/-- what heldExprS promises of the kids of t -/
def HkE (t : T) : Prop := ∀ (A : Option Addr) (c k : Nat) (vs : Nat → Value) (w : World), Tr.Kids w w.heap.size A (markK k (kidsT t)) vs → 0 < k → k + 3 * (cntT t - 1) ≤ 9223372036854775807 → (kidsT t).length ≤ 9223372036854775807 →
  Calls Tryz.prog 74 #[.slice A (kidsT t).length c, .int .i64 k] w fun e w' => e = .returned (.int .i64 ((k + 3 * (cntT t - 1) : Nat) : Int)) ∧ Below w.heap.size w w'
theorem kid_few {ks : List T} {m : Nat} (hm : m < ks.length) : (kidsT ks[m]).length ≤ cntT ks[m] := by
  have h := cnt_kids ks[m]
  have : ∀ l : List T, l.length ≤ cntK l := fun l => by
    induction l with
    | nil => simp
    | cons a r ih =>
      have := cnt_pos a
      have e : cntK (a :: r) = cntT a + cntK r := by simp [cntK]
      rw [e, List.length_cons]; omega
  have := this (kidsT ks[m])
  omega
set_option maxHeartbeats 4000000 in
theorem heldE (t : T) : HkE t := by
  induction t using T.ind with
  | h kk nn ss ks ih =>
    intro A c k vs w hk hk0 hk1 hl
    rw [cntT_mk] at hk1
    have hcnt := hid (cntT_mk kk nn ss ks)
    have hinit := hid (show cntK (ks.take 0) = 0 by simp [cntK])
    replace hk := hid (show Tr.Kids w w.heap.size A (markK k ks) vs from hk)
    replace hl : ks.length ≤ 9223372036854775807 := hl
    have hih := hid ih
    show Calls Tryz.prog 74 #[.slice A ks.length c, .int .i64 k] w _
    clear ih
    generalize hN : ks.length = N at *
    go_enter Tryz.func74, Tryz.ntmps74
    go_wp2_with fail
    go_loopw [1, 5] (fun a i wr => ∃ m : Nat, m ≤ N ∧ i = .int .i64 m ∧ a = .int .i64 ((k + 3 * cntK (ks.take m) : Nat) : Int) ∧ Below w.heap.size w wr) (fun _ i _ => N - (Go.RowKit.intOf i).toNat)
    case atStart => exact ⟨0, Nat.zero_le _, rfl, by rw [hinit.out]; simp, Below.refl _ _⟩
    case round =>
      obtain ⟨m, hm, rfl, rfl, hb⟩ := hrel
      by_cases hlt : m < N
      · have hkr := hid (hk.out.go hb)
        obtain ⟨ad, A', c', vs', e, k0, k1, k2, k3, -⟩ := mk_node hkr.out (m := m) (by omega)
        subst e
        have hmn := hid (fun (wq : World) (hq : Below wr.heap.size wr wq) => mk_node (hkr.out.go hq) (m := m) (by omega))
        have hle := cntK_le ks (m + 1)
        have hst := cntK_take (ks := ks) (m := m) (by omega)
        have hfew := kid_few (ks := ks) (m := m) (by omega)
        have hpos := cnt_pos ks[m]
        have hml : m < ks.length := by omega
        have hihm := hid (hih.out ks[m] (List.getElem_mem hml))

        have hq1 : k + 3 * cntK (ks.take m) + 3 * cntT ks[m] ≤ 9223372036854775807 := by omega
        have hnx := hid (show ((k + 3 * cntK (ks.take m) + 3 + 3 * (cntT ks[m] - 1) : Nat) : Int) = ((k + 3 * cntK (ks.take (m + 1)) : Nat) : Int) by rw [hst]; congr 1; omega)
        have t9 : decide (((k + 3 * cntK (ks.take m) + 3 + 3 * (cntT ks[m] - 1) : Nat) : Int) < 0) = false := decide_eq_false (by omega)
        generalize hz9 : ((k + 3 * cntK (ks.take m) + 3 + 3 * (cntT ks[m] - 1) : Nat) : Int) = z9 at *
        have hl1 : (kidsT ks[m]).length ≤ 9223372036854775807 := by omega
        have hl2 : 3 * cntT ks[m] ≤ 9223372036854775807 := by omega
        have hkq : 0 < k + 3 * cntK (ks.take m) := by omega
        generalize k + 3 * cntK (ks.take m) = q at *
        replace hz9 := hid hz9
        have cM : ∀ d os, Calls Tryz.prog 121 #[.int .i64 ((q : Int) + 1 + 1)] (grow (redrawn wr d) os) fun e w'' => e = .returned (sv (Lh.mk (q + 2))) ∧ ∃ p : Regrown, w'' = grow (redrawn wr p.d) p.os := fun d os => by
          have := Lh.markText_any (q + 2) (by omega) (by omega) (grow (redrawn wr d) os)
          rw [show ((q + 2 : Nat) : Int) = (q : Int) + 1 + 1 by omega] at this
          exact Calls.regrown_of this
        have hq3 : ((q + 3 : Nat) : Int) = (q : Int) + 1 + 1 + 1 := by omega
        replace hq3 := hid hq3
        generalize Lh.mk (q + 2) = mt at *
        have e0 : ((q : Int) != (q : Int)) = false := bne_self_eq_false _
        have e1 : ((q : Int) + 1 != (q : Int) + 1) = false := bne_self_eq_false _
        have e3 : (mt == mt) = true := beq_self_eq_true _
        have k2r := cell_regrown k2
        have cM := hid cM
        have hb := hid hb
        have hqb : (q : Int) + 3 ≤ 9223372036854775807 := by omega
        replace hq1 := hid hq1
        replace hl1 := hid hl1
        clear k2 k3 hle hst hfew hpos hl2
        go_wp2_with fail
        refine wp_region_quiet_below (by kernel_rfl) (by kernel_rfl) ?_
        repeat (quiet_step (exact cM.out _ _))
        refine wpQuiet_nil ?_
        intro _ hw'
        obtain ⟨⟨dq, osq⟩, hw''⟩ := hw'
        subst hw''
        have hq := below_regrown wr dq osq
        obtain ⟨ad2, A2, c2, vs2, ea, -, -, -, p3, hk2⟩ := hmn.out _ hq
        cases ea
        have hcl := hihm.out A2 c2 (q + 3) vs2 (grow (redrawn wr dq) osq) hk2 (by omega) (by have := hq1.out; omega) hl1.out
        rw [hq3.out, hz9.out] at hcl
        replace hcl := hid hcl
        have hb2 := hid (hb.out.trans (hq.mono hb.out.size))
        clear k0 k1 k2r cM hb hq hk2 hmn hihm
        generalize grow (redrawn wr dq) osq = wq at *
        go_wp2_with fail
        refine hcl.out.mono ?_
        rintro e w3 ⟨rfl, hb3⟩
        replace hb3 := hid (hb2.out.trans (hb3.mono hb2.out.size))
        clear p3 hcl
        go_wp2_with fail
        exact ⟨⟨m + 1, hlt, by go_num, by rw [hnx.out], hb3.out⟩, by simp [Go.RowKit.intOf]; omega⟩
      · obtain rfl : m = N := by omega
        have hf := hid (show ((k + 3 * cntK (ks.take m) : Nat) : Int) = ((k + 3 * (cntT (.mk kk nn ss ks) - 1) : Nat) : Int) by
          rw [List.take_of_length_le (by omega), hcnt.out]; congr 1; omega)
        have hb := hid hb
        go_wp2_with fail
        go_ret
        exact ⟨by rw [← hf.out]; rfl, hb.out⟩
end Go.Proofs.YtklcbagddijkgaaGreatDoor.Tr

/- Statements of the call's own: read again behind their marks. -/
set_option maxRecDepth 100000
namespace Go.Proofs.YtklcbagddijkgaaGreatDoor.Gd
open Go.RowKit Go.Lib Go.Sort Go.Proofs.YtklcbagddijkgaaGreatDoor.Com Go.Proofs.YtklcbagddijkgaaGreatDoor.Mem Go.Proofs.YtklcbagddijkgaaGreatDoor.Os Go.Proofs.YtklcbagddijkgaaGreatDoor.Tr

def stE : St → T
  | .mk _ _ e _ _ => e
def stB : St → List St
  | .mk _ _ _ bs _ => bs
def stL : St → List St
  | .mk _ _ _ _ es => es
theorem hk_row {w : World} {A : Option Addr} {k : Nat} {L : List St} {rows : Nat → List Value} (h : Row w w.heap.size 1 A (dl (markL k L)) rows) {m : Nat} (hm : m < L.length) {q : Nat} (hq : k + nL (L.take m) = q) :
    ∃ ad A' c' vs Bb cb rb C cc rc, A = some ad ∧ LdN w (ad.add (m * 8)) (sc (q : Nat) (Lh.mk (q + 1)) ((q + 2 : Nat) : Int) (((q + 2 : Nat) : Int) + 1) (Lh.mk (q + 2 + 2)) A' (kidsT (stE L[m])).length c' Bb (stB L[m]).length cb C (stL L[m]).length cc) ∧
      Tr.Kids w w.heap.size A' (markK (q + 2 + 3) (kidsT (stE L[m]))) vs ∧ Row w w.heap.size 1 Bb (dl (markL (q + 2 + 3 * cntT (stE L[m])) (stB L[m]))) rb ∧ Row w w.heap.size 1 C (dl (markL (q + 2 + 3 * cntT (stE L[m]) + nL (stB L[m])) (stL L[m]))) rc ∧
      (kidsT (stE L[m])).length ≤ maxI ∧ (stB L[m]).length ≤ maxI ∧ (stL L[m]).length ≤ maxI := by
  subst hq
  have hu : (dl (markL k L))[m]? = some (markSt (k + nL (L.take m)) L[m]).d := by
    rw [show dl (markL k L) = (markL k L).map St.d from rfl, List.getElem?_map, markL_at, List.getElem?_eq_getElem hm]; rfl
  have hx := h.kid m _ hu
  obtain ⟨_, ad, e, _, hld⟩ := h.cell m (lt_of_get hu)
  generalize k + nL (L.take m) = q at *
  generalize L[m] = t at *
  obtain ⟨k', s, ⟨ka, na, sa, kk⟩, bs, es⟩ := t
  rw [markSt_mk, St.d_mk, markN_mk] at hx
  obtain ⟨ek, en, en', A', l, c', Bb, cb, C, cc, rb, rc, e1, _, hE, hB, hlB, hC, hlC⟩ := st_inv hx
  obtain ⟨A2, c2, vs, e2, _, hl, hk⟩ := hE.kids
  injection e2 with e2
  have e3 := congrArg Array.toList e2
  simp only [List.cons.injEq] at e3
  obtain ⟨e4, e5, e6, e7, _⟩ := e3
  injection e4 with _ e4
  injection e5 with _ e5
  injection e7 with e7 e8 e9
  subst e4 e5 e7 e8 e9
  have e6 : sv en' = sv (Lh.mk (q + 2 + 2)) := e6
  rw [dl_len, markL_len] at hlB hlC
  rw [dl_len, dl_len, markL_len, markL_len, markK_len] at e1
  rw [markK_len] at hl
  rw [e1] at hld
  refine ⟨ad, A', c', vs, Bb, cb, rb, C, cc, rc, e, ?_, hk, hB, hC, hl, hlB, hlC⟩
  have e7 : sc (q : Nat) (Lh.mk (q + 1)) ((q + 2 : Nat) : Int) (((q + 2 : Nat) : Int) + 1) en' A' kk.length c' Bb bs.length cb C es.length cc = sc (q : Nat) (Lh.mk (q + 1)) ((q + 2 : Nat) : Int) (((q + 2 : Nat) : Int) + 1) (Lh.mk (q + 2 + 2)) A' kk.length c' Bb bs.length cb C es.length cc := by
    unfold sc; rw [show (sv en') = _ from e6]
  rw [e7] at hld
  exact hld
/-- what heldStmtS promises -/
def HkL (L : List St) : Prop := ∀ (A : Option Addr) (c k : Nat) (rows : Nat → List Value) (w : World), Row w w.heap.size 1 A (dl (markL k L)) rows → 0 < k → k + nL L ≤ 9223372036000000000 → L.length ≤ maxI →
  Calls Tryz.prog 80 #[.slice A L.length c, .int .i64 k] w fun e w' => e = .returned (.int .i64 ((k + nL L : Nat) : Int)) ∧ Below w.heap.size w w'
set_option maxHeartbeats 8000000 in
set_option maxRecDepth 20000 in
theorem heldL_any : ∀ (M : Nat) (L : List St), cntL L = M → HkL L := by
  intro M
  induction M using Nat.strongRecOn with
  | ind M ih =>
    intro L hM A c k rows w hk hk0 hk1 hl
    have hih : ∀ L' : List St, cntL L' < M → HkL L' := fun L' h => ih _ h L' rfl
    have hinit := hid (show nL (L.take 0) = 0 by simp [nL])
    replace hk := hid hk
    replace hl : L.length ≤ 9223372036854775807 := hl
    clear ih
    have hih := hid hih
    generalize hN : L.length = N at *
    go_enter Tryz.func80, Tryz.ntmps80
    go_wp2_with fail
    go_loopw [1, 5] (fun a i wr => ∃ m : Nat, m ≤ N ∧ i = .int .i64 m ∧ a = .int .i64 ((k + nL (L.take m) : Nat) : Int) ∧ Below w.heap.size w wr) (fun _ i _ => N - (Go.RowKit.intOf i).toNat)
    case atStart => exact ⟨0, Nat.zero_le _, rfl, by rw [hinit.out]; simp, Below.refl _ _⟩
    case round =>
      obtain ⟨m, hm, rfl, rfl, hb⟩ := hrel
      by_cases hlt : m < N
      · have hml : m < L.length := by omega
        obtain ⟨q, hq⟩ : ∃ q, k + nL (L.take m) = q := ⟨_, rfl⟩
        have hrow := hid (fun (W : World) (hW : Below w.heap.size w W) => hk_row (hk.out.go hW) hml hq)
        have hle := nL_le L (m + 1)
        have hst := nL_take (L := L) (m := m) hml
        have hcm := cntSt_mem (List.getElem_mem hml)
        obtain ⟨te, hte⟩ : ∃ te, te = stE L[m] := ⟨_, rfl⟩
        obtain ⟨tb, htb⟩ : ∃ tb, tb = stB L[m] := ⟨_, rfl⟩
        obtain ⟨tl, htl⟩ : ∃ tl, tl = stL L[m] := ⟨_, rfl⟩
        have hns : nSt L[m] = 2 + 3 * cntT te + nL tb + nL tl := by
          rw [hte, htb, htl]
          generalize L[m] = t
          obtain ⟨k', s, e, bs, es⟩ := t
          rw [nSt_mk]; rfl
        have hcs : cntL tb < M ∧ cntL tl < M := by
          rw [htb, htl]
          generalize L[m] = t at *
          obtain ⟨k', s, e, bs, es⟩ := t
          simp only [cntSt] at hcm
          show cntL bs < M ∧ cntL es < M
          omega
        rw [← hte, ← htb, ← htl] at hrow
        have hpos := cnt_pos te
        have hnx := hid (show ((q + 2 + 3 * cntT te + nL tb + nL tl : Nat) : Int) = ((k + nL (L.take (m + 1)) : Nat) : Int) by rw [hst, hns]; congr 1; omega)
        have hq1 : q + (2 + 3 * cntT te + nL tb + nL tl) ≤ 9223372036000000000 := by omega
        have hkq : 0 < q := by omega
        rw [hq]
        replace hb := hid hb
        obtain ⟨ad, A', c', vs, Bb, cb, rb, C, cc, rc, eA, hld, -, -, -, -, -, -⟩ := hrow.out wr hb.out
        subst eA
        obtain ⟨x0, x1, -, -, -, -, -, -⟩ := ld8 hld
        have x1r := cell_regrown x1
        have mt1 := fun W => Lh.markText_any (q + 1) (by omega) (by omega) W
        rw [show ((q + 1 : Nat) : Int) = (q : Int) + 1 by omega] at mt1
        have cM := hid (fun (d : Nat) (os : Array Obj) => Calls.regrown_of (d := d) (os := os) (mt1 (grow (redrawn wr d) os)))
        have e0 : ((q : Int) != (q : Int)) = false := bne_self_eq_false _
        have e1 : ∀ s : List UInt8, (s != s) = false := fun s => by simp
        have e1 := e1 (Lh.mk (q + 1))
        have hqb : (q : Int) + 5 ≤ 9223372036854775807 := by omega
        have hE := hid (heldE te)
        have hB8 := hid (hih.out tb hcs.1)
        have hL8 := hid (hih.out tl hcs.2)
        clear hld mt1 hst hle hcm hns hcs hte htb htl hih
        go_wp2_with fail
        refine wp_region_quiet_below (by kernel_rfl) (by kernel_rfl) ?_
        repeat (quiet_step (exact cM.out _ _))
        refine wpQuiet_nil ?_
        intro _ hw'
        obtain ⟨⟨dq, osq⟩, hw''⟩ := hw'
        subst hw''
        have hb := hid (hb.out.trans ((below_regrown wr dq osq).mono hb.out.size))
        clear x0 x1 x1r cM e1
        generalize grow (redrawn wr dq) osq = w2 at *
        obtain ⟨ad2, A', c', vs, Bb, cb, rb, C, cc, rc, eA, hld, -, -, -, -, -, -⟩ := hrow.out w2 hb.out
        cases eA
        obtain ⟨-, -, x2, x3, x4, -, -, -⟩ := ld8 hld
        rw [show ((q + 2 : Nat) : Int) = (q : Int) + 1 + 1 by omega] at x2 x3
        have x4r := cell_regrown x4
        have mt2 := fun W => Lh.markText_any (q + 4) (by omega) (by omega) W
        rw [show ((q + 4 : Nat) : Int) = (q : Int) + 1 + 1 + 1 + 1 by omega] at mt2
        have cM := hid (fun (d : Nat) (os : Array Obj) => Calls.regrown_of (d := d) (os := os) (mt2 (grow (redrawn w2 d) os)))
        have e2 : ((q : Int) + 1 + 1 != (q : Int) + 1 + 1) = false := bne_self_eq_false _
        have e3 : ((q : Int) + 1 + 1 + 1 != (q : Int) + 1 + 1 + 1) = false := bne_self_eq_false _
        have e4 : (Lh.mk (q + 2 + 2) != Lh.mk (q + 2 + 2)) = false := by simp
        have e4 : (Lh.mk (q + 4) != Lh.mk (q + 4)) = false := by simp
        have x4r : ∀ (d : Nat) (os : Array Obj), (grow (redrawn w2 d) os).cell? ⟨(ad.add (m * 8)).block, (ad.add (m * 8)).off + 4, none⟩ = some (sv (Lh.mk (q + 4))) := x4r
        clear hld mt2
        go_wp2_with fail
        refine wp_region_quiet_below (by kernel_rfl) (by kernel_rfl) ?_
        repeat (quiet_step (exact cM.out _ _))
        refine wpQuiet_nil ?_
        intro _ hw'
        obtain ⟨⟨dq, osq⟩, hw''⟩ := hw'
        subst hw''
        have hb := hid (hb.out.trans ((below_regrown w2 dq osq).mono hb.out.size))
        clear x2 x3 x4 x4r cM e2 e3 e4 e0
        generalize grow (redrawn w2 dq) osq = w3 at *
        obtain ⟨ad2, A', c', vs, Bb, cb, rb, C, cc, rc, eA, hld, hkids, -, -, hl1, -, -⟩ := hrow.out w3 hb.out
        cases eA
        obtain ⟨-, -, -, -, -, x5, -, -⟩ := ld8 hld
        have hcl := hE.out A' c' (q + 2 + 3) vs w3 hkids (by omega) (by omega) hl1
        rw [show ((q + 2 + 3 : Nat) : Int) = (q : Int) + 1 + 1 + 1 + 1 + 1 by omega, show q + 2 + 3 + 3 * (cntT te - 1) = q + 2 + 3 * cntT te by omega] at hcl
        obtain ⟨z1, hz1⟩ : ∃ z : Int, ((q + 2 + 3 * cntT te : Nat) : Int) = z := ⟨_, rfl⟩
        rw [hz1] at hcl
        have t1 : decide (z1 < 0) = false := decide_eq_false (by omega)
        have hcl := hid hcl
        replace hz1 := hid hz1
        clear hld hkids hE
        go_wp2_with fail
        refine hcl.out.mono ?_
        rintro e w4 ⟨rfl, hb4⟩
        replace hb := hid (hb.out.trans (hb4.mono hb.out.size))
        clear x5 hcl hb4
        obtain ⟨ad2, A', c', vs, Bb, cb, rb, C, cc, rc, eA, hld, -, hBr, -, -, hl2, -⟩ := hrow.out w4 hb.out
        cases eA
        obtain ⟨-, -, -, -, -, -, x6, -⟩ := ld8 hld
        have hcl := hB8.out Bb cb (q + 2 + 3 * cntT te) rb w4 hBr (by omega) (by omega) hl2
        rw [hz1.out] at hcl
        obtain ⟨z2, hz2⟩ : ∃ z : Int, ((q + 2 + 3 * cntT te + nL tb : Nat) : Int) = z := ⟨_, rfl⟩
        rw [hz2] at hcl
        have t2 : decide (z2 < 0) = false := decide_eq_false (by omega)
        have hcl := hid hcl
        replace hz2 := hid hz2
        clear hld hBr hB8 x4r e4 hl1 hl2
        have hnn := hid hq
        clear hq
        go_wp2_with fail
        refine hcl.out.mono ?_
        rintro e w5 ⟨rfl, hb5⟩
        replace hb := hid (hb.out.trans (hb5.mono hb.out.size))
        clear x6 hcl hb5 t1
        obtain ⟨ad2, A', c', vs, Bb, cb, rb, C, cc, rc, eA, hld, -, -, hCr, -, -, hl3⟩ := hrow.out w5 hb.out
        cases eA
        obtain ⟨-, -, -, -, -, -, -, x7⟩ := ld8 hld
        have hcl := hL8.out C cc (q + 2 + 3 * cntT te + nL tb) rc w5 hCr (by omega) (by omega) hl3
        rw [hz2.out] at hcl
        obtain ⟨z3, hz3⟩ : ∃ z : Int, ((q + 2 + 3 * cntT te + nL tb + nL tl : Nat) : Int) = z := ⟨_, rfl⟩
        rw [hz3] at hcl
        have t3 : decide (z3 < 0) = false := decide_eq_false (by omega)
        have hcl := hid hcl
        replace hz3 := hid hz3
        clear hld hCr hL8
        go_wp2_with fail
        refine hcl.out.mono ?_
        rintro e w6 ⟨rfl, hb6⟩
        replace hb := hid (hb.out.trans (hb6.mono hb.out.size))
        clear x7 hcl hb6 t2
        go_wp2_with fail
        exact ⟨⟨m + 1, hlt, by go_num, by rw [← hz3.out, hnx.out], hb.out⟩, by simp [Go.RowKit.intOf]; omega⟩
      · obtain rfl : m = N := by omega
        have hf := hid (show ((k + nL (L.take m) : Nat) : Int) = ((k + nL L : Nat) : Int) by rw [List.take_of_length_le (by omega)])
        have hb := hid hb
        go_wp2_with fail
        go_ret
        exact ⟨by rw [← hf.out]; rfl, hb.out⟩
end Go.Proofs.YtklcbagddijkgaaGreatDoor.Gd

/- Programs of the call's own: marked, read again behind their marks; compared where both are read. -/
set_option maxRecDepth 100000
namespace Go.Proofs.YtklcbagddijkgaaGreatDoor.Gd
open Go.RowKit Go.Lib Go.Sort Go.Proofs.YtklcbagddijkgaaGreatDoor.Com Go.Proofs.YtklcbagddijkgaaGreatDoor.Mem Go.Proofs.YtklcbagddijkgaaGreatDoor.Os Go.Proofs.YtklcbagddijkgaaGreatDoor.Tr

/-- how many marks a program takes -/
def nP (p : Pg) : Nat := p.vs.length + nL p.body
theorem nL_few (L : List St) : nL L ≤ 2 * cntL L + 3 * exL L := by
  have hs : ∀ L : List St, (∀ a ∈ L, nSt a ≤ 2 * cntSt a + 3 * exSt a) → nL L ≤ 2 * cntL L + 3 * exL L := fun L hL => by
    induction L with
    | nil => simp [nL]
    | cons b r ih =>
      have := hL b (by simp)
      have := ih fun a ha => hL a (by simp [ha])
      simp only [nL, cntL, exL] at *
      omega
  have key : ∀ t : St, nSt t ≤ 2 * cntSt t + 3 * exSt t := fun t => by
    induction t using St.ind with
    | h k s e bs es h1 h2 =>
      have := hs bs h1
      have := hs es h2
      rw [nSt_mk, cntSt, exSt_mk]
      omega
  exact hs L fun a _ => key a
theorem nP_prog (S : List UInt8) : nP (progV S).1 ≤ 1000000 := by
  rcases prog_off S with ⟨p, h, hok, -, hc, hx⟩ | ⟨a, h, _⟩
  · rw [progV_ok h]
    unfold okP varsB at hok
    simp only [Bool.and_eq_true, decide_eq_true_eq] at hok
    have := nL_few p.body
    show nP p ≤ 1000000
    unfold nP
    omega
  · rw [progV_err h]
    show nP ⟨[], []⟩ ≤ 1000000
    simp [nP, nL]
/-- a program whose cells hold its marks -/
def HeldP (w : World) (v : Value) (p : Pg) (k : Nat) : Prop := ∃ A c Bb cb a b rows, v = .agg #[.slice A p.vs.length c, .slice Bb p.body.length cb] ∧ Marked a b w (.slice A p.vs.length c) k p.vs.length ∧ (∀ g, Iv a b g → g < w.heap.size) ∧
  Row w w.heap.size 1 Bb (dl (markL (k + p.vs.length) p.body)) rows ∧ p.body.length ≤ maxI
theorem HeldP.go {w w' : World} {v : Value} {p : Pg} {k : Nat} (h : HeldP w v p k) (hb : Below w.heap.size w w') : HeldP w' v p k := by
  obtain ⟨A, c, Bb, cb, a, b, rows, e, hm, hs, hr, hl⟩ := h
  have hz := hb.size
  exact ⟨A, c, Bb, cb, a, b, rows, e, Own.same hm fun q h1 h2 => hb.block q (hs q ⟨h1, h2⟩), fun g hg => by have := hs g hg; omega, hr.go hb, hl⟩
theorem PgAt.blw {w w' : World} {B : Nat} {v : Value} {p : Pg} (h : PgAt w B v p) (hb : Below B w w') : PgAt w' B v p := by
  obtain ⟨cs, e, hr⟩ := h
  exact ⟨cs, e, hr.blw hb⟩
theorem PgAt.more {w : World} {B B' : Nat} {v : Value} {p : Pg} (h : PgAt w B v p) (hB : B ≤ B') : PgAt w B' v p := by
  obtain ⟨cs, e, hr⟩ := h
  exact ⟨cs, e, hr.more hB⟩
theorem own_pg_inv {w : World} {R : Nat → Prop} {cs : List Value} {p : Pg} (h : OwnD w R cs p.d) :
    ∃ A c a b Bb cb, ∃ R2 : Nat → Prop, cs = [.slice A p.vs.length c, .slice Bb p.body.length cb] ∧ OwnS a b w (.slice A p.vs.length c) p.vs ∧ (∀ g, Iv a b g → R g ∧ ¬ R2 g) ∧ (∀ g, R2 g → R g) ∧ OwnD w R2 [.slice Bb p.body.length cb] [.sl 1 (dl p.body)] ∧ p.body.length ≤ maxI := by
  unfold Pg.d at h
  cases h with
  | @ss _ R2 a b v l cs ds h hs h1 h2 r =>
    obtain ⟨Bb, cb, r', rows, e, -, hl, hnil⟩ := (OwnD.rd r).sl_
    obtain rfl := hnil.nil_
    subst e
    obtain ⟨A, c, rfl, -⟩ := h.read_
    rw [dl_len] at r hl
    exact ⟨A, c, a, b, Bb, cb, R2, by rw [dl_len], h, h1, h2, r, hl⟩
theorem own_row1 {w : World} {R : Nat → Prop} {A : Option Addr} {l c : Nat} {L : List St} (h : OwnD w R [.slice A l c] [.sl 1 (dl L)]) : ∃ rows, Row w w.heap.size 1 A (dl L) rows := by
  obtain ⟨Bx, cx, r', rows, e1, hrow, -, -⟩ := (OwnD.rd h).sl_
  injection e1 with e1 e2
  injection e1 with e3 e4 e5
  subst e3
  exact ⟨rows, hrow⟩
set_option maxHeartbeats 4000000 in
theorem markP_own {lo hi : Nat} {v : Value} {p : Pg} (k : Nat) (w : World) (h : OwnP lo hi w v p) (h0 : 0 < k) (h1 : k + nP p ≤ 9223372036000000000) (hs : hi ≤ w.heap.size) :
    Calls Tryz.prog 32 #[v, .int .i64 k] w fun e w' => e = .returned (.int .i64 ((k + nP p : Nat) : Int)) ∧ HeldP w' v p k ∧ Chg w w' lo hi := by
  obtain ⟨cs, rfl, hd⟩ := h
  obtain ⟨A, c, a, b, Bb, cb, R2, rfl, hV, hdis, hR2, hL, hl⟩ := own_pg_inv hd
  obtain ⟨V, P⟩ := p
  unfold nP at *
  dsimp only at hV hL hl h1 ⊢
  have bx := Blk.new w PI [.slice A V.length c, .slice Bb P.length cb]
  have b1 := box_below w (.cells #[.slice A V.length c, .slice Bb P.length cb] PI)
  have z1 := size_alloc' w (.cells #[.slice A V.length c, .slice Bb P.length cb] PI)
  have hiv : ∀ g, Iv a b g → g < w.heap.size := fun g hg => by have := (hdis g hg).1.2; omega
  have hr2 : ∀ g, R2 g → g < w.heap.size := fun g hg => by have := (hR2 g hg).2; omega
  have hV1 := Own.same hV (w' := w.alloc (.cells #[.slice A V.length c, .slice Bb P.length cb] PI)) fun q g1 g2 => b1.block q (hiv q ⟨g1, g2⟩)
  have hL1 := OwnD.same hL (w' := w.alloc (.cells #[.slice A V.length c, .slice Bb P.length cb] PI)) fun q g1 => b1.block q (hr2 q g1)
  have hm := markS_own (lo := a) (hi := b) (v := .slice A V.length c) (l := V) (k : Int) _ hV1 (by omega) (by omega)
  rw [Int.toNat_natCast, show (k : Int) + (V.length : Int) = ((k + V.length : Nat) : Int) by omega] at hm
  have hL1 := hid hL1
  have hml := (fun wx (hx : OwnD wx R2 [.slice Bb P.length cb] [.sl 1 (dl P)]) (hsz : ∀ g, R2 g → g < wx.heap.size) => markL_any _ P rfl R2 Bb P.length cb (k + V.length) wx hx hsz (by omega) (by omega))
  obtain ⟨k1, hk1⟩ : ∃ z : Int, ((k + V.length : Nat) : Int) = z := ⟨_, rfl⟩
  obtain ⟨k2, hk2⟩ : ∃ z : Int, ((k + V.length + nL P : Nat) : Int) = z := ⟨_, rfl⟩
  have hfin := hid (show k2 = ((k + (V.length + nL P) : Nat) : Int) by omega)
  rw [hk1] at hm hml
  rw [hk2] at hml
  replace hk1 := hid hk1
  replace hk2 := hid hk2
  replace hm := hid hm
  replace hml := hid hml
  have c0 := ChgR.of_below b1 (Iv lo hi)
  have hc0 := hid c0
  replace hdis := hid hdis
  replace hR2 := hid hR2
  replace hiv := hid hiv
  replace hr2 := hid hr2
  have hbx := hid bx
  clear hV hV1 hL hd b1 c0
  go_enter Tryz.func32, Tryz.ntmps32
  obtain ⟨q0, q1⟩ := two bx
  clear bx
  go_wp2_with fail
  refine hm.out.mono ?_
  rintro e w2 ⟨rfl, hmk, hch⟩
  have z2 := hch.size
  have hc2 := ChgR.of_chg (R := Iv lo hi) hch fun g hg => (hdis.out g hg).1
  have hbx2 := hid (blk_chgR hbx.out (ChgR.of_chg (R := Iv a b) hch fun g hg => hg) (fun hg => by have := hiv.out _ hg; omega))
  have hL2 := hL1.out.chg (ChgR.of_chg (R := Iv a b) hch fun g hg => hg) (fun g hg hi => (hdis.out g hi).2 hg) (fun g hg => by have := hr2.out g hg; omega)
  have hc3 := hid (hc0.out.trans hc2)
  have hm2 := hid (hml.out w2 hL2 fun g hg => by have := hr2.out g hg; omega)
  have hmk := hid hmk
  clear hc2 hL2 hch hm hbx hc0 hml q0 q1
  obtain ⟨q0, q1⟩ := two hbx2.out
  go_wp2_with fail
  refine hm2.out.mono ?_
  rintro e w3 ⟨rfl, hmL, hch⟩
  have z3 := hch.size
  have hc4 := hid (hc3.out.trans (hch.mono fun g hg => hR2.out g hg)).chg
  have hmk3 := hid (Own.same hmk.out (w' := w3) fun q g1 g2 => hch.block q (by have := hiv.out q ⟨g1, g2⟩; omega) (hdis.out q ⟨g1, g2⟩).2)
  obtain ⟨rows, hrow⟩ := own_row1 hmL
  have hrow := hid hrow
  clear hmL hch hm2 q0 q1
  go_wp2_with fail
  go_ret
  exact ⟨by rw [hfin.out]; rfl, ⟨A, c, Bb, cb, a, b, rows, rfl, hmk3.out, fun g hg => by have := hiv.out g hg; omega, hrow.out, hl⟩, hc4.out⟩
set_option maxHeartbeats 4000000 in
theorem heldP_own {v : Value} {p : Pg} (k : Nat) (w : World) (h : HeldP w v p k) (h0 : 0 < k) (h1 : k + nP p ≤ 9223372036000000000) :
    Calls Tryz.prog 33 #[v, .int .i64 k] w fun e w' => e = .returned (.int .i64 ((k + nP p : Nat) : Int)) ∧ Below w.heap.size w w' := by
  obtain ⟨A, c, Bb, cb, a, b, rows, rfl, hm, hs, hr, hl⟩ := h
  obtain ⟨V, P⟩ := p
  unfold nP at *
  dsimp only at hm hr hl h1 ⊢
  have bx := Blk.new w PI [.slice A V.length c, .slice Bb P.length cb]
  have b1 := box_below w (.cells #[.slice A V.length c, .slice Bb P.length cb] PI)
  have z1 := size_alloc' w (.cells #[.slice A V.length c, .slice Bb P.length cb] PI)
  have hm1 := Own.same hm (w' := w.alloc (.cells #[.slice A V.length c, .slice Bb P.length cb] PI)) fun q g1 g2 => b1.block q (hs q ⟨g1, g2⟩)
  have hh := heldS_own (n := V.length) (lo := a) (hi := b) (v := .slice A V.length c) (k : Int) _ (by rw [Int.toNat_natCast]; exact hm1) (by omega) (by omega)
  rw [show (k : Int) + (V.length : Int) = ((k + V.length : Nat) : Int) by omega] at hh
  have hhl := fun wx (hb : Below w.heap.size w wx) => heldL_any _ P rfl Bb cb (k + V.length) rows wx (hr.go hb) (by omega) (by omega) hl
  obtain ⟨k1, hk1⟩ : ∃ z : Int, ((k + V.length : Nat) : Int) = z := ⟨_, rfl⟩
  obtain ⟨k2, hk2⟩ : ∃ z : Int, ((k + V.length + nL P : Nat) : Int) = z := ⟨_, rfl⟩
  have t1 : decide (k1 < 0) = false := decide_eq_false (by omega)
  have t2 : decide (k2 < 0) = false := decide_eq_false (by omega)
  rw [hk1] at hh hhl
  rw [hk2] at hhl
  have hfin := hid (show k2 = ((k + (V.length + nL P) : Nat) : Int) by omega)
  replace hh := hid hh
  replace hhl := hid hhl
  replace hk1 := hid hk1
  replace hk2 := hid hk2
  have hbx := hid bx
  have hb1 := hid b1
  clear hm hm1 hs hr hl b1
  go_enter Tryz.func33, Tryz.ntmps33
  obtain ⟨q0, q1⟩ := two bx
  clear bx
  go_wp2_with fail
  refine hh.out.mono ?_
  rintro e w2 ⟨rfl, hb⟩
  have hbx2 := hid (hbx.out.below hb hbx.out.lt)
  have hb2 := hid (hb1.out.trans (hb.mono hb1.out.size))
  clear hb hh hbx hb1 q0 q1
  obtain ⟨q0, q1⟩ := two hbx2.out
  go_wp2_with fail
  refine (hhl.out w2 hb2.out).mono ?_
  rintro e w3 ⟨rfl, hb⟩
  have hb3 := hid (hb2.out.trans (hb.mono hb2.out.size))
  clear hb q0 q1
  go_wp2_with fail
  go_ret
  exact ⟨by rw [hfin.out]; rfl, hb3.out⟩
theorem eqP_at {v v' : Value} {p : Pg} (w : World) (h : PgAt w w.heap.size v p) (h' : PgAt w w.heap.size v' p) :
    Calls Tryz.prog 31 #[v, v'] w fun e w' => e = .returned (.bool true) ∧ Below w.heap.size w w' := by
  obtain ⟨cs, rfl, hr⟩ := h
  obtain ⟨cs', rfl, hr'⟩ := h'
  exact eqPg p cs cs' w hr hr'
end Go.Proofs.YtklcbagddijkgaaGreatDoor.Gd

/- FnExactParseProgram: the law's walk. -/
set_option maxRecDepth 100000
namespace Go.Proofs.YtklcbagddijkgaaGreatDoor.WExactParseProgram
open Go.RowKit Go.Lib Go.Sort Go.Proofs.YtklcbagddijkgaaGreatDoor.Com Go.Proofs.YtklcbagddijkgaaGreatDoor.Mem Go.Proofs.YtklcbagddijkgaaGreatDoor.Os Go.Proofs.YtklcbagddijkgaaGreatDoor.Ow Go.Proofs.YtklcbagddijkgaaGreatDoor.Tr Go.Proofs.YtklcbagddijkgaaGreatDoor.Tk Go.Proofs.YtklcbagddijkgaaGreatDoor.Gd

set_option maxHeartbeats 8000000 in
theorem walk (w : World) (hnv : NotV w) (hh : As.Handle w) (S : List UInt8) (hS : S.length ≤ 9223372036854775807) :
    Calls Tryz.prog 9 #[.string ⟨S.toArray⟩] w fun e w' => e = .returned (.bool true) ∧ Below w.heap.size w w' := by
  by_cases hbig : 1048576 < S.length
  · have t1 : decide (1048576 < (S.length : Int)) = true := decide_eq_true (by omega)
    go_enter Tryz.func9, Tryz.ntmps9
    go_wp2_with fail
    go_ret
    exact ⟨rfl, Below.refl _ _⟩
  have t1 : decide (1048576 < (S.length : Int)) = false := decide_eq_false (by omega)
  have hi1 : ∀ w1, Below w.heap.size w w1 → Calls Tryz.prog 24 #[.string ⟨S.toArray⟩] w1 fun e w' => ∃ VA vl vc A l cc, e = .returned (.tuple #[.agg #[.slice VA vl vc, .slice A l cc], .int .i64 (progV S).2]) ∧ OwnP w1.heap.size w'.heap.size w' (.agg #[.slice VA vl vc, .slice A l cc]) (progV S).1 ∧ Below w1.heap.size w1 w' :=
    fun w1 hb => iprog_any S hS w1 (hnv.below hb) (hand_below hh hb)
  have hi2 : ∀ w1, Calls Tryz.prog 25 #[.string ⟨S.toArray⟩] w1 fun e w' => ∃ VA vl vc A l cc, e = .returned (.tuple #[.agg #[.slice VA vl vc, .slice A l cc], .int .i64 (progV S).2]) ∧ PgAt w' w'.heap.size (.agg #[.slice VA vl vc, .slice A l cc]) (progV S).1 ∧ Below w1.heap.size w1 w' :=
    fun w1 => sprog_any S hS w1
  have hcn := nP_prog S
  generalize progV S = pv at *
  obtain ⟨p, bad⟩ := pv
  dsimp only at hi1 hi2 hcn
  replace hi1 := hid hi1
  replace hi2 := hid hi2
  have cmp : (bad != bad) = false := bne_self_eq_false _
  have hmk := fun v w1 lo hi h hs => markP_own (lo := lo) (hi := hi) (v := v) (p := p) 1 w1 h (by omega) (by omega) hs
  have hhl := fun v w1 h => heldP_own (v := v) (p := p) 1 w1 h (by omega) (by omega)
  obtain ⟨z, hz⟩ : ∃ z : Int, ((1 + nP p : Nat) : Int) = z := ⟨_, rfl⟩
  rw [hz] at hmk hhl
  have cmpm : (z != z) = false := bne_self_eq_false _
  have tm : decide (z < 0) = false := decide_eq_false (by omega)
  replace hz := hid hz
  replace hmk := hid hmk
  replace hhl := hid hhl
  clear hcn hnv hh
  go_enter Tryz.func9, Tryz.ntmps9
  go_wp2_with fail
  refine (hi2.out w).mono ?_
  rintro e w1 ⟨Vw, lw, cw, Aw, mw, dw, rfl, o1, hb⟩
  have b2 := box_below w1 (.cells #[.slice Vw lw cw, .slice Aw mw dw] PI)
  have B2 := hid (hb.trans (b2.mono hb.size))
  have W2 := hid (o1.blw b2)
  have X2 := hid (Blk.new w1 PI [.slice Vw lw cw, .slice Aw mw dw])
  have z1 := hb.size
  have z2 : (w1.alloc (.cells #[.slice Vw lw cw, .slice Aw mw dw] PI)).heap.size = w1.heap.size + 1 := size_alloc' _ _
  clear o1 hb b2 hi2
  go_wp2_with fail
  generalize (w1.alloc (.cells #[.slice Vw lw cw, .slice Aw mw dw] PI)) = w2 at *
  generalize hbw : w1.heap.size = bw at *
  refine (hi1.out w2 B2.out).mono ?_
  rintro e w3 ⟨Vg, lg, cg, Ag, mg, dg, rfl, o3, hb⟩
  have b4 := box_below w3 (.cells #[.slice Vg lg cg, .slice Ag mg dg] PI)
  have z3 := hb.size
  have B4 := hid ((B2.out.trans (hb.mono B2.out.size)).trans (b4.mono (by omega)))
  have W4 := hid ((W2.out.blw (hb.mono (by omega))).blw (b4.mono (by omega)))
  have X4 := hid ((X2.out.below hb X2.out.lt).below b4 (by have := X2.out.lt; omega))
  have G4 := hid (show OwnP _ _ (w3.alloc (.cells #[.slice Vg lg cg, .slice Ag mg dg] PI)) _ _ from o3.same (same_below b4 (Nat.le_refl _)))
  have Y4 := hid (Blk.new w3 PI [.slice Vg lg cg, .slice Ag mg dg])
  have z4 : (w3.alloc (.cells #[.slice Vg lg cg, .slice Ag mg dg] PI)).heap.size = w3.heap.size + 1 := size_alloc' _ _
  clear o3 hb b4 W2 B2 X2
  obtain ⟨g0, g1⟩ := two Y4.out
  obtain ⟨v0, v1⟩ := two X4.out
  have heq := hid (eqP_at _ G4.out.at_ (W4.out.more (by omega)))
  go_wp2_with fail
  generalize (w3.alloc (.cells #[.slice Vg lg cg, .slice Ag mg dg] PI)) = w4 at *
  generalize hbg : w3.heap.size = bg at *
  have ly := Y4.out.lt
  refine heq.out.mono ?_
  rintro e w5 ⟨rfl, hb⟩
  have z5 := hb.size
  have W5 := hid (W4.out.blw (hb.mono (by omega)))
  have X5 := hid (X4.out.below hb (by omega))
  have Y5 := hid (Y4.out.below hb (by omega))
  have G5 := hid (G4.out.same (same_below hb (by omega)))
  have B5 := hid (B4.out.trans (hb.mono (by omega)))
  clear g0 g1 v0 v1 hb heq W4 G4 B4 X4 Y4
  obtain ⟨g0, g1⟩ := two Y5.out
  have hm := hid (hmk.out _ w5 _ _ G5.out (by omega))
  go_wp2_with fail
  refine hm.out.mono ?_
  rintro e w6 ⟨rfl, om, hc⟩
  have z6 := hc.size
  have B56 : Below (bw + 1) w5 w6 := below_chg (Below.refl _ _) hc (by omega) (by omega)
  have W6 := hid (W5.out.blw (B56.mono (by omega)))
  have X6 := hid (blk_chg X5.out hc (by omega))
  have Y6 := hid (blk_chg Y5.out hc (Or.inr (Nat.le_refl _)))
  have B6 := hid (below_chg B5.out hc (by omega) (by omega))
  have O6 := hid om
  clear g0 g1 hc om W5 G5 B5 X5 Y5 B56 hm
  obtain ⟨g0, g1⟩ := two Y6.out
  have hm := hid (hhl.out _ w6 O6.out)
  go_wp2_with fail
  refine hm.out.mono ?_
  rintro e w7 ⟨rfl, hb⟩
  have z7 := hb.size
  have W7 := hid (W6.out.blw (hb.mono (by omega)))
  have X7 := hid (X6.out.below hb (by omega))
  have Y7 := hid (Y6.out.below hb (by omega))
  have O7 := hid (O6.out.go hb)
  have B7 := hid (B6.out.trans (hb.mono (by omega)))
  clear g0 g1 hb W6 X6 Y6 B6 O6 hm
  go_wp2_with fail
  refine (hi1.out w7 B7.out).mono ?_
  rintro e w8 ⟨Vh, lh, ch, Ah, mh, dh, rfl, o8, hb⟩
  have b9 := box_below w8 (.cells #[.slice Vh lh ch, .slice Ah mh dh] PI)
  have z8 := hb.size
  have B9 := hid ((B7.out.trans (hb.mono (by omega))).trans (b9.mono (by omega)))
  have W9 := hid ((W7.out.blw (hb.mono (by omega))).blw (b9.mono (by omega)))
  have X9 := hid ((X7.out.below hb (by omega)).below b9 (by omega))
  have Y9 := hid ((Y7.out.below hb (by omega)).below b9 (by omega))
  have O9 := hid ((O7.out.go hb).go b9)
  have H9 := hid (show OwnP _ _ (w8.alloc (.cells #[.slice Vh lh ch, .slice Ah mh dh] PI)) _ _ from o8.same (same_below b9 (Nat.le_refl _)))
  have V9 := hid (Blk.new w8 PI [.slice Vh lh ch, .slice Ah mh dh])
  have z9 : (w8.alloc (.cells #[.slice Vh lh ch, .slice Ah mh dh] PI)).heap.size = w8.heap.size + 1 := size_alloc' _ _
  clear o8 hb b9 W7 X7 Y7 O7 B7 hi1
  obtain ⟨h0, h1⟩ := two V9.out
  obtain ⟨v0, v1⟩ := two X9.out
  have heq := hid (eqP_at _ H9.out.at_ (W9.out.more (by omega)))
  clear H9
  go_wp2_with fail
  generalize (w8.alloc (.cells #[.slice Vh lh ch, .slice Ah mh dh] PI)) = w9 at *
  refine heq.out.mono ?_
  rintro e w10 ⟨rfl, hb⟩
  have z10 := hb.size
  have O10 := hid (O9.out.go hb)
  have Y10 := hid (Y9.out.below hb (by omega))
  have B10 := hid (B9.out.trans (hb.mono (by omega)))
  clear h0 h1 v0 v1 hb heq W9 X9 Y9 O9 B9 V9
  obtain ⟨g0, g1⟩ := two Y10.out
  have hm := hid (hhl.out _ w10 O10.out)
  go_wp2_with fail
  refine hm.out.mono ?_
  rintro e w11 ⟨rfl, hb⟩
  have B11 := hid (B10.out.trans (hb.mono (by omega)))
  clear g0 g1 hb O10 Y10 B10 hm
  go_wp2_with fail
  go_ret
  exact ⟨rfl, B11.out⟩
end Go.Proofs.YtklcbagddijkgaaGreatDoor.WExactParseProgram
