/- Chapter 8's draws: whole programs. -/
import Derived.Test.YtnmomlaimffonaaGreatZDr10
set_option maxHeartbeats 8000000
set_option maxRecDepth 100000
namespace Go.Proofs.YtnmomlaimffonaaGreat.Gd
open Go.RowKit Go.Lib Com Mem Cur YtnmomlaimffonaaGreat.Os Ow Tr Dr Pl
theorem rd_pg {w : World} {B : Nat} {A Bb : Option Addr} {c cb : Nat} {V : List (List UInt8)} {L : List St} {rows : Nat → List Value} (hr : Rd w B A (V.map sv)) (hs : ∀ x ∈ V, x.length ≤ maxI) (h1 : V.length ≤ maxI) (h2 : V.length ≤ c) (hk : Row w B 1 Bb (dl L) rows) (h3 : L.length ≤ maxI) (h4 : L.length ≤ cb) :
    Rd8 w B (pc A V.length c Bb L.length cb) (Pg.d ⟨V, L⟩) := by
  have f1 : Rd8 w B [.slice Bb L.length cb] [.sl 1 (dl L)] := by
    rw [← dl_len L]
    exact .sl rows (by rw [dl_len]; exact ⟨h3, h4⟩) hk.cell hk.kid .nil
  exact .ss hr hs ⟨h1, h2⟩ f1
theorem names8 (g : Nat) (A : Option Addr) (c : Nat) (xs : List UInt8) (w : World) (hc : CurAt w g A c xs) :
    Calls Tryz.prog 50 #[.pointer (some ⟨g, 0, none⟩)] w fun e w' => ∃ (vb vc : Nat) (V : List (List UInt8)) (cs : List Value), e = .returned (.slice (some ⟨vb, 0, none⟩) V.length vc) ∧ V.length ≤ 2 ∧ V.length ≤ vc ∧ (∀ s ∈ V, s.length ≤ 9) ∧ w.heap.size ≤ vb ∧ Blk w' vb 9 cs ∧ cs.take V.length = V.map sv ∧ Drew w g A c xs w' := by
  have hb0 := box_below w (.cells #[sv [120], sv [121]] 9)
  have s0 := size_alloc' w (.cells #[sv [120], sv [121]] 9)
  have n0 := hid (Blk.new w 9 [sv [120], sv [121]])
  have D0 := hid (show Drew w g A c xs (w.alloc (.cells #[sv [120], sv [121]] 9)) from ⟨cur_alloc hc _, World.grownBy_alloc w _ _⟩)
  have hgw := cur_lt hc
  clear hc hb0
  go_enter Tryz.func50, Tryz.ntmps50
  go_wp2_with fail
  generalize (w.alloc (.cells #[sv [120], sv [121]] 9)) = w1 at *
  have hp := pickInt_lit g A c xs [2, 2, 1, 1, 0] w1 D0.out.1 (by simp) (by simp)
  rw [s0] at hp
  refine hp.mono ?_
  rintro e w2 ⟨⟨s, hs, rfl⟩, hd⟩
  have D2 := hid (drew_tr D0.out hd)
  have n2 := hid (n0.out.gb hd.2 (by omega))
  clear hd D0 hp
  have h3 : s = 2 ∨ s = 1 ∨ s = 0 := by simp at hs; omega
  clear hs
  rcases h3 with rfl | rfl | rfl
  · go_wp2_with fail
    go_ret
    exact ⟨_, 2, [[120], [121]], _, rfl, by simp, by simp, by simp, Nat.le_refl _, n2.out, rfl, D2.out⟩
  · go_wp2_with fail
    go_ret
    exact ⟨_, 2, [[120]], _, rfl, by simp, by simp, by simp, Nat.le_refl _, n2.out, rfl, D2.out⟩
  · go_wp2_with fail
    go_ret
    exact ⟨_, 2, [], _, rfl, by simp, by simp, by simp, Nat.le_refl _, n2.out, rfl, D2.out⟩
def bodyLen (w : World) (pb : Nat) : Nat := match w.cell? ⟨pb, 1, none⟩ with
  | some (.slice _ l _) => l
  | _ => 0
theorem bodyLen_of {w : World} {pb ty : Nat} {u : Value} {B : Option Addr} {l c : Nat} (h : Blk w pb ty [u, .slice B l c]) : bodyLen w pb = l := by
  unfold bodyLen
  rw [h.cell 1]; rfl
theorem own_drew {w w' : World} {base e sz m g : Nat} {v : Value} {xs : List Value} (h : w.ownsRow base e sz v m xs) (hg : w.grownBy w' (some g)) (hlt : g < base) : w'.ownsRow base e sz v m xs :=
  own_keep h fun b hb => hg.block b (own_ge h hb).2 fun e => by cases e; have := (own_ge h hb).1; omega
structure PgD (w : World) (lo hi : Nat) (vv v : Value) (V : List (List UInt8)) (L : List St) : Prop where
  vars : w.ownsRow lo 9 1 vv V.length (V.map sv)
  some_ : vv ≠ .slice none 0 0
  low : ∀ b, vv.ownBlock = some b → b < hi
  le : lo ≤ hi
  top : hi ≤ w.heap.size
  body : GrowO w hi none 1 v (dl L)
theorem PgD.keep {w w' : World} {h lo hi : Nat} {vv v : Value} {V : List (List UInt8)} {L : List St} (hP : PgD w lo hi vv v V L) (hlt : h < lo) (hg : w.grownBy w' (some h)) : PgD w' lo hi vv v V L :=
  ⟨own_drew hP.vars hg hlt, hP.some_, hP.low, hP.le, Nat.le_trans hP.top hg.size, hP.body.keep (Nat.lt_of_lt_of_le hlt hP.le) hg⟩
theorem PgD.below {w w' : World} {lo hi : Nat} {vv v : Value} {V : List (List UInt8)} {L : List St} (hP : PgD w lo hi vv v V L) (hb : Below w.heap.size w w') : PgD w' lo hi vv v V L :=
  ⟨own_keep hP.vars fun b h => hb.block b (own_ge hP.vars h).2, hP.some_, hP.low, hP.le, Nat.le_trans hP.top hb.size, hP.body.below hb⟩
theorem PgD.re {w : World} {lo hi : Nat} {vv v v' : Value} {V : List (List UInt8)} {L L' : List St} (hP : PgD w lo hi vv v V L) (hG : GrowO w hi none 1 v' (dl L')) : PgD w lo hi vv v' V L' :=
  ⟨hP.vars, hP.some_, hP.low, hP.le, hP.top, hG⟩
theorem PgD.mono {w : World} {lo lo' hi : Nat} {vv v : Value} {V : List (List UInt8)} {L : List St} (hP : PgD w lo hi vv v V L) (hl : lo' ≤ lo) : PgD w lo' hi vv v V L :=
  ⟨own_mono hP.vars hl, hP.some_, hP.low, Nat.le_trans hl hP.le, hP.top, hP.body⟩
theorem put_gb (cs : List Value) (w : World) (b : Nat) : w.grownBy (putN w b 0 cs) (some b) :=
  have h := putN_below cs 0 (Below.refl b w) (Nat.le_refl _)
  ⟨h.os, h.tape, h.output, h.size, fun k _ hne => putN_far cs w b 0 k fun e => hne (by rw [e])⟩
theorem pg_fin {w w4 : World} {g c b lo hi : Nat} {A : Option Addr} {xs : List UInt8} {vv v x0 x1 : Value} {V : List (List UInt8)} {L : List St} (hP : PgD w4 (b + 1) hi vv v V L) (hR : Blk w4 b PI [x0, x1]) (hD : Drew w g A c xs w4) (hb : w.heap.size ≤ b) (hgw : g < w.heap.size) (hl : lo ≤ b + 1) :
    Hid (Blk (putN w4 b 0 [vv, v]) b PI [vv, v]) ∧ Hid (PgD (putN w4 b 0 [vv, v]) lo hi vv v V L) ∧ Hid (Drew w g A c xs (putN w4 b 0 [vv, v])) :=
  ⟨hid (putN_blk _ 0 hR), hid ((hP.keep (Nat.lt_succ_self b) (put_gb _ w4 b)).mono hl), hid (drew_row (lo := w.heap.size) hD (fun k h => by cases h; exact hb) (Nat.le_refl _) hgw (put_gb [vv, v] w4 b))⟩
theorem draw8 (g : Nat) (A : Option Addr) (c : Nat) (xs : List UInt8) (vb vc : Nat) (V : List (List UInt8)) (cs : List Value) (w : World) (hc : CurAt w g A c xs) (hl : V.length ≤ 2) (hs : ∀ s ∈ V, s.length ≤ 9) (hne : vb ≠ g) (hV : Blk w vb 9 cs) (ht : cs.take V.length = V.map sv) :
    Calls Tryz.prog 49 #[.pointer (some ⟨g, 0, none⟩), .slice (some ⟨vb, 0, none⟩) V.length vc] w fun e w' => ∃ vv v hi L, e = .returned (.agg #[vv, v]) ∧ PgD w' w.heap.size hi vv v V L ∧ L.length ≤ 3 ∧ cntL L ≤ 192 ∧ nxL L ≤ 4608 ∧ Drew w g A c xs w' := by
  have hgw := cur_lt hc
  have hb0 := box_below w (.cells #[.slice none 0 0, .slice none 0 0] PI)
  have s0 := size_alloc' w (.cells #[.slice none 0 0, .slice none 0 0] PI)
  have R0 := hid (Blk.new w PI [.slice none 0 0, .slice none 0 0])
  have D0 := hid (show Drew w g A c xs (w.alloc (.cells #[.slice none 0 0, .slice none 0 0] PI)) from ⟨cur_alloc hc _, World.grownBy_alloc w _ _⟩)
  have N0 := hid (hV.below hb0 hV.lt)
  have hvl := hV.lt
  have vat := hid (fun (W : World) (h : Blk W vb 9 cs) => (show VarsAt W g (some ⟨vb, 0, none⟩) V from Or.inr ⟨vb, cs, rfl, h, ht, hne⟩))
  have vrd := hid (fun (W : World) (h : Blk W vb 9 cs) => (vat.out W h).rd.1)
  have one := hid (fun (u : Value) (hu : u ∈ V.map sv) => (show u.oneCell' = true from by obtain ⟨y, _, rfl⟩ := List.mem_map.1 hu; rfl))
  have hs18 : ∀ x ∈ V, x.length ≤ maxI := fun x hx => Nat.le_trans (hs x hx) (by decide)
  clear hc hb0 hV
  go_enter Tryz.func49, Tryz.ntmps49
  have hG0 := Grow.lit0 9 (w.alloc (.cells #[.slice none 0 0, .slice none 0 0] PI))
  rw [s0] at hG0
  replace hG0 := hid hG0
  have hbA := box_below (w.alloc (.cells #[.slice none 0 0, .slice none 0 0] PI)) (.cells #[] 9)
  have NA := hid (N0.out.below hbA N0.out.lt)
  have DA := hid (drew_be D0.out hbA)
  have RA := hid (R0.out.below hbA R0.out.lt)
  have sA := size_alloc' (w.alloc (.cells #[.slice none 0 0, .slice none 0 0] PI)) (.cells #[] 9)
  clear hbA
  go_wp2_with (at_builtin; refine hG0.out.appendAll strT (some ⟨vb, 0, none⟩) V.length vc _ (V.map sv) (by simp) (fun e => by cases e) (vrd.out _ NA.out) one.out (by simp; omega) rfl _ _ rfl rfl rfl ?_; intro v1 w1 hg1 hgb1 hv1)
  have hm : (V.map sv).length = V.length := List.length_map _
  rw [List.nil_append] at hg1
  obtain ⟨VA, vc1, rfl, hv2, hv3, hv4, hv5⟩ := hg1.len
  have hnil : (Value.slice VA (V.map sv).length vc1) ≠ .slice none 0 0 := fun e => by cases (hv1.1 e).1
  have hown1 := hg1.1
  rw [hm] at hown1 hnil hv2
  rw [hm]
  have o1 : w1.ownsRow (w.heap.size + 1) 9 1 (.slice VA V.length vc1) V.length (V.map sv) := own_mono hown1 (by omega)
  have hz1 := hgb1.size
  have D1 := hid (drew_row (lo := w.heap.size + 1) (o := some (w.heap.size + 1)) DA.out (fun b h => by cases h; exact Nat.le_refl _) (by omega) hgw hgb1)
  have N1 := hid (blk_row (lo := w.heap.size + 1) (o := some (w.heap.size + 1)) NA.out (fun b h => by cases h; exact Nat.le_refl _) (by omega) hgb1)
  have R1 := hid (blk_row (lo := w.heap.size + 1) (o := some (w.heap.size + 1)) RA.out (fun b h => by cases h; exact Nat.le_refl _) (by omega) hgb1)
  have O1 := hid o1
  clear hg1 hgb1 hv1 hown1 o1 hv4 hv5 hG0 D0 DA N0 NA R0 RA
  refine (blk_any g A c xs 3 (by omega) 3 3 (some ⟨vb, 0, none⟩) vc V w1 (by omega) (by omega) (by omega) D1.out.1 (vat.out _ N1.out) (by omega) hs).mono ?_
  rintro e w2 ⟨v, L, rfl, hG, hLl, hLc, hLx, hd⟩
  have G2 := hG.o
  obtain ⟨B, cb, rows, rfl, hcb, _, _⟩ := G2.rd
  rw [dl_len] at hcb
  rw [dl_len] at G2
  rw [dl_len]
  have P2 := hid (show PgD w2 (w.heap.size + 1) w1.heap.size (.slice VA V.length vc1) (.slice B L.length cb) V L from
    ⟨own_drew O1.out hd.2 (by omega), hnil, fun b h => (own_ge O1.out h).2, by omega, hd.2.size, G2⟩)
  have D2 := hid (drew_tr D1.out hd)
  have R2 := hid (R1.out.gb hd.2 (by omega))
  have hz2 := hd.2.size
  clear hG G2 hd D1 N1 R1 O1 vat vrd one
  have hcnt : cntL L ≤ 192 := Nat.le_trans hLc (by decide)
  have hLx : nxL L ≤ 4608 := by omega
  have hb3 := box_below w2 (.cells #[.slice VA V.length vc1, .slice B L.length cb] PI)
  have s3 := size_alloc' w2 (.cells #[.slice VA V.length vc1, .slice B L.length cb] PI)
  have Q3 := hid (Blk.new w2 PI [.slice VA V.length vc1, .slice B L.length cb])
  replace hb3 := hid hb3
  clear hLc
  go_wp2_with fail
  generalize (w2.alloc (.cells #[.slice VA V.length vc1, .slice B L.length cb] PI)) = w3 at *
  go_loopw [] (fun wr => ∃ (B' : Option Addr) (L' : List St) (cb' : Nat), Blk wr w2.heap.size PI [.slice VA V.length vc1, .slice B' L'.length cb'] ∧ PgD w2 (w.heap.size + 1) w1.heap.size (.slice VA V.length vc1) (.slice B' L'.length cb') V L' ∧ Below w2.heap.size w2 wr ∧ L'.length ≤ 3 ∧ cntL L' ≤ 192 ∧ nxL L' ≤ 4608) (fun wr => bodyLen wr w2.heap.size)
  case atStart => exact ⟨B, L, cb, Q3.out, P2.out, hb3.out, hLl, hcnt, hLx⟩
  case round =>
    obtain ⟨B', L', cb', hQ, hP, hB, h1, h2, h3⟩ := hrel
    clear Q3 hb3
    have hPr := hP.below hB
    obtain ⟨B0, c0, rows0, e0, q1, q2, q3⟩ := hPr.body.rd
    rw [dl_len] at e0 q1 q3
    cases e0
    have hsv := svalidP ⟨V, L'⟩ (show exL L' ≤ 1900000 by have := ex_nx L'; omega) (show cntL L' ≤ 1900000 by omega) _ wr (rd_pg (own_rd hPr.vars) hs18 (show V.length ≤ maxI by unfold maxI; omega) hv2 (q2.cry (Cry.ezb_out wr _ _) (Nat.le_refl _)) q3 q1)
    obtain ⟨k0, k1⟩ := two hQ
    have hbl := bodyLen_of hQ
    have hQ := hid hQ
    have hP := hid hP
    have hB := hid hB
    have hsv := hid hsv
    clear q2 hPr
    generalize okP ⟨V, L'⟩ = q at *
    cases q with
    | true =>
        go_wp2_with fail
        refine hsv.out.mono ?_
        rintro e w4 ⟨rfl, hb⟩
        have Q4 := hQ.out.below hb hQ.out.lt
        have b4 := hB.out.trans (hb.mono hB.out.size)
        have R4 := R2.out.below b4 R2.out.lt
        obtain ⟨F1, F2, F3⟩ := pg_fin (lo := w.heap.size) (hP.out.below b4) R4 (drew_be D2.out b4) (Nat.le_refl _) hgw (by omega)
        obtain ⟨k0, k1⟩ := two Q4
        obtain ⟨x0, x1⟩ := two R4
        have f0 := R4.frozen 0
        have f1 := R4.frozen 1
        clear hb hsv hQ hP hB b4 Q4 R4
        go_wp2_with fail
        exact bodyPost_ret (results_cell_row Tryz.results49 _ _ w.heap.size PI _ (0, 0) _ rfl F1.out Tryz.underlying27 rfl (by kernel_rfl)) rfl ⟨_, _, _, _, rfl, F2.out, h1, h2, h3, F3.out⟩
    | false =>
      cases L' with
      | nil =>
        go_wp2_with fail
        refine hsv.out.mono ?_
        rintro e w4 ⟨rfl, hb⟩
        have Q4 := hQ.out.below hb hQ.out.lt
        have b4 := hB.out.trans (hb.mono hB.out.size)
        have R4 := R2.out.below b4 R2.out.lt
        obtain ⟨F1, F2, F3⟩ := pg_fin (lo := w.heap.size) (hP.out.below b4) R4 (drew_be D2.out b4) (Nat.le_refl _) hgw (by omega)
        obtain ⟨k0, k1⟩ := two Q4
        obtain ⟨x0, x1⟩ := two R4
        have f0 := R4.frozen 0
        have f1 := R4.frozen 1
        clear hb hsv hQ hP hB b4 Q4 R4
        go_wp2_with fail
        exact bodyPost_ret (results_cell_row Tryz.results49 _ _ w.heap.size PI _ (0, 0) _ rfl F1.out Tryz.underlying27 rfl (by kernel_rfl)) rfl ⟨_, _, _, _, rfl, F2.out, h1, h2, h3, F3.out⟩
      | cons d L'' =>
        have ht := GrowO.tail (d := d.d) (L := dl L'') hP.out.body
        obtain ⟨gb, off, cap, e5, hc5, t5, t6⟩ := ht
        rw [dl_len] at e5 hc5 t5 t6
        cases e5
        simp only [cntL] at h2
        simp only [nxL] at h3
        rw [List.length_cons] at k1 h1 q3 q1 hbl
        rw [List.length_cons] at hsv hQ
        have t1 : decide (0 < (L''.length + 1)) = true := decide_eq_true (by omega)
        have hnx := hid (show ∀ A5, A5 = (if cb' = 1 then some ⟨gb, off, none⟩ else some ⟨gb, off + 8, none⟩ : Option Addr) → PgD w2 (w.heap.size + 1) w1.heap.size (.slice VA V.length vc1) (.slice A5 L''.length (cb' - 1)) V L'' from fun A5 e => hP.out.re (by
          subst e
          split
          · rename_i h; exact t6 h
          · exact t5))
        clear hP t5 t6
        go_wp2_with fail
        refine hsv.out.mono ?_
        rintro e w4 ⟨rfl, hb⟩
        have Q4 := hQ.out.below hb hQ.out.lt
        have b4 := hid (hB.out.trans (hb.mono hB.out.size))
        obtain ⟨k0, k1⟩ := two Q4
        have f0 := Q4.frozen 0
        have f1 := Q4.frozen 1
        replace Q4 := hid Q4
        clear hb hsv hQ hB
        go_wp2_with fail
        generalize hA5 : (if cb' = 1 then some ⟨gb, off, none⟩ else some ⟨gb, off + 8, none⟩ : Option Addr) = A5
        have Q5 : Blk (w4.setCell ⟨w2.heap.size, 1, none⟩ (.slice A5 L''.length (cb' - 1))) w2.heap.size PI [.slice VA V.length vc1, .slice A5 L''.length (cb' - 1)] := Q4.out.set_ 1 _
        refine ⟨⟨A5, L'', cb' - 1, Q5, hnx.out A5 hA5.symm, b4.out.setCell (Nat.le_refl _) _, by omega, by omega, by omega⟩, ?_⟩
        rw [bodyLen_of Q5, hbl]; omega
theorem GrowO.rdP {w : World} {lo n : Nat} {P : Option Nat} {v : Value} {L : List (List D)} (hG : GrowO w lo P n v L) : ∃ A c rows, v = .slice A L.length c ∧ L.length ≤ c ∧ Row (ezo (ezb w lo) P) w.heap.size n A L rows ∧ L.length ≤ maxI := by
  obtain ⟨⟨rfl, rfl⟩ | ⟨g, off, cap, cs, rows, rfl, h1, h2, h3, h4, h5, h6, h7, h8⟩⟩ := hG
  · exact ⟨none, 0, fun _ => [], rfl, Nat.le_refl _, ⟨fun j hj => by simp at hj, fun j e he => by simp at he⟩, by simp⟩
  · refine ⟨_, _, rows, rfl, h3, ⟨fun j hj => ⟨(h6 j hj).1, _, rfl, h2.lt, fun i u hu => ?_⟩, fun j e he => (h7 j e he).cry (fun p v hp hv => ?_) (Nat.le_refl _)⟩, by unfold maxLen at h4; unfold maxI; omega⟩
    · rw [show ((⟨g, off, none⟩ : Addr).add (j * wd n)).add i = ⟨g, off + (j * wd n + i), none⟩ by rw [Addr.add_lit, Addr.add_lit, Nat.add_assoc]]
      exact ezo_cell_in (fun b e => h8 b e) (ezb_in h1 (by rw [pln_in (Blk.pl h2), h2.cell]; exact (h6 j hj).2 i u hu))
    · obtain ⟨q0, hv⟩ := ezo_cell hv
      exact ezo_cell_in q0 (ezo_cell hv).2
theorem GrowO.one {w : World} {lo n : Nat} {P : Option Nat} (hlo : lo ≤ w.heap.size) (hP : ∀ b, P = some b → b < w.heap.size) (new : List Value) (d : List D) (hn : new.length = wd n) (hr : Rd8 (ezo (ezb w lo) P) w.heap.size new d) :
    GrowO (w.alloc (.cells new.toArray (tyI n))) lo P n (.slice (some ⟨w.heap.size, 0, none⟩) 1 1) [d] := by
  have hb := box_below w (.cells new.toArray (tyI n))
  refine ⟨Or.inr ⟨w.heap.size, 0, 1, new, fun _ => new, rfl, hlo, Blk.new w _ _, Nat.le_refl _, by unfold maxLen; omega, by omega, fun j hj => ?_, fun j e he => ?_, fun b e => by have := hP b e; omega⟩⟩
  · obtain rfl : j = 0 := by simp at hj; exact hj
    exact ⟨hn, fun i u hu => by rw [Nat.zero_mul, Nat.zero_add, Nat.zero_add]; exact hu⟩
  · obtain rfl : j = 0 := by have := lt_of_get he; simp at this; exact this
    cases he
    refine hr.cry (fun p v hp hv => ?_) hb.size
    obtain ⟨q0, hv⟩ := ezo_cell hv
    refine ezo_cell_in q0 (ezo_cell_in (fun b e => by cases e; omega) ?_)
    exact Cry.two (o := none) (fun k hk _ _ => hb.block k hk) p v hp hv
theorem ex_leaf (w : World) (B : Nat) (k n : Int) (s : List UInt8) (hs : s.length ≤ maxI) : Ex w B (nv k n s none 0 0) (.mk k n s []) :=
  Ex.mk (ks := []) none 0 (fun _ => .nilFunc) hs (by simp) (fun j hj => by simp at hj) (fun j a ha => by simp at ha)
def PgOut (W : World) (lo : Nat) (v : Value) (V : List (List UInt8)) (L : List St) : Prop := ∃ (VA : Option Addr) (vc : Nat) (B : Option Addr) (bc : Nat) (rows : Nat → List Value), v = .agg #[.slice VA V.length vc, .slice B L.length bc] ∧ V.length ≤ vc ∧ Rd (ezb W lo) W.heap.size VA (V.map sv) ∧ (∀ ad, VA = some ad → ad = ⟨ad.block, 0, none⟩) ∧ L.length ≤ bc ∧ L.length ≤ maxI ∧ Row (ezb W lo) W.heap.size 1 B (dl L) rows
theorem own_rdb {w : World} {lo e m : Nat} {v : Value} {xs : List Value} (h : w.ownsRow lo e 1 v m xs) : ∃ A c, v = .slice A m c ∧ m ≤ c ∧ Rd (ezb w lo) w.heap.size A xs ∧ ∀ ad, A = some ad → ad = ⟨ad.block, 0, none⟩ := by
  have hx := h.1
  rcases h.2 with ⟨rfl, rfl⟩ | ⟨g, cap, cur, rfl, hg, hblk, hnc, hcm, hcs, ht⟩
  · exact ⟨none, 0, rfl, Nat.le_refl _, fun hne => absurd (List.eq_nil_of_length_eq_zero (by simpa using hx)) hne, fun ad e => by cases e⟩
  · refine ⟨_, _, rfl, hnc, fun _ => ⟨_, rfl, (Array.getElem?_eq_some_iff.1 hblk).1, fun j u hu => ?_⟩, fun ad e => by cases e; rfl⟩
    rw [← ht, List.getElem?_take] at hu
    split at hu
    · rw [Addr.add_lit, Nat.zero_add]
      refine ezb_in hg ?_
      rw [pln_in ⟨_, _, hblk⟩]
      unfold World.cell?
      rw [hblk]
      simpa using hu
    · cases hu
structure PbD (W : World) (b hi pb : Nat) (vv v : Value) (V : List (List UInt8)) (L : List St) : Prop where
  vars : W.ownsRow b 9 1 vv V.length (V.map sv)
  body : GrowO W hi (some pb) 1 v (dl L)
  le : b ≤ hi
  blk : Blk W pb PI [vv, v]
theorem PbD.out {W : World} {b hi pb lo : Nat} {vv v : Value} {V : List (List UInt8)} {L : List St} (h : PbD W b hi pb vv v V L) (hl : lo ≤ b) : PgOut W lo (.agg #[vv, v]) V L := by
  obtain ⟨VA, vc, rfl, h1, h2, h3⟩ := own_rdb (own_mono h.vars hl)
  obtain ⟨B, bc, rows, rfl, q1, q2, q3⟩ := h.body.rd
  rw [dl_len] at q1 q3 ⊢
  exact ⟨VA, vc, B, bc, rows, rfl, h1, h2, h3, q1, q3, q2.cry (Cry.ezb_mono W (by have := h.le; omega) _) (Nat.le_refl _)⟩
theorem PbD.keep {W W' : World} {b hi pb h : Nat} {vv v : Value} {V : List (List UInt8)} {L : List St} (hP : PbD W b hi pb vv v V L) (hlt : h < b) (hp : pb ≠ h) (hg : W.grownBy W' (some h)) : PbD W' b hi pb vv v V L :=
  ⟨own_drew hP.vars hg hlt, hP.body.keep (Nat.lt_of_lt_of_le hlt hP.le) hg, hP.le, hP.blk.gb hg hp⟩
theorem PbD.below {W W' : World} {b hi pb : Nat} {vv v : Value} {V : List (List UInt8)} {L : List St} (hP : PbD W b hi pb vv v V L) (hb : Below W.heap.size W W') : PbD W' b hi pb vv v V L :=
  ⟨own_keep hP.vars fun b h => hb.block b (own_ge hP.vars h).2, hP.body.below hb, hP.le, hP.blk.below hb hP.blk.lt⟩
theorem pb_fin {w W : World} {g c b hi pb : Nat} {A : Option Addr} {xs : List UInt8} {vv v x0 x1 : Value} {V : List (List UInt8)} {L : List St} (hP : PbD W (b + 1) hi pb vv v V L) (hR : Blk W b PI [x0, x1]) (hD : Drew w g A c xs W) (hb : w.heap.size ≤ b) (hgw : g < w.heap.size) (hp : pb ≠ b) :
    Hid (Blk (putN W b 0 [vv, v]) b PI [vv, v]) ∧ Hid (PgOut (putN W b 0 [vv, v]) w.heap.size (.agg #[vv, v]) V L) ∧ Hid (Drew w g A c xs (putN W b 0 [vv, v])) :=
  ⟨hid (putN_blk _ 0 hR), hid ((hP.keep (Nat.lt_succ_self b) hp (put_gb _ W b)).out (by omega)), hid (drew_row (lo := w.heap.size) hD (fun k h => by cases h; exact hb) (Nat.le_refl _) hgw (put_gb [vv, v] W b))⟩
end Go.Proofs.YtnmomlaimffonaaGreat.Gd
