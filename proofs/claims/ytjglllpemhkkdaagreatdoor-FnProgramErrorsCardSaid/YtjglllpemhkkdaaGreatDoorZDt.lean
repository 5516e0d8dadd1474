/- What a draw bends: l1Turned. -/
import Derived.Test.YtjglllpemhkkdaaGreatDoorZCur
import Derived.Test.YtjglllpemhkkdaaGreatDoorZTk
import Derived.Test.YtjglllpemhkkdaaGreatDoorZDr10
import Derived.Test.YtjglllpemhkkdaaGreatDoorZS8a
import Derived.Test.YtjglllpemhkkdaaGreatDoorZTx8
set_option maxRecDepth 100000
namespace Go.Proofs.YtjglllpemhkkdaaGreatDoor.Dr
open Go.RowKit Go.Lib Com Mem Cur YtjglllpemhkkdaaGreatDoor.Os Ow Tk
theorem bsz (x : List UInt8) : (⟨x.toArray⟩ : ByteArray).size = x.length := by simp [ByteArray.size]
def UpTo (n : Nat) (e : Ending) : Prop := ∃ r : List UInt8, e = .returned (sv r) ∧ r.length ≤ n
theorem upTo_of {n : Nat} (X : ByteArray) (h : X.size ≤ n) : UpTo n (.returned (.string X)) := ⟨X.data.toList, by cases X; simp, by rw [Array.length_toList]; exact h⟩
theorem rd_gb {w w2 : World} {g B : Nat} {L : Option Addr} {X : List Value} (h : Rd w B L X) (hB : ∀ ad, L = some ad → ad.block ≠ g) (hBw : B ≤ w.heap.size) (hg : w.grownBy w2 (some g)) : Rd w2 B L X := fun hne => by
  obtain ⟨ad, e, hb, hc⟩ := h hne
  exact ⟨ad, e, hb, fun j u hu => (World.cell?_of_block (hg.block (ad.add j).block (by rw [add_block]; omega) (fun e' => hB ad e (by rw [add_block] at e'; exact Option.some.inj e')))).trans (hc j u hu)⟩
set_option maxHeartbeats 4000000 in
theorem turned_any (g : Nat) (A : Option Addr) (c : Nat) (xs : List UInt8) (s : List UInt8) (hs : s.length ≤ 140737488355330) (L : Option Addr) (cap : Nat) (l : List (List UInt8)) (w : World) (hc : CurAt w g A c xs) (hL : Rd w w.heap.size L (l.map sv)) (hB : ∀ ad, L = some ad → ad.block ≠ g) (h0 : 0 < l.length) (hl : l.length ≤ 1048576) (hm : ∀ x ∈ l, x.length ≤ 8) :
    Calls Tryz.prog 55 #[.pointer (some ⟨g, 0, none⟩), .string ⟨s.toArray⟩, .slice L l.length cap] w fun e w' => UpTo (s.length + 8) e ∧ Drew w g A c xs w' := by
  have hb := hid (below_any g A c xs ((s.length : Int) + 1) w hc (by omega) (by omega))
  clear hc
  have hL := hid hL
  go_enter Tryz.func55, Tryz.ntmps55
  go_wp2_with fail
  refine hb.out.mono ?_
  rintro e w1 ⟨⟨a, rfl, ha, _⟩, hd⟩
  have ha' : a ≤ s.length := by omega
  have d1 := hid hd
  clear hd hb ha
  go_wp2_with fail
  refine (below_any g A c xs 6 w1 d1.out.1 (by omega) (by omega)).mono ?_
  rintro e w2 ⟨⟨q, rfl, hq, _⟩, hd⟩
  have d2 := hid (dr_then d1.out hd)
  clear hd d1
  have hx1 := txt_cut s 0 a
  rw [List.drop_zero, Nat.sub_zero] at hx1
  have hx2 := txt_cut s a s.length
  rw [List.take_of_length_le (by rw [List.length_drop]; exact Nat.le_refl _)] at hx2
  by_cases q0 : q = 0
  · subst q0
    have hdw : Below w2.heap.size w2 w2.drew := (Below.refl _ _).drew
    have d2' := hid (dr_below d2.out hdw)
    have hR := hid (show Rd w2.drew w2.drew.heap.size L (l.map sv) from ((rd_gb hL.out hB (Nat.le_refl _) d2'.out.2).more d2'.out.2.size))
    have step : ∀ w9, Drew w2.drew g A c xs w9 → Hid (Drew w g A c xs w9) := fun w9 hd => hid (dr_then d2'.out hd)
    go_wp2_with fail
    go_region_with (first
      | (go_at_call 56; refine (pick_any g A c xs L cap l _ d2'.out.1 hR.out hB h0 hl).mono ?_; rintro e w9 ⟨⟨p, hp, rfl⟩, hd⟩; have d9 := step w9 hd; have hp8 := hm p hp; clear hd step))
    all_goals
      go_wp2_with fail
      go_ret
      exact ⟨upTo_of _ (by rw [ByteArray.size_append, ByteArray.size_append, bsz, bsz, bsz, List.length_take, List.length_drop]; omega), d9.out⟩
  · have e0 : ((q : Int) == 0) = false := beq_false_of_ne (by omega)
    by_cases q1 : q = 1
    · subst q1
      clear hL hB hx2
      go_wp2_with fail
      go_ret
      exact ⟨upTo_of _ (by rw [bsz, List.length_take]; omega), d2.out⟩
    · have e1 : ((q : Int) == 1) = false := beq_false_of_ne (by omega)
      clear hL hB hx1 hx2
      go_wp2_with fail
      go_ret
      exact ⟨upTo_of _ (by rw [bsz]; omega), d2.out⟩
end Go.Proofs.YtjglllpemhkkdaaGreatDoor.Dr

/- Chapter 8's draws: whole programs. -/
set_option maxRecDepth 100000
namespace Go.Proofs.YtjglllpemhkkdaaGreatDoor.Gd
open Go.RowKit Go.Lib Com Mem Cur YtjglllpemhkkdaaGreatDoor.Os Ow Tr Dr Pl

theorem rd_pg {w : World} {B : Nat} {A Bb : Option Addr} {c cb : Nat} {V : List (List UInt8)} {L : List St} {rows : Nat → List Value} (hr : Rd w B A (V.map sv)) (hs : ∀ x ∈ V, x.length ≤ maxI) (h1 : V.length ≤ maxI) (h2 : V.length ≤ c) (hk : Row w B 1 Bb (dl L) rows) (h3 : L.length ≤ maxI) (h4 : L.length ≤ cb) :
    Rd8 w B (pc A V.length c Bb L.length cb) (Pg.d ⟨V, L⟩) := by
  have f1 : Rd8 w B [.slice Bb L.length cb] [.sl 1 (dl L)] := by
    rw [← dl_len L]
    exact .sl rows (by rw [dl_len]; exact ⟨h3, h4⟩) hk.cell hk.kid .nil
  exact .ss hr hs ⟨h1, h2⟩ f1
set_option maxHeartbeats 2000000 in
theorem names8 (g : Nat) (A : Option Addr) (c : Nat) (xs : List UInt8) (w : World) (hc : CurAt w g A c xs) :
    Calls Tryz.prog 53 #[.pointer (some ⟨g, 0, none⟩)] w fun e w' => ∃ (vb vc : Nat) (V : List (List UInt8)) (cs : List Value), e = .returned (.slice (some ⟨vb, 0, none⟩) V.length vc) ∧ V.length ≤ 2 ∧ V.length ≤ vc ∧ (∀ s ∈ V, s.length ≤ 9) ∧ w.heap.size ≤ vb ∧ Blk w' vb 9 cs ∧ cs.take V.length = V.map sv ∧ Drew w g A c xs w' := by
  have hb0 := box_below w (.cells #[sv [120], sv [121]] 9)
  have s0 := size_alloc' w (.cells #[sv [120], sv [121]] 9)
  have n0 := hid (Blk.new w 9 [sv [120], sv [121]])
  have D0 := hid (show Drew w g A c xs (w.alloc (.cells #[sv [120], sv [121]] 9)) from ⟨cur_alloc hc _, World.grownBy_alloc w _ _⟩)
  have hgw := cur_lt hc
  clear hc hb0
  go_enter Tryz.func53, Tryz.ntmps53
  go_wp2_with fail
  generalize (w.alloc (.cells #[sv [120], sv [121]] 9)) = w1 at *
  have hp := pickInt_lit g A c xs [2, 2, 1, 1, 0] w1 D0.out.1 (by simp) (by simp)
  rw [s0] at hp
  refine hp.mono ?_
  rintro e w2 ⟨⟨s, hs, rfl⟩, hd⟩
  have D2 := hid (drew_tr D0.out hd)
  have n2 := hid (n0.out.gb hd.2 (by omega))
  clear hd D0 hp
  have h3 : s = 2 ∨ s = 1 ∨ s = 0 := by simp at hs; omega
  clear hs
  rcases h3 with rfl | rfl | rfl
  · go_wp2_with fail
    go_ret
    exact ⟨_, 2, [[120], [121]], _, rfl, by simp, by simp, by simp, Nat.le_refl _, n2.out, rfl, D2.out⟩
  · go_wp2_with fail
    go_ret
    exact ⟨_, 2, [[120]], _, rfl, by simp, by simp, by simp, Nat.le_refl _, n2.out, rfl, D2.out⟩
  · go_wp2_with fail
    go_ret
    exact ⟨_, 2, [], _, rfl, by simp, by simp, by simp, Nat.le_refl _, n2.out, rfl, D2.out⟩

def bodyLen (w : World) (pb : Nat) : Nat := match w.cell? ⟨pb, 1, none⟩ with
  | some (.slice _ l _) => l
  | _ => 0
theorem bodyLen_of {w : World} {pb ty : Nat} {u : Value} {B : Option Addr} {l c : Nat} (h : Blk w pb ty [u, .slice B l c]) : bodyLen w pb = l := by
  unfold bodyLen
  rw [h.cell 1]; rfl
theorem own_drew {w w' : World} {base e sz m g : Nat} {v : Value} {xs : List Value} (h : w.ownsRow base e sz v m xs) (hg : w.grownBy w' (some g)) (hlt : g < base) : w'.ownsRow base e sz v m xs :=
  own_keep h fun b hb => hg.block b (own_ge h hb).2 fun e => by cases e; have := (own_ge h hb).1; omega
structure PgD (w : World) (lo hi : Nat) (vv v : Value) (V : List (List UInt8)) (L : List St) : Prop where
  vars : w.ownsRow lo 9 1 vv V.length (V.map sv)
  some_ : vv ≠ .slice none 0 0
  low : ∀ b, vv.ownBlock = some b → b < hi
  le : lo ≤ hi
  top : hi ≤ w.heap.size
  body : GrowO w hi none 1 v (dl L)
theorem PgD.keep {w w' : World} {h lo hi : Nat} {vv v : Value} {V : List (List UInt8)} {L : List St} (hP : PgD w lo hi vv v V L) (hlt : h < lo) (hg : w.grownBy w' (some h)) : PgD w' lo hi vv v V L :=
  ⟨own_drew hP.vars hg hlt, hP.some_, hP.low, hP.le, Nat.le_trans hP.top hg.size, hP.body.keep (Nat.lt_of_lt_of_le hlt hP.le) hg⟩
theorem PgD.below {w w' : World} {lo hi : Nat} {vv v : Value} {V : List (List UInt8)} {L : List St} (hP : PgD w lo hi vv v V L) (hb : Below w.heap.size w w') : PgD w' lo hi vv v V L :=
  ⟨own_keep hP.vars fun b h => hb.block b (own_ge hP.vars h).2, hP.some_, hP.low, hP.le, Nat.le_trans hP.top hb.size, hP.body.below hb⟩
theorem PgD.re {w : World} {lo hi : Nat} {vv v v' : Value} {V : List (List UInt8)} {L L' : List St} (hP : PgD w lo hi vv v V L) (hG : GrowO w hi none 1 v' (dl L')) : PgD w lo hi vv v' V L' :=
  ⟨hP.vars, hP.some_, hP.low, hP.le, hP.top, hG⟩
theorem PgD.mono {w : World} {lo lo' hi : Nat} {vv v : Value} {V : List (List UInt8)} {L : List St} (hP : PgD w lo hi vv v V L) (hl : lo' ≤ lo) : PgD w lo' hi vv v V L :=
  ⟨own_mono hP.vars hl, hP.some_, hP.low, Nat.le_trans hl hP.le, hP.top, hP.body⟩
theorem put_gb (cs : List Value) (w : World) (b : Nat) : w.grownBy (putN w b 0 cs) (some b) :=
  have h := putN_below cs 0 (Below.refl b w) (Nat.le_refl _)
  ⟨h.os, h.tape, h.output, h.size, fun k _ hne => putN_far cs w b 0 k fun e => hne (by rw [e])⟩
theorem pg_fin {w w4 : World} {g c b lo hi : Nat} {A : Option Addr} {xs : List UInt8} {vv v x0 x1 : Value} {V : List (List UInt8)} {L : List St} (hP : PgD w4 (b + 1) hi vv v V L) (hR : Blk w4 b PI [x0, x1]) (hD : Drew w g A c xs w4) (hb : w.heap.size ≤ b) (hgw : g < w.heap.size) (hl : lo ≤ b + 1) :
    Hid (Blk (putN w4 b 0 [vv, v]) b PI [vv, v]) ∧ Hid (PgD (putN w4 b 0 [vv, v]) lo hi vv v V L) ∧ Hid (Drew w g A c xs (putN w4 b 0 [vv, v])) :=
  ⟨hid (putN_blk _ 0 hR), hid ((hP.keep (Nat.lt_succ_self b) (put_gb _ w4 b)).mono hl), hid (drew_row (lo := w.heap.size) hD (fun k h => by cases h; exact hb) (Nat.le_refl _) hgw (put_gb [vv, v] w4 b))⟩
set_option maxHeartbeats 8000000 in
theorem draw8 (g : Nat) (A : Option Addr) (c : Nat) (xs : List UInt8) (vb vc : Nat) (V : List (List UInt8)) (cs : List Value) (w : World) (hc : CurAt w g A c xs) (hl : V.length ≤ 2) (hs : ∀ s ∈ V, s.length ≤ 9) (hne : vb ≠ g) (hV : Blk w vb 9 cs) (ht : cs.take V.length = V.map sv) :
    Calls Tryz.prog 52 #[.pointer (some ⟨g, 0, none⟩), .slice (some ⟨vb, 0, none⟩) V.length vc] w fun e w' => ∃ vv v hi L, e = .returned (.agg #[vv, v]) ∧ PgD w' w.heap.size hi vv v V L ∧ L.length ≤ 3 ∧ cntL L ≤ 192 ∧ exL L ≤ 2880 ∧ Drew w g A c xs w' := by
  have hgw := cur_lt hc
  have hb0 := box_below w (.cells #[.slice none 0 0, .slice none 0 0] PI)
  have s0 := size_alloc' w (.cells #[.slice none 0 0, .slice none 0 0] PI)
  have R0 := hid (Blk.new w PI [.slice none 0 0, .slice none 0 0])
  have D0 := hid (show Drew w g A c xs (w.alloc (.cells #[.slice none 0 0, .slice none 0 0] PI)) from ⟨cur_alloc hc _, World.grownBy_alloc w _ _⟩)
  have N0 := hid (hV.below hb0 hV.lt)
  have hvl := hV.lt
  have vat := hid (fun (W : World) (h : Blk W vb 9 cs) => (show VarsAt W g (some ⟨vb, 0, none⟩) V from Or.inr ⟨vb, cs, rfl, h, ht, hne⟩))
  have vrd := hid (fun (W : World) (h : Blk W vb 9 cs) => (vat.out W h).rd.1)
  have one := hid (fun (u : Value) (hu : u ∈ V.map sv) => (show u.oneCell' = true from by obtain ⟨y, _, rfl⟩ := List.mem_map.1 hu; rfl))
  have hs18 : ∀ x ∈ V, x.length ≤ maxI := fun x hx => Nat.le_trans (hs x hx) (by decide)
  clear hc hb0 hV
  go_enter Tryz.func52, Tryz.ntmps52
  have hG0 := Grow.lit0 9 (w.alloc (.cells #[.slice none 0 0, .slice none 0 0] PI))
  rw [s0] at hG0
  replace hG0 := hid hG0
  have hbA := box_below (w.alloc (.cells #[.slice none 0 0, .slice none 0 0] PI)) (.cells #[] 9)
  have NA := hid (N0.out.below hbA N0.out.lt)
  have DA := hid (drew_be D0.out hbA)
  have RA := hid (R0.out.below hbA R0.out.lt)
  have sA := size_alloc' (w.alloc (.cells #[.slice none 0 0, .slice none 0 0] PI)) (.cells #[] 9)
  clear hbA
  go_wp2_with (at_builtin; refine hG0.out.appendAll strT (some ⟨vb, 0, none⟩) V.length vc _ (V.map sv) (by simp) (fun e => by cases e) (vrd.out _ NA.out) one.out (by simp; omega) rfl _ _ rfl rfl rfl ?_; intro v1 w1 hg1 hgb1 hv1)
  have hm : (V.map sv).length = V.length := List.length_map _
  rw [List.nil_append] at hg1
  obtain ⟨VA, vc1, rfl, hv2, hv3, hv4, hv5⟩ := hg1.len
  have hnil : (Value.slice VA (V.map sv).length vc1) ≠ .slice none 0 0 := fun e => by cases (hv1.1 e).1
  have hown1 := hg1.1
  rw [hm] at hown1 hnil hv2
  rw [hm]
  have o1 : w1.ownsRow (w.heap.size + 1) 9 1 (.slice VA V.length vc1) V.length (V.map sv) := own_mono hown1 (by omega)
  have hz1 := hgb1.size
  have D1 := hid (drew_row (lo := w.heap.size + 1) (o := some (w.heap.size + 1)) DA.out (fun b h => by cases h; exact Nat.le_refl _) (by omega) hgw hgb1)
  have N1 := hid (blk_row (lo := w.heap.size + 1) (o := some (w.heap.size + 1)) NA.out (fun b h => by cases h; exact Nat.le_refl _) (by omega) hgb1)
  have R1 := hid (blk_row (lo := w.heap.size + 1) (o := some (w.heap.size + 1)) RA.out (fun b h => by cases h; exact Nat.le_refl _) (by omega) hgb1)
  have O1 := hid o1
  clear hg1 hgb1 hv1 hown1 o1 hv4 hv5 hG0 D0 DA N0 NA R0 RA
  refine (blk_any g A c xs 3 (by omega) 3 3 (some ⟨vb, 0, none⟩) vc V w1 (by omega) (by omega) (by omega) D1.out.1 (vat.out _ N1.out) (by omega) hs).mono ?_
  rintro e w2 ⟨v, L, rfl, hG, hLl, hLc, hLx, hd⟩
  have G2 := hG.o
  obtain ⟨B, cb, rows, rfl, hcb, _, _⟩ := G2.rd
  rw [dl_len] at hcb
  rw [dl_len] at G2
  rw [dl_len]
  have P2 := hid (show PgD w2 (w.heap.size + 1) w1.heap.size (.slice VA V.length vc1) (.slice B L.length cb) V L from
    ⟨own_drew O1.out hd.2 (by omega), hnil, fun b h => (own_ge O1.out h).2, by omega, hd.2.size, G2⟩)
  have D2 := hid (drew_tr D1.out hd)
  have R2 := hid (R1.out.gb hd.2 (by omega))
  have hz2 := hd.2.size
  clear hG G2 hd D1 N1 R1 O1 vat vrd one
  have hcnt : cntL L ≤ 192 := Nat.le_trans hLc (by decide)
  have hLx : exL L ≤ 2880 := by omega
  have hb3 := box_below w2 (.cells #[.slice VA V.length vc1, .slice B L.length cb] PI)
  have s3 := size_alloc' w2 (.cells #[.slice VA V.length vc1, .slice B L.length cb] PI)
  have Q3 := hid (Blk.new w2 PI [.slice VA V.length vc1, .slice B L.length cb])
  replace hb3 := hid hb3
  clear hLc
  go_wp2_with fail
  generalize (w2.alloc (.cells #[.slice VA V.length vc1, .slice B L.length cb] PI)) = w3 at *
  go_loopw [] (fun wr => ∃ (B' : Option Addr) (L' : List St) (cb' : Nat), Blk wr w2.heap.size PI [.slice VA V.length vc1, .slice B' L'.length cb'] ∧ PgD w2 (w.heap.size + 1) w1.heap.size (.slice VA V.length vc1) (.slice B' L'.length cb') V L' ∧ Below w2.heap.size w2 wr ∧ L'.length ≤ 3 ∧ cntL L' ≤ 192 ∧ exL L' ≤ 2880) (fun wr => bodyLen wr w2.heap.size)
  case atStart => exact ⟨B, L, cb, Q3.out, P2.out, hb3.out, hLl, hcnt, hLx⟩
  case round =>
    obtain ⟨B', L', cb', hQ, hP, hB, h1, h2, h3⟩ := hrel
    clear Q3 hb3
    have hPr := hP.below hB
    obtain ⟨B0, c0, rows0, e0, q1, q2, q3⟩ := hPr.body.rd
    rw [dl_len] at e0 q1 q3
    cases e0
    have hsv := svalidP ⟨V, L'⟩ (show exL L' ≤ 1900000 by omega) (show cntL L' ≤ 1900000 by omega) _ wr (rd_pg (own_rd hPr.vars) hs18 (show V.length ≤ maxI by unfold maxI; omega) hv2 (q2.cry (Cry.ezb_out wr _ _) (Nat.le_refl _)) q3 q1)
    obtain ⟨k0, k1⟩ := two hQ
    have hbl := bodyLen_of hQ
    have hQ := hid hQ
    have hP := hid hP
    have hB := hid hB
    have hsv := hid hsv
    clear q2 hPr
    generalize okP ⟨V, L'⟩ = q at *
    cases q with
    | true =>
        go_wp2_with fail
        refine hsv.out.mono ?_
        rintro e w4 ⟨rfl, hb⟩
        have Q4 := hQ.out.below hb hQ.out.lt
        have b4 := hB.out.trans (hb.mono hB.out.size)
        have R4 := R2.out.below b4 R2.out.lt
        obtain ⟨F1, F2, F3⟩ := pg_fin (lo := w.heap.size) (hP.out.below b4) R4 (drew_be D2.out b4) (Nat.le_refl _) hgw (by omega)
        obtain ⟨k0, k1⟩ := two Q4
        obtain ⟨x0, x1⟩ := two R4
        have f0 := R4.frozen 0
        have f1 := R4.frozen 1
        clear hb hsv hQ hP hB b4 Q4 R4
        go_wp2_with fail
        exact bodyPost_ret (results_cell_row Tryz.results52 _ _ w.heap.size PI _ (0, 0) _ rfl F1.out Tryz.underlying36 rfl (by kernel_rfl)) rfl ⟨_, _, _, _, rfl, F2.out, h1, h2, h3, F3.out⟩
    | false =>
      cases L' with
      | nil =>
        go_wp2_with fail
        refine hsv.out.mono ?_
        rintro e w4 ⟨rfl, hb⟩
        have Q4 := hQ.out.below hb hQ.out.lt
        have b4 := hB.out.trans (hb.mono hB.out.size)
        have R4 := R2.out.below b4 R2.out.lt
        obtain ⟨F1, F2, F3⟩ := pg_fin (lo := w.heap.size) (hP.out.below b4) R4 (drew_be D2.out b4) (Nat.le_refl _) hgw (by omega)
        obtain ⟨k0, k1⟩ := two Q4
        obtain ⟨x0, x1⟩ := two R4
        have f0 := R4.frozen 0
        have f1 := R4.frozen 1
        clear hb hsv hQ hP hB b4 Q4 R4
        go_wp2_with fail
        exact bodyPost_ret (results_cell_row Tryz.results52 _ _ w.heap.size PI _ (0, 0) _ rfl F1.out Tryz.underlying36 rfl (by kernel_rfl)) rfl ⟨_, _, _, _, rfl, F2.out, h1, h2, h3, F3.out⟩
      | cons d L'' =>
        have ht := GrowO.tail (d := d.d) (L := dl L'') hP.out.body
        obtain ⟨gb, off, cap, e5, hc5, t5, t6⟩ := ht
        rw [dl_len] at e5 hc5 t5 t6
        cases e5
        simp only [cntL] at h2
        simp only [exL] at h3
        rw [List.length_cons] at k1 h1 q3 q1 hbl
        rw [List.length_cons] at hsv hQ
        have t1 : decide (0 < (L''.length + 1)) = true := decide_eq_true (by omega)
        have hnx := hid (show ∀ A5, A5 = (if cb' = 1 then some ⟨gb, off, none⟩ else some ⟨gb, off + 8, none⟩ : Option Addr) → PgD w2 (w.heap.size + 1) w1.heap.size (.slice VA V.length vc1) (.slice A5 L''.length (cb' - 1)) V L'' from fun A5 e => hP.out.re (by
          subst e
          split
          · rename_i h; exact t6 h
          · exact t5))
        clear hP t5 t6
        go_wp2_with fail
        refine hsv.out.mono ?_
        rintro e w4 ⟨rfl, hb⟩
        have Q4 := hQ.out.below hb hQ.out.lt
        have b4 := hid (hB.out.trans (hb.mono hB.out.size))
        obtain ⟨k0, k1⟩ := two Q4
        have f0 := Q4.frozen 0
        have f1 := Q4.frozen 1
        replace Q4 := hid Q4
        clear hb hsv hQ hB
        go_wp2_with fail
        generalize hA5 : (if cb' = 1 then some ⟨gb, off, none⟩ else some ⟨gb, off + 8, none⟩ : Option Addr) = A5
        have Q5 : Blk (w4.setCell ⟨w2.heap.size, 1, none⟩ (.slice A5 L''.length (cb' - 1))) w2.heap.size PI [.slice VA V.length vc1, .slice A5 L''.length (cb' - 1)] := Q4.out.set_ 1 _
        refine ⟨⟨A5, L'', cb' - 1, Q5, hnx.out A5 hA5.symm, b4.out.setCell (Nat.le_refl _) _, by omega, by omega, by omega⟩, ?_⟩
        rw [bodyLen_of Q5, hbl]; omega

theorem own_rdb {w : World} {lo e m : Nat} {v : Value} {xs : List Value} (h : w.ownsRow lo e 1 v m xs) : ∃ A c, v = .slice A m c ∧ m ≤ c ∧ Rd (ezb w lo) w.heap.size A xs ∧ ∀ ad, A = some ad → ad = ⟨ad.block, 0, none⟩ := by
  have hx := h.1
  rcases h.2 with ⟨rfl, rfl⟩ | ⟨g, cap, cur, rfl, hg, hblk, hnc, hcm, hcs, ht⟩
  · exact ⟨none, 0, rfl, Nat.le_refl _, fun hne => absurd (List.eq_nil_of_length_eq_zero (by simpa using hx)) hne, fun ad e => by cases e⟩
  · refine ⟨_, _, rfl, hnc, fun _ => ⟨_, rfl, (Array.getElem?_eq_some_iff.1 hblk).1, fun j u hu => ?_⟩, fun ad e => by cases e; rfl⟩
    rw [← ht, List.getElem?_take] at hu
    split at hu
    · rw [Addr.add_lit, Nat.zero_add]
      refine ezb_in hg ?_
      rw [pln_in ⟨_, _, hblk⟩]
      unfold World.cell?
      rw [hblk]
      simpa using hu
    · cases hu
end Go.Proofs.YtjglllpemhkkdaaGreatDoor.Gd

/- Chapter 9's draws: DrawParseProgram. -/
set_option maxRecDepth 100000
namespace Go.Proofs.YtjglllpemhkkdaaGreatDoor.Dr
open Go.RowKit Go.Lib Com Mem Cur YtjglllpemhkkdaaGreatDoor.Os Ow Tr Tk Gd
theorem fmtP_len (p : Pg) : (fmtP p).length ≤ 5000 := by
  unfold fmtP
  split
  · rename_i hok
    unfold okP varsB at hok
    simp only [Bool.and_eq_true, decide_eq_true_eq] at hok
    obtain ⟨⟨hva, hv2, -⟩, hc8, -, hoks⟩ := hok
    have hv8 : ∀ x ∈ p.vs, x.length ≤ 8 := fun x hx => by
      have := List.all_eq_true.1 hva x hx
      unfold C2.validB at this
      simp only [Bool.and_eq_true, decide_eq_true_eq] at this
      exact this.1
    have hvj := vJ_len p.vs hv8
    have htj := tJ_len p.body (ok_short hv8 p.body hoks)
    simp only [List.length_append, List.length_cons, List.length_nil]
    omega
  · simp
theorem PgD.at_ {w : World} {lo hi : Nat} {vv v : Value} {V : List (List UInt8)} {L : List St} (hP : PgD w lo hi vv v V L) (hs : ∀ s ∈ V, s.length ≤ 9) (hl : V.length ≤ 2) : PgAt w w.heap.size (.agg #[vv, v]) ⟨V, L⟩ := by
  obtain ⟨VA, vc, rfl, hv2, -, -⟩ := own_rdb hP.vars
  obtain ⟨B0, c0, rows0, e0, q1, q2, q3⟩ := hP.body.rd
  rw [dl_len] at e0 q1 q3
  subst e0
  exact ⟨_, rfl, rd_pg (own_rd hP.vars) (fun x hx => by have := hs x hx; unfold maxI; omega) (show V.length ≤ maxI by unfold maxI; omega) hv2 (q2.cry (Cry.ezb_out w _ _) (Nat.le_refl _)) q3 q1⟩
def bends9 : List (List UInt8) := [[32], [59], [123], [125], [58, 61], [105, 102], [120], [101, 108, 115, 101], [52]]
def odd9 : List (List UInt8) := [[], [118, 97, 114, 115], [118, 97, 114, 115, 32, 59], [118, 97, 114, 115, 32, 120, 32, 121, 59, 120, 58, 61, 49, 59], [118, 97, 114, 115, 32, 120, 59, 32, 105, 102, 32, 120, 32, 123, 32, 120, 32, 58, 61, 32, 48, 59, 32, 125, 32, 101, 108, 115, 101, 32, 123, 32, 101, 109, 105, 116, 32, 120, 59, 32, 125], [118, 97, 114, 115, 32, 120, 59, 32, 119, 104, 105, 108, 101, 32, 120, 32, 123, 32, 120, 32, 58, 61, 32, 120, 32, 45, 32, 49, 59, 32, 125], [118, 97, 114, 115, 32, 120, 32, 120, 59], [118, 97, 114, 115, 32, 122, 59, 32, 120, 32, 58, 61, 32, 49, 59], [118, 97, 114, 115, 32, 120, 59, 32, 123, 32, 125], [118, 97, 114, 115, 32, 120, 59, 32, 101, 109, 105, 116, 32, 120], [118, 97, 114, 115, 32, 120, 59, 32, 105, 102, 32, 120, 32, 101, 109, 105, 116, 32, 120, 59], [118, 97, 114, 115, 32, 97, 59]]
set_option maxHeartbeats 4000000 in
theorem drawParse9 (A : Option Addr) (c : Nat) (xs : List UInt8) (w : World) (hr : Rd w w.heap.size A (xs.map bv)) (hn : xs.length ≤ 1048576) :
    Calls Tryz.prog 16 #[.slice A xs.length c] w fun e w' => UpTo 6000 e ∧ Below w.heap.size w w' := by
  have h1 := hid (new_any A c xs w hr hn)
  clear hr hn
  go_enter Tryz.func16, Tryz.ntmps16
  go_wp2_with fail
  refine h1.out.mono ?_
  rintro e w1 ⟨g, hg, rfl, hc, hb⟩
  have B1 := hid hb
  have s1 := hb.size
  have D1 := hid hc
  clear hb h1 hc
  go_wp2_with fail
  refine (names8 g A c xs w1 D1.out).mono ?_
  rintro e w2 ⟨vb, vc, V, cs, rfl, hV2, hVc, hV9, hvb, hblk, htk, hd⟩
  have hgl := cur_lt D1.out
  have B2 := hid (drew_below hg B1.out hd)
  have D2 := hid hd.1
  have s2 := hd.2.size
  have hdr := hid (draw8 g A c xs vb vc V cs w2 D2.out hV2 hV9 (by omega) hblk htk)
  clear hd B1 D1 hblk htk
  go_wp2_with fail
  refine hdr.out.mono ?_
  rintro e w3 ⟨vv, v, hi, L, rfl, hP, hl3, hcnt, hLx, hd⟩
  have B3 := hid (drew_below hg B2.out hd)
  have D3 := hid hd.1
  have s3 := hd.2.size
  have hsf := hid (sformatP_any ⟨V, L⟩ _ w3 (PgD.at_ hP hV9 hV2) (by show cntL L ≤ 1100000; omega) (by show exL L ≤ 1900000; omega))
  have hfl := fmtP_len ⟨V, L⟩
  clear hd hP hdr B2 D2 hV9 hcnt hLx
  generalize fmtP ⟨V, L⟩ = S at *
  go_wp2_with fail
  refine hsf.out.mono ?_
  rintro e w5 ⟨rfl, hb5⟩
  have B5 := hid (B3.out.trans (hb5.mono B3.out.size))
  have D5 := hid (cur_below D3.out (hb5.mono (cur_lt D3.out)))
  have s5 := hb5.size
  clear hb5 hsf B3 D3
  go_wp2_with fail
  refine (below_any g A c xs 3 w5 D5.out (by omega) (by omega)).mono ?_
  rintro e w6 ⟨⟨q2, rfl, hq2, _⟩, hd⟩
  have B6 := hid (drew_below hg B5.out hd)
  have D6 := hid hd.1
  have s6 := hd.2.size
  clear hd B5 D5
  by_cases q0 : q2 = 0
  · subst q0
    have ht := hid (turned_any g A c xs S (by omega) (some ⟨w6.heap.size, 0, none⟩) 9 bends9 (w6.alloc (.cells (bends9.map sv).toArray 9)) (cur_alloc D6.out _) ((Blk.new w6 9 (bends9.map sv)).rd.more (by simp)) (fun ad e => by cases e; exact fun h => by simp at h; omega) (by decide) (by decide) (by decide))
    go_wp2_with fail
    refine ht.out.mono ?_
    rintro e w7 ⟨⟨r, rfl, hr⟩, hd⟩
    have B7 := hid (drew_below hg B6.out (drew_alloc hd))
    clear hd ht
    go_wp2_with fail
    go_ret
    exact ⟨⟨r, rfl, by omega⟩, B7.out⟩
  · have e0 : ((q2 : Int) == 0) = false := beq_false_of_ne (by omega)
    by_cases q1 : q2 = 1
    · subst q1
      go_wp2_with fail
      refine (pick_lit g A c xs odd9 w6 D6.out (by decide) (by decide)).mono ?_
      rintro e w7 ⟨⟨s, hs, rfl⟩, hd⟩
      have B7 := hid (drew_below hg B6.out hd)
      have hs : s.length ≤ 41 := (show ∀ s ∈ odd9, s.length ≤ 41 by decide) s hs
      clear hd
      go_wp2_with fail
      go_ret
      exact ⟨⟨s, rfl, by omega⟩, B7.out⟩
    · have e1 : ((q2 : Int) == 1) = false := beq_false_of_ne (by omega)
      go_wp2_with fail
      go_ret
      exact ⟨⟨S, rfl, by omega⟩, B6.out⟩
end Go.Proofs.YtjglllpemhkkdaaGreatDoor.Dr
