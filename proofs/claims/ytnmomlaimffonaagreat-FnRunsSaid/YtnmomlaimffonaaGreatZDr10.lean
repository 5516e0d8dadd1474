/- Chapter 8's draws: statements. -/
import Derived.Test.YtnmomlaimffonaaGreatZEr8
import Derived.Test.YtnmomlaimffonaaGreatZDr4
import Derived.Test.YtnmomlaimffonaaGreatZNix
import Derived.IntWalk
import Derived.ArgAppend
import Derived.Deep.Upon
set_option maxHeartbeats 8000000
set_option maxRecDepth 100000
namespace Go.Proofs.YtnmomlaimffonaaGreat.Gd
open Go.RowKit Go.Lib Com Mem Cur YtnmomlaimffonaaGreat.Os Tr Dr Pl
theorem made_rd {w : World} {lo : Nat} {v : Value} {t : T} (h : Made w lo v t) : Ex (ezb w lo) w.heap.size v t := by
  have h1 := own_pln (OwnE.same (w' := ezb0 w lo) h.1 fun k h1 _ => ezb0_at w h1)
  rw [ezb0_size] at h1
  exact h1
theorem rd_st {w : World} {B : Nat} {k ek en : Int} {s en' : List UInt8} {A Bb C : Option Addr} {l c cb cc : Nat} {e : T} {bs es : List St} {rb rc : Nat → List Value} (hs : s.length ≤ maxI) (hx : Ex w B (nv ek en en' A l c) e)
    (hb : Row w B 1 Bb (dl bs) rb) (h1 : bs.length ≤ maxI) (h2 : bs.length ≤ cb) (he : Row w B 1 C (dl es) rc) (h3 : es.length ≤ maxI) (h4 : es.length ≤ cc) : Rd8 w B (sc k s ek en en' A l c Bb bs.length cb C es.length cc) (St.mk k s e bs es).d := by
  rw [St.d_mk]
  have f1 : Rd8 w B [.slice C es.length cc] [.sl 1 (dl es)] := by
    rw [← dl_len es]
    exact .sl rc (by rw [dl_len]; exact ⟨h3, h4⟩) he.cell he.kid .nil
  have f2 : Rd8 w B [.slice Bb bs.length cb, .slice C es.length cc] [.sl 1 (dl bs), .sl 1 (dl es)] := by
    rw [← dl_len bs]
    exact .sl rb (by rw [dl_len]; exact ⟨h1, h2⟩) hb.cell hb.kid f1
  exact .i (.s hs (.x hx f2))
theorem row_none (w : World) (B : Nat) : Row w B 1 none (dl []) (fun _ => []) := ⟨fun j hj => by simp [dl] at hj, fun j e he => by simp [dl] at he⟩
theorem op_leaves (op k n k' n' : Int) (s s' : List UInt8) (hs : s.length ≤ maxI) (hs' : s'.length ≤ maxI) (w : World) :
    Calls Tryz.prog 98 #[.int .i64 op, nv k n s none 0 0, nv k' n' s' none 0 0] w fun e w' => ∃ b, e = .returned (nv 3 op [] (some ⟨b, 0, none⟩) 2 2) ∧ Ex (ezb w' w.heap.size) w'.heap.size (nv 3 op [] (some ⟨b, 0, none⟩) 2 2) (.mk 3 op [] [.mk k n s [], .mk k' n' s' []]) ∧ Below w.heap.size w w' := by
  refine (op4 op k n k' n' s s' none none 0 0 0 0 w).mono fun e w' ⟨e1, hblk, hb⟩ => ⟨_, e1, ?_, hb⟩
  have lf : ∀ (k n : Int) (s : List UInt8), s.length ≤ maxI → Ex (ezb w' w.heap.size) w'.heap.size (nv k n s none 0 0) (.mk k n s []) := fun k n s hs =>
    Ex.mk (ks := []) none 0 (fun _ => .nilFunc) hs (by simp) (fun j hj => by simp at hj) (fun j a ha => by simp at ha)
  refine Ex.mk (ks := [.mk k n s [], .mk k' n' s' []]) _ 2 (fun j => if j = 0 then nv k n s none 0 0 else nv k' n' s' none 0 0) (by simp) (by simp) (fun j hj => ?_) (fun j a ha => ?_)
  · have cell : ∀ i u, [Value.int .i64 k, .int .i64 n, sv s, .slice none 0 0, .int .i64 k', .int .i64 n', sv s', .slice none 0 0][i]? = some u → (ezb w' w.heap.size).cell? ⟨w.heap.size + 1 + 1 + 1, i, none⟩ = some u := fun i u hu => ezb_in (by show w.heap.size ≤ w.heap.size + 1 + 1 + 1; omega) (by rw [pln_in (Blk.pl hblk), hblk.cell]; exact hu)
    have hj2 : j = 0 ∨ j = 1 := by simp at hj; omega
    rcases hj2 with rfl | rfl
    · exact ⟨_, rfl, hblk.lt, _, _, _, _, rfl, cell 0 _ rfl, cell 1 _ rfl, cell 2 _ rfl, cell 3 _ rfl⟩
    · exact ⟨_, rfl, hblk.lt, _, _, _, _, rfl, cell 4 _ rfl, cell 5 _ rfl, cell 6 _ rfl, cell 7 _ rfl⟩
  · match j, ha with
    | 0, ha => cases ha; exact lf k n s hs
    | 1, ha => cases ha; exact lf k' n' s' hs'
    | (j + 2), ha => simp at ha
theorem stT : Tryz.prog.underlying 25 = some (.slice (tyI 1)) := Tryz.underlying25
def BlkP (g : Nat) (A : Option Addr) (c : Nat) (xs : List UInt8) (n : Nat) : Prop := ∀ (d : Int) (most : Nat) (VA : Option Addr) (vc : Nat) (V : List (List UInt8)) (w : World), -1000 ≤ d → d ≤ n → most ≤ 3 → CurAt w g A c xs → VarsAt w g VA V → V.length ≤ 1048576 → (∀ s ∈ V, s.length ≤ 9) →
  Calls Tryz.prog 74 #[.pointer (some ⟨g, 0, none⟩), .slice VA V.length vc, .int .i64 d, .int .i64 most] w fun e w' => ∃ v L, e = .returned v ∧ GrowD w' w.heap.size 1 v (dl L) ∧ L.length ≤ most ∧ cntL L ≤ most * 4 ^ n ∧ nxL L ≤ 24 * cntL L ∧ Drew w g A c xs w'
theorem dl_snoc (L : List St) (t : St) : dl (L ++ [t]) = dl L ++ [t.d] := by simp [dl]
theorem cntL_snoc (L : List St) (t : St) : cntL (L ++ [t]) = cntL L + cntSt t := by
  induction L with
  | nil => simp [cntL]
  | cons b r ih => simp only [List.cons_append, cntL, ih]; omega
theorem nxL_snoc (L : List St) (t : St) : nxL (L ++ [t]) = nxL L + nxSt t := by
  induction L with
  | nil => simp [nxL]
  | cons b r ih => simp only [List.cons_append, nxL, ih]; omega
theorem drew_row {w w6 w7 : World} {g c lo : Nat} {A : Option Addr} {xs : List UInt8} {o : Option Nat} (h : Drew w g A c xs w6) (hown : ∀ b, o = some b → lo ≤ b) (hlo : w.heap.size ≤ lo) (hgw : g < w.heap.size) (hg : w6.grownBy w7 o) : Drew w g A c xs w7 :=
  ⟨cur_below h.1 ⟨hg.os, hg.tape, hg.output, hg.size, fun k hk => hg.block k (by have := cur_lt h.1; omega) fun e => by have := hown k e.symm; omega⟩,
   ⟨hg.os.trans h.2.os, hg.tape.trans h.2.tape, hg.output.trans h.2.output, Nat.le_trans h.2.size hg.size, fun k hk hne => (hg.block k (Nat.lt_of_lt_of_le hk h.2.size) fun e => by have := hown k e.symm; omega).trans (h.2.block k hk hne)⟩⟩
theorem blk_row {w6 w7 : World} {lo g ty : Nat} {cs : List Value} {o : Option Nat} (h : Blk w6 g ty cs) (hown : ∀ b, o = some b → lo ≤ b) (hlt : g < lo) (hg : w6.grownBy w7 o) : Blk w7 g ty cs := (hg.block g h.lt fun e => by have := hown g e.symm; omega).trans h
theorem loop_any (g : Nat) (A : Option Addr) (c : Nat) (xs : List UInt8) (n : Nat) (hn : n ≤ 10) (hblk : BlkP g A c xs n) (d : Int) (VA : Option Addr) (vc : Nat) (V : List (List UInt8)) (w : World) (h1 : -900 ≤ d) (h2 : d ≤ n + 1) (hc : CurAt w g A c xs) (hV : VarsAt w g VA V) (hl : V.length ≤ 1048576) (hs : ∀ s ∈ V, s.length ≤ 9) (hpos : 0 < V.length) :
    Calls Tryz.prog 97 #[.pointer (some ⟨g, 0, none⟩), .slice VA V.length vc, .int .i64 d] w fun e w' => ∃ cs t, e = .returned (.agg cs.toArray) ∧ cs.length = 8 ∧ Rd8 (ezb w' w.heap.size) w'.heap.size cs (St.d t) ∧ cntSt t ≤ 2 + 4 ^ n ∧ nxSt t ≤ 24 * cntSt t ∧ Drew w g A c xs w' := by
  have hgw := cur_lt hc
  have hb0 := box_below w (.cells (sc 0 [] 0 0 [] none 0 0 none 0 0 none 0 0).toArray SI)
  have zz := hid (size_alloc' w (.cells (sc 0 [] 0 0 [] none 0 0 none 0 0 none 0 0).toArray SI))
  have hc1 := cur_alloc hc (.cells (sc 0 [] 0 0 [] none 0 0 none 0 0 none 0 0).toArray SI)
  have hD1 : Drew w g A c xs (w.alloc (.cells (sc 0 [] 0 0 [] none 0 0 none 0 0 none 0 0).toArray SI)) := ⟨hc1, World.grownBy_alloc w _ _⟩
  have D1 := hid hD1
  have B1 := hid (Blk.new w SI (sc 0 [] 0 0 [] none 0 0 none 0 0 none 0 0))
  have V1 := hid (hV.below hb0)
  clear hc hV hc1 hD1 hb0
  go_enter Tryz.func97, Tryz.ntmps97
  go_wp2_with fail
  generalize (w.alloc (.cells #[.int .i64 0, sv [], .int .i64 0, .int .i64 0, sv [], .slice none 0 0, .slice none 0 0, .slice none 0 0] SI)) = w1 at *
  have u1 := zz.out
  refine (pick_any g A c xs VA vc V _ D1.out.1 V1.out.rd.1 (V1.out.rd.2 hpos) hpos hl).mono ?_
  rintro e w2 ⟨⟨s, hsm, rfl⟩, hd2⟩
  have D2 := hid (drew_tr D1.out hd2)
  have B2 := hid (B1.out.gb hd2.2 (by omega))
  have V2 := hid (V1.out.drew hd2.2)
  have u2 := hd2.2.size
  have hsl := hs s hsm
  clear hd2 hsm
  go_wp2_with fail
  refine (hblk (d - 1) 1 VA vc V w2 (by omega) (by omega) (by omega) D2.out.1 V2.out hl hs).mono ?_
  rintro e w3 ⟨v, L, rfl, hG, hLl, hLc, hLx, hd3⟩
  have D3 := hid (drew_tr D2.out hd3)
  have B3 := hid (B2.out.gb hd3.2 (by omega))
  have u3 := hd3.2.size
  have G3 := hid hG
  clear hG hd3 V2
  go_wp2_with fail
  refine (var4 s _).mono ?_
  rintro e w4 ⟨rfl, hb⟩
  have D4 := hid (drew_be D3.out hb)
  have B4 := hid (B3.out.below hb B3.out.lt)
  have G4 := hid (G3.out.below hb)
  have u4 := hb.size
  clear hb
  go_wp2_with fail
  refine (const4 1 _).mono ?_
  rintro e w5 ⟨rfl, hb⟩
  have D5 := hid (drew_be D4.out hb)
  have B5 := hid (B4.out.below hb B4.out.lt)
  have G5 := hid (G4.out.below hb)
  have u5 := hb.size
  clear hb
  go_wp2_with fail
  refine (op_leaves 1 2 0 1 1 s [] (Nat.le_trans hsl (by decide)) (by simp) _).mono ?_
  rintro e w6 ⟨b6, rfl, hx6, hb⟩
  have D6 := hid (drew_be D5.out hb)
  have B6 := hid (B5.out.below hb B5.out.lt)
  have G6 := hid (G5.out.below hb)
  have u6 := hb.size
  have own3 := hid (fun b h => (G3.out.own (b := b) h).2)
  have X6 := hid (Ex.cry hx6 (Cry.later (o := v.ownBlock) (lo := w2.heap.size) (by omega) (fun b h => by have := own3.out b h; omega) _) (Nat.le_refl _))
  have hl6 : (dl L).length < 1000000 := by rw [dl_len]; omega
  have r6 : Rd8 (ezo (ezb w6 w2.heap.size) v.ownBlock) w6.heap.size (sc 1 s 3 1 [] (some ⟨b6, 0, none⟩) 2 2 none 0 0 none 0 0) (St.mk 1 s (.mk 3 1 [] [.mk 2 0 s [], .mk 1 1 [] []]) [] []).d :=
    rd_st (bs := []) (es := []) (Nat.le_trans hsl (by decide)) X6.out (row_none _ _) (by simp) (by simp) (row_none _ _) (by simp) (by simp)
  have r6 := hid r6
  have hown := hid (fun b h => (G6.out.own (b := b) h).1)
  clear hb hx6 G3 G4 G5 X6 B3 B4 B5
  have u26 : w2.heap.size ≤ w6.heap.size := by omega
  go_wp2_with (at_builtin; refine GrowD.app G6.out u26 (sc 1 s 3 1 [] (some ⟨b6, 0, none⟩) 2 2 none 0 0 none 0 0) _ rfl r6.out hl6 stT zeroSt rfl (by omega) rfl _ _ rfl rfl _ rfl rfl ?_; intro v7 w7 hG7 hg7; have u7 := hg7.size; have D7 := hid (drew_row D6.out hown.out (by omega) hgw hg7); have B7 := hid (blk_row B6.out hown.out (by omega) hg7); have G7 := hid hG7; clear hg7 hG7)
  refine (var4 s _).mono ?_
  rintro e w8 ⟨rfl, hb⟩
  have D8 := hid (drew_be D7.out hb)
  have B8 := hid (B7.out.below hb B7.out.lt)
  have G8 := hid (G7.out.below hb)
  have u8 := hb.size
  clear hb
  go_wp2_with fail
  refine (below_any g A c xs 3 _ D8.out.1 (by omega) (by omega)).mono ?_
  rintro e w9 ⟨⟨x, rfl, hx3, -⟩, hd9⟩
  have hx3 : x ≤ 3 := by omega
  have D9 := hid (drew_tr D8.out hd9)
  have B9 := hid (B8.out.gb hd9.2 (by omega))
  have G9 := hid (G8.out.keep (by omega) hd9.2)
  have u9 := hd9.2.size
  clear hd9
  go_wp2_with fail
  refine (const4 (1 + (x : Int)) _).mono ?_
  rintro e w10 ⟨rfl, hb⟩
  have D10 := hid (drew_be D9.out hb)
  have B10 := hid (B9.out.below hb B9.out.lt)
  have G10 := hid (G9.out.below hb)
  have u10 := hb.size
  clear hb
  go_wp2_with fail
  refine (op_leaves 5 2 0 1 (1 + (x : Int)) s [] (Nat.le_trans hsl (by decide)) (by simp) _).mono ?_
  rintro e w11 ⟨b11, rfl, hx11, hb⟩
  have D11 := hid (drew_be D10.out hb)
  have B11 := B10.out.below hb B10.out.lt
  have G11 := G10.out.below hb
  have u11 := hb.size
  have X11 := hid (Ex.cry hx11 (Cry.ezb_mono w11 (show w.heap.size + 1 ≤ w10.heap.size by omega) _) (Nat.le_refl _))
  obtain ⟨A7, c7, rows7, e7, hc7, hr7, hl7⟩ := G11.rd
  rw [show dl L ++ [(St.mk 1 s (.mk 3 1 [] [.mk 2 0 s [], .mk 1 1 [] []]) [] []).d] = dl (L ++ [.mk 1 s (.mk 3 1 [] [.mk 2 0 s [], .mk 1 1 [] []]) [] []]) from (dl_snoc _ _).symm] at e7 hc7 hr7 hl7
  have hcnt := hid (cntL_snoc L (.mk 1 s (.mk 3 1 [] [.mk 2 0 s [], .mk 1 1 [] []]) [] []))
  have hexl := hid (nxL_snoc L (.mk 1 s (.mk 3 1 [] [.mk 2 0 s [], .mk 1 1 [] []]) [] []))
  generalize L ++ [.mk 1 s (.mk 3 1 [] [.mk 2 0 s [], .mk 1 1 [] []]) [] []] = L7 at *
  rw [dl_len] at e7 hc7 hl7
  subst e7
  have R11 := hid (hr7.cry (Cry.ezb_mono w11 (show w.heap.size + 1 ≤ w2.heap.size by omega) _) (Nat.le_refl _))
  obtain ⟨p0, p1, p2, p3, p4, p5, p6, p7⟩ := eight B11
  have f0 := B11.frozen 0
  have f1 := B11.frozen 1
  have f2 := B11.frozen 2
  have f3 := B11.frozen 3
  have f4 := B11.frozen 4
  have f5 := B11.frozen 5
  have f6 := B11.frozen 6
  have f7 := B11.frozen 7
  have B11 := hid B11
  clear hb hx11 hr7 G6 G7 G8 G9 G10 G11 B6 B7 B8 B9 B10 r6
  go_wp2_with fail
  have blkF : Blk (putN w11 w.heap.size 0 (sc 3 [] 3 5 [] (some ⟨b11, 0, none⟩) 2 2 A7 L7.length c7 none 0 0)) w.heap.size SI (sc 3 [] 3 5 [] (some ⟨b11, 0, none⟩) 2 2 A7 L7.length c7 none 0 0) := putN_blk _ 0 B11.out
  have belF := putN_below (sc 3 [] 3 5 [] (some ⟨b11, 0, none⟩) 2 2 A7 L7.length c7 none 0 0) 0 (Below.refl w.heap.size w11) (Nat.le_refl _)
  have farF := fun k (hk : k ≠ w.heap.size) => putN_far (sc 3 [] 3 5 [] (some ⟨b11, 0, none⟩) 2 2 A7 L7.length c7 none 0 0) w11 w.heap.size 0 k hk
  have szF := putN_size (sc 3 [] 3 5 [] (some ⟨b11, 0, none⟩) 2 2 A7 L7.length c7 none 0 0) w11 w.heap.size 0
  have DF := hid (drew_row (lo := w.heap.size) (o := some w.heap.size) D11.out (fun b h => by cases h; exact Nat.le_refl _) (Nat.le_refl _) hgw ⟨belF.os, belF.tape, belF.output, belF.size, fun k _ hne => farF k fun e => hne (by rw [e])⟩)
  have hcF : Cry (ezb w11 (w.heap.size + 1)) (ezb (putN w11 w.heap.size 0 (sc 3 [] 3 5 [] (some ⟨b11, 0, none⟩) 2 2 A7 L7.length c7 none 0 0)) w.heap.size) w11.heap.size :=
    (Cry.two (o := none) (w' := putN w11 w.heap.size 0 (sc 3 [] 3 5 [] (some ⟨b11, 0, none⟩) 2 2 A7 L7.length c7 none 0 0)) (fun k _ h1 _ => farF k (by omega))).trans (Cry.ezb_mono _ (Nat.le_succ _) _) (Nat.le_refl _)
  have RF := hid (rd_st (k := 3) (s := []) (es := []) (by simp) (Ex.cry X11.out hcF (Nat.le_of_eq szF.symm)) (R11.out.cry hcF (Nat.le_of_eq szF.symm)) hl7 hc7 (row_none _ _) (by simp) (cc := 0) (by simp))
  have c1 := hcnt.out
  have c2 := hexl.out
  have e1 : cntSt (.mk 1 s (.mk 3 1 [] [.mk 2 0 s [], .mk 1 1 [] []]) [] []) = 1 := by simp [cntSt, cntL]
  have e2 : nxSt (.mk 1 s (.mk 3 1 [] [.mk 2 0 s [], .mk 1 1 [] []]) [] []) = 3 + s.length := by simp [nxSt, nxL, cntT_mk, cntK] <;> omega
  have e3 : cntSt (.mk 3 [] (.mk 3 5 [] [.mk 2 0 s [], .mk 1 (1 + (x : Int)) [] []]) L7 []) = 1 + cntL L7 := by simp [cntSt, cntL]
  have e4 : nxSt (.mk 3 [] (.mk 3 5 [] [.mk 2 0 s [], .mk 1 (1 + (x : Int)) [] []]) L7 []) = 3 + nxL L7 := by simp [nxSt, nxL, cntT_mk, cntK] <;> omega
  refine bodyPost_ret (results_cell_row Tryz.results97 _ _ w.heap.size SI _ (0, 0) _ rfl blkF Tryz.underlying94 rfl (by kernel_rfl)) rfl ⟨_, _, rfl, rfl, RF.out, ?_, ?_, DF.out⟩
  · rw [e3]; omega
  · rw [e3, e4]; omega
theorem cry_g {w w' : World} {g lo : Nat} {o : Option Nat} (hg : w.grownBy w' (some g)) (h : g < lo) : Cry (ezo (ezb w lo) o) (ezo (ezb w' lo) o) w.heap.size := Cry.two fun k hk hlo _ => hg.block k hk fun e => by cases e; omega
theorem blk_rd {g : Nat} {A : Option Addr} {c : Nat} {xs : List UInt8} {n : Nat} (h : BlkP g A c xs n) (d : Int) (most : Nat) (VA : Option Addr) (vc : Nat) (V : List (List UInt8)) (w : World) (h1 : -1000 ≤ d) (h2 : d ≤ n) (hm : most ≤ 3) (hc : CurAt w g A c xs) (hV : VarsAt w g VA V) (hl : V.length ≤ 1048576) (hs : ∀ s ∈ V, s.length ≤ 9) :
    Calls Tryz.prog 74 #[.pointer (some ⟨g, 0, none⟩), .slice VA V.length vc, .int .i64 d, .int .i64 most] w fun e w' => ∃ (B : Option Addr) (L : List St) (cb : Nat) (rows : Nat → List Value), e = .returned (.slice B L.length cb) ∧ L.length ≤ cb ∧ Row (ezb w' w.heap.size) w'.heap.size 1 B (dl L) rows ∧ L.length ≤ maxI ∧ cntL L ≤ most * 4 ^ n ∧ nxL L ≤ 24 * cntL L ∧ Drew w g A c xs w' :=
  (h d most VA vc V w h1 h2 hm hc hV hl hs).mono fun e w' ⟨v, L, e1, hG, _, hc, hx, hd⟩ => by
    obtain ⟨B, cb, rows, e2, h3, h4, h5⟩ := hG.rd
    rw [dl_len] at e2 h3 h5
    exact ⟨B, L, cb, rows, by rw [e1, e2], h3, h4, h5, hc, hx, hd⟩
theorem blk_any (g : Nat) (A : Option Addr) (c : Nat) (xs : List UInt8) : ∀ n, n ≤ 10 → BlkP g A c xs n := by
  intro n
  induction n using Nat.strongRecOn with
  | ind n ih =>
    intro hn d most VA vc V w h1 h2 hm3 hc hV hl hs
    have hgw := cur_lt hc
    have hl63 : V.length ≤ 9223372036854775807 := by omega
    have tm : wrap64 ((most : Int) + 1) = (most : Int) + 1 := by unfold wrap64; omega
    have hV := hid hV
    have hc := hid hc
    have ih := hid ih
    go_enter Tryz.func74, Tryz.ntmps74
    go_wp2_with fail
    have hcA := cur_alloc hc.out (.cells #[] SI)
    refine (below_any g A c xs ((most : Int) + 1) _ hcA (by omega) (by omega)).mono ?_
    rintro e w1 ⟨⟨q, rfl, hq, -⟩, hd⟩
    have hqm : q ≤ most := by omega
    have DA : Drew w g A c xs (w.alloc (.cells #[] SI)) := ⟨hcA, World.grownBy_alloc w _ _⟩
    have D1 := drew_tr DA hd
    have G1 := (GrowD.lit0 w 1 (Nat.le_refl w.heap.size)).keep hgw hd.2
    clear hd DA hcA hq
    have hq3 : q ≤ 3 := by omega
    go_wp2_with fail
    go_loopw [9, 11] (fun v i wr => ∃ (k : Nat) (L : List St), k ≤ q ∧ i = .int .i64 k ∧ GrowD wr w.heap.size 1 v (dl L) ∧ L.length ≤ k ∧ cntL L ≤ k * 4 ^ n ∧ nxL L ≤ 24 * cntL L ∧ Drew w g A c xs wr) (fun _ i _ => q - (Go.RowKit.intOf i).toNat)
    case atStart => exact ⟨0, [], Nat.zero_le _, rfl, G1, Nat.le_refl _, by simp [cntL], by simp [nxL], D1⟩
    case round =>
      obtain ⟨k, L, hk, rfl, hG, hLl, hLc, hLx, hD⟩ := hrel
      by_cases hlt : k < q
      · have hV2 := hid (hV.out.drew hD.2)
        have D2 := hid hD
        have G2 := hid hG
        have u2 := hD.2.size
        clear hD hG
        go_wp2_with fail
        refine (draw_any g A c xs VA vc V 2 _ (by omega) (by omega) D2.out.1 hV2.out hl hs).mono ?_
        rintro e w3 ⟨v3, t, rfl, hm, hcnt, hd3⟩
        obtain ⟨tk, tn, ts, KA, kl, kc, rfl⟩ := form_made hm
        have D3 := hid (drew_tr D2.out hd3)
        have G3 := hid (G2.out.keep hgw hd3.2)
        have V3 := hid (hV2.out.drew hd3.2)
        have M3 := hid hm
        have u3 := hd3.2.size
        clear hd3 hm
        go_wp2_with fail
        have hb := box_below w3 (.cells #[.int .i64 tk, .int .i64 tn, sv ts, .slice KA kl kc] 92)
        have X4 := hid (box_blk w3 tk tn ts KA kl kc 92)
        have D4 := hid (drew_be D3.out hb)
        have G4 := hid (G3.out.below hb)
        have V4 := hid (V3.out.below hb)
        have u4 := hb.size
        have own2 := hid (fun b h => (G2.out.own (b := b) h).2)
        have E4 := hid (Ex.cry (Ex.cry (made_rd M3.out) (Cry.later (o := u9.ownBlock) u2 own2.out _) (Nat.le_refl _)) (Cry.two (o := u9.ownBlock) (lo := w.heap.size) fun k hk _ _ => hb.block k hk) hb.size)
        clear hb
        generalize (w3.alloc (.cells #[.int .i64 tk, .int .i64 tn, sv ts, .slice KA kl kc] 92)) = w4 at *
        refine (below_any g A c xs 8 _ D4.out.1 (by omega) (by omega)).mono ?_
        rintro e w5 ⟨⟨x, rfl, hx8, -⟩, hd5⟩
        have D5 := hid (drew_tr D4.out hd5)
        have X5 := hid (X4.out.gb hd5.2 (by omega))
        have G5 := hid (G4.out.keep hgw hd5.2)
        have V5 := hid (V4.out.drew hd5.2)
        have E5 := hid (Ex.cry E4.out (cry_g hd5.2 hgw) hd5.2.size)
        have u5 := hd5.2.size
        have hx8 : x < 8 := by omega
        clear hd5 G2 G3 G4 D2 D3 D4 V3 V4 M3 E4 X4 hV2
        obtain ⟨e0, e1, e2, e3⟩ := four X5.out
        have hnext := hid (fun (t' : St) (h1 : cntSt t' ≤ 4 ^ n) (h2 : nxSt t' ≤ 24 * cntSt t') => show (L ++ [t']).length ≤ k + 1 ∧ cntL (L ++ [t']) ≤ (k + 1) * 4 ^ n ∧ nxL (L ++ [t']) ≤ 24 * cntL (L ++ [t']) by
          rw [cntL_snoc, nxL_snoc, List.length_append, List.length_singleton, Nat.add_mul, Nat.one_mul]; exact ⟨by omega, by omega, by omega⟩)
        have hstay := hid (show L.length ≤ k + 1 ∧ cntL L ≤ (k + 1) * 4 ^ n ∧ nxL L ≤ 24 * cntL L by
          rw [Nat.add_mul, Nat.one_mul]; exact ⟨by omega, Nat.le_trans hLc (Nat.le_add_right _ _), hLx⟩)
        have hq6 : (dl L).length < 1000000 := by rw [dl_len]; omega
        have hown := hid (fun b h => (G5.out.own (b := b) h).1)
        have hws : w.heap.size ≤ w5.heap.size := D5.out.2.size
        clear hLl hLc hLx
        by_cases hx2 : x = 2
        · subst hx2
          have r2 := hid (rd_st (k := 4) (s := []) (bs := []) (es := []) (by simp) E5.out (row_none _ _) (by simp) (cb := 0) (by simp) (row_none _ _) (by simp) (cc := 0) (by simp))
          go_wp2_with (at_builtin; refine GrowD.app G5.out hws (sc 4 [] tk tn ts KA kl kc none 0 0 none 0 0) _ rfl r2.out hq6 stT zeroSt rfl (by omega) rfl _ _ rfl rfl _ rfl rfl ?_; intro v7 w7 hG7 hg7; rw [← dl_snoc] at hG7; have D7 := hid (drew_row D5.out hown.out (Nat.le_refl _) hgw hg7); have G7 := hid hG7; clear hg7 hG7)
          obtain ⟨n1, n2, n3⟩ := hnext.out (.mk 4 [] t [] []) (by simp [cntSt, cntL, Nat.one_le_pow]) (by simp [cntSt, cntL, nxSt, nxL]; omega)
          exact ⟨⟨k + 1, _, hlt, by go_num, G7.out, n1, n2, n3, D7.out⟩, by simp [Go.RowKit.intOf]; omega⟩
        by_cases hx0 : x = 0
        · subst hx0
          by_cases hd1 : 1 < d
          · by_cases hv0 : 0 < V.length
            · have t1 : decide (1 < d) = true := decide_eq_true hd1
              have t2 : decide (0 < V.length) = true := decide_eq_true hv0
              go_wp2_with fail
              refine (loop_any g A c xs (n - 1) (by omega) (ih.out (n - 1) (by omega) (by omega)) d VA vc V w5 (by omega) (by omega) D5.out.1 V5.out hl hs hv0).mono ?_
              rintro e w6 ⟨cs, t', rfl, -, hr6, hcn, hex, hd6⟩
              have D6 := hid (drew_tr D5.out hd6)
              have G6 := hid (G5.out.keep hgw hd6.2)
              have own6 := hid (fun b h => (G5.out.own (b := b) h).2)
              have hr7 := hr6.cry (Cry.later (o := u9.ownBlock) hws own6.out _) (Nat.le_refl _)
              have hws6 : w.heap.size ≤ w6.heap.size := D6.out.2.size
              have hn1 : 2 + 4 ^ (n - 1) ≤ 4 ^ n := by
                obtain ⟨m, rfl⟩ : ∃ m, n = m + 1 := ⟨n - 1, by omega⟩
                rw [Nat.add_sub_cancel, Nat.pow_succ]
                have := Nat.one_le_pow m 4 (by decide)
                omega
              obtain ⟨n1, n2, n3⟩ := hnext.out t' (Nat.le_trans hcn hn1) hex
              obtain ⟨qk, qs, qe, qb, qc⟩ := t'
              obtain ⟨ek, en, en', A1, l1, c1, Bb, cb, C, cc, rb, rc, rfl, -⟩ := st_inv (St.d_mk .. ▸ hr7)
              simp only [dl_len] at hr7
              have hr7 := hid hr7
              clear hr6 hd6 hcn hex G5
              go_wp2_with (at_builtin; refine GrowD.app G6.out hws6 _ _ rfl hr7.out hq6 stT zeroSt rfl (by omega) rfl _ _ rfl rfl _ rfl rfl ?_; intro v7 w7 hG7 hg7; rw [← dl_snoc] at hG7; have D7 := hid (drew_row D6.out hown.out (Nat.le_refl _) hgw hg7); have G7 := hid hG7; clear hg7 hG7)
              exact ⟨⟨k + 1, _, hlt, by go_num, G7.out, n1, n2, n3, D7.out⟩, by simp [Go.RowKit.intOf]; omega⟩
            · have t1 : decide (1 < d) = true := decide_eq_true hd1
              have t2 : decide (0 < V.length) = false := decide_eq_false hv0
              go_wp2_with fail
              obtain ⟨n1, n2, n3⟩ := hstay.out
              exact ⟨⟨k + 1, _, hlt, by go_num, G5.out, n1, n2, n3, D5.out⟩, by simp [Go.RowKit.intOf]; omega⟩
          · have t1 : decide (1 < d) = false := decide_eq_false hd1
            go_wp2_with fail
            obtain ⟨n1, n2, n3⟩ := hstay.out
            exact ⟨⟨k + 1, _, hlt, by go_num, G5.out, n1, n2, n3, D5.out⟩, by simp [Go.RowKit.intOf]; omega⟩
        by_cases hx1 : x = 1
        · subst hx1
          by_cases hd1 : 1 < d
          · have t1 : decide (1 < d) = true := decide_eq_true hd1
            have hn2 : 2 ≤ n := by omega
            have hdw : Below w5.heap.size w5 w5.drew := (Below.refl _ _).drew
            have DD := hid (drew_be D5.out hdw)
            have VD := hid (V5.out.below hdw)
            have XD := hid (X5.out.below hdw X5.out.lt)
            have GD := hid (G5.out.below hdw)
            have ED := hid (Ex.cry E5.out (Cry.two (o := u9.ownBlock) (lo := w.heap.size) fun k hk _ _ => hdw.block k hk) hdw.size)
            have hwD : w.heap.size ≤ w5.drew.heap.size := hws
            have ownD := hid (fun b h => (GD.out.own (b := b) h).2)
            have tw : IntKind.i64.wrap (d - 1) = d - 1 := IntWalk.i64_in _ (by omega)
            have hB := hid (fun W hc hv => blk_rd (ih.out (n - 1) (by omega) (by omega)) (d - 1) 1 VA vc V W (by omega) (by omega) (by omega) hc hv hl hs)
            have step1 : ∀ w6, Drew w5.drew g A c xs w6 → Hid (Drew w g A c xs w6) ∧ Hid (VarsAt w6 g VA V) ∧ Hid (Blk w6 w3.heap.size 92 [.int .i64 tk, .int .i64 tn, sv ts, .slice KA kl kc]) := fun w6 hd =>
              ⟨hid (drew_tr DD.out hd), hid (VD.out.drew hd.2), hid (XD.out.gb hd.2 (by omega))⟩
            have step2 : ∀ w6 w7 B6 (L6 : List St) c6 rows6 B7 (L7 : List St) c7 rows7, Drew w5.drew g A c xs w6 → Drew w6 g A c xs w7 → L6.length ≤ c6 → Row (ezb w6 w5.drew.heap.size) w6.heap.size 1 B6 (dl L6) rows6 → L6.length ≤ maxI → cntL L6 ≤ 1 * 4 ^ (n - 1) → nxL L6 ≤ 24 * cntL L6 →
                L7.length ≤ c7 → Row (ezb w7 w6.heap.size) w7.heap.size 1 B7 (dl L7) rows7 → L7.length ≤ maxI → cntL L7 ≤ 1 * 4 ^ (n - 1) → nxL L7 ≤ 24 * cntL L7 →
                (Hid (Drew w g A c xs w7) ∧ Hid (Blk w7 w3.heap.size 92 [.int .i64 tk, .int .i64 tn, sv ts, .slice KA kl kc]) ∧ Hid (GrowD w7 w.heap.size 1 u9 (dl L)) ∧ Hid (Rd8 (ezo (ezb w7 w.heap.size) u9.ownBlock) w7.heap.size (sc 2 [] tk tn ts KA kl kc B6 L6.length c6 B7 L7.length c7) (St.mk 2 [] t L6 L7).d) ∧ Hid (w.heap.size ≤ w7.heap.size)) ∧
                Hid ((L ++ [St.mk 2 [] t L6 L7]).length ≤ k + 1 ∧ cntL (L ++ [St.mk 2 [] t L6 L7]) ≤ (k + 1) * 4 ^ n ∧ nxL (L ++ [St.mk 2 [] t L6 L7]) ≤ 24 * cntL (L ++ [St.mk 2 [] t L6 L7])) := by
              intro w6 w7 B6 L6 c6 rows6 B7 L7 c7 rows7 hd6 hd7 q1 q2 q3 q4 q5 q6 q7 q8 q9 q10
              have z6 := hd6.2.size
              have z7 := hd7.2.size
              have hwD5 : w5.drew.heap.size = w5.heap.size := rfl
              have r6 := (q2.cry (Cry.later (o := u9.ownBlock) hwD ownD.out _) (Nat.le_refl _)).cry (cry_g (o := u9.ownBlock) hd7.2 hgw) z7
              have r7 := q7.cry (Cry.later (lo := w.heap.size) (o := u9.ownBlock) (by omega) (fun b h => by have := ownD.out b h; omega) _) (Nat.le_refl _)
              have e7 := Ex.cry (Ex.cry ED.out (cry_g (o := u9.ownBlock) hd6.2 hgw) z6) (cry_g (o := u9.ownBlock) hd7.2 hgw) z7
              refine ⟨⟨hid (drew_tr (drew_tr DD.out hd6) hd7), hid ((XD.out.gb hd6.2 (by omega)).gb hd7.2 (by omega)), hid ((GD.out.keep hgw hd6.2).keep hgw hd7.2), hid (rd_st (by simp) e7 r6 q3 q1 r7 q8 q6), hid (by omega)⟩, hid (hnext.out _ ?_ ?_)⟩
              · have hp : 4 ^ n = 4 * 4 ^ (n - 1) := by
                  obtain ⟨m, rfl⟩ : ∃ m, n = m + 1 := ⟨n - 1, by omega⟩
                  rw [Nat.add_sub_cancel, Nat.pow_succ, Nat.mul_comm]
                have h1p := Nat.one_le_pow (n - 1) 4 (by decide)
                simp only [cntSt]
                omega
              · simp only [cntSt, nxSt, List.length_nil]
                omega
            clear hdw G5 D5 X5 E5 V5
            go_wp2_with fail
            go_region_law (first
              | (refine GrowD.step G7.out hw7.out (sc 2 [] tk tn ts KA kl kc B6 L6.length c6 B7 L7.length c7) _ rfl r7.out hq6 stT zeroSt rfl (by omega) rfl (.tmp 59) (.tmp 72) rfl rfl _ rfl rfl ?_; intro v8 w8 hG8 hg8)
              | (go_simp; go_at_call 74; refine (hB.out _ DD.out.1 VD.out).mono ?_; rintro e w6 ⟨B6, L6, c6, rows6, rfl, q1, q2, q3, q4, q5, hd6⟩; obtain ⟨D6, V6, X6⟩ := step1 w6 hd6; obtain ⟨f0, f1, f2, f3⟩ := four X6.out)
              | (go_simp; go_at_call 74; refine (hB.out _ D6.out.1 V6.out).mono ?_; rintro e w7 ⟨B7, L7, c7, rows7, rfl, q6, q7, q8, q9, q10, hd7⟩; obtain ⟨⟨D7, X7, G7, r7, hw7⟩, hfin⟩ := step2 w6 w7 B6 L6 c6 rows6 B7 L7 c7 rows7 hd6 hd7 q1 q2 q3 q4 q5 q6 q7 q8 q9 q10; obtain ⟨i0, i1, i2, i3⟩ := four X7.out))
            all_goals
              rw [← dl_snoc] at hG8
              have D8 := hid (drew_row D7.out hown.out (Nat.le_refl _) hgw hg8)
              have G8 := hid hG8
              clear hG8 hg8 step1 step2
              go_wp2_with fail
              obtain ⟨n1, n2, n3⟩ := hfin.out
              exact ⟨⟨k + 1, _, hlt, by go_num, G8.out, n1, n2, n3, D8.out⟩, by simp [Go.RowKit.intOf]; omega⟩
          · have t1 : decide (1 < d) = false := decide_eq_false hd1
            go_wp2_with fail
            obtain ⟨n1, n2, n3⟩ := hstay.out
            exact ⟨⟨k + 1, _, hlt, by go_num, G5.out, n1, n2, n3, D5.out⟩, by simp [Go.RowKit.intOf]; omega⟩
        have t0 : ((x : Int) == 0) = false := beq_false_of_ne (by omega)
        have t1 : ((x : Int) == 1) = false := beq_false_of_ne (by omega)
        have t2 : ((x : Int) == 2) = false := beq_false_of_ne (by omega)
        by_cases hv0 : 0 < V.length
        · have t3 : decide (0 < V.length) = true := decide_eq_true hv0
          have hdw : Below w5.heap.size w5 w5.drew := (Below.refl _ _).drew
          have DD := hid (drew_be D5.out hdw)
          have VD := hid (V5.out.below hdw)
          have XD := hid (X5.out.below hdw X5.out.lt)
          have GD := hid (G5.out.below hdw)
          have ED := hid (Ex.cry E5.out (Cry.two (o := u9.ownBlock) (lo := w.heap.size) fun k hk _ _ => hdw.block k hk) hdw.size)
          have hwD : w.heap.size ≤ w5.drew.heap.size := hws
          have step2 : ∀ w7 s, s ∈ V → Drew w5.drew g A c xs w7 →
              (Hid (Drew w g A c xs w7) ∧ Hid (Blk w7 w3.heap.size 92 [.int .i64 tk, .int .i64 tn, sv ts, .slice KA kl kc]) ∧ Hid (GrowD w7 w.heap.size 1 u9 (dl L)) ∧ Hid (Rd8 (ezo (ezb w7 w.heap.size) u9.ownBlock) w7.heap.size (sc 1 s tk tn ts KA kl kc none 0 0 none 0 0) (St.mk 1 s t [] []).d) ∧ Hid (w.heap.size ≤ w7.heap.size)) ∧
              Hid ((L ++ [St.mk 1 s t [] []]).length ≤ k + 1 ∧ cntL (L ++ [St.mk 1 s t [] []]) ≤ (k + 1) * 4 ^ n ∧ nxL (L ++ [St.mk 1 s t [] []]) ≤ 24 * cntL (L ++ [St.mk 1 s t [] []])) := by
            intro w7 s hsm hd7
            have z7 := hd7.2.size
            have e7 := Ex.cry ED.out (cry_g (o := u9.ownBlock) hd7.2 hgw) z7
            have hs9 := hs s hsm
            refine ⟨⟨hid (drew_tr DD.out hd7), hid (XD.out.gb hd7.2 (by omega)), hid (GD.out.keep hgw hd7.2), hid (rd_st (bs := []) (es := []) (Nat.le_trans hs9 (by decide)) e7 (row_none _ _) (by simp) (cb := 0) (by simp) (row_none _ _) (by simp) (cc := 0) (by simp)), hid (by omega)⟩, hid (hnext.out _ (by simp [cntSt, cntL, Nat.one_le_pow]) (by simp [cntSt, cntL, nxSt, nxL]; omega))⟩
          have hP := hid (pick_any g A c xs VA vc V w5.drew DD.out.1 VD.out.rd.1 (VD.out.rd.2 hv0) hv0 hl)
          clear hdw G5 D5 X5 E5 V5
          go_wp2_with fail
          go_region_law (first
            | (refine GrowD.step G7.out hw7.out (sc 1 s tk tn ts KA kl kc none 0 0 none 0 0) _ rfl r7.out hq6 stT zeroSt rfl (by omega) rfl (.tmp 31) (.tmp 37) rfl rfl _ rfl rfl ?_; intro v8 w8 hG8 hg8)
            | (go_simp; go_at_call 75; refine hP.out.mono ?_; rintro e w7 ⟨⟨s, hsm, rfl⟩, hd7⟩; obtain ⟨⟨D7, X7, G7, r7, hw7⟩, hfin⟩ := step2 w7 s hsm hd7; obtain ⟨i0, i1, i2, i3⟩ := four X7.out))
          all_goals
            rw [← dl_snoc] at hG8
            have D8 := hid (drew_row D7.out hown.out (Nat.le_refl _) hgw hg8)
            have G8 := hid hG8
            clear hG8 hg8 step2
            go_wp2_with fail
            obtain ⟨n1, n2, n3⟩ := hfin.out
            exact ⟨⟨k + 1, _, hlt, by go_num, G8.out, n1, n2, n3, D8.out⟩, by simp [Go.RowKit.intOf]; omega⟩
        · have t3 : decide (0 < V.length) = false := decide_eq_false hv0
          go_wp2_with fail
          obtain ⟨n1, n2, n3⟩ := hstay.out
          exact ⟨⟨k + 1, _, hlt, by go_num, G5.out, n1, n2, n3, D5.out⟩, by simp [Go.RowKit.intOf]; omega⟩
      · obtain rfl : k = q := by omega
        have hG := hid hG
        have hD := hid hD
        have hfin := hid (show L.length ≤ most ∧ cntL L ≤ most * 4 ^ n from ⟨by omega, Nat.le_trans hLc (Nat.mul_le_mul_right _ hqm)⟩)
        go_wp2_with fail
        go_ret
        exact ⟨_, L, rfl, hG.out, hfin.out.1, hfin.out.2, hLx, hD.out⟩
theorem setCells_blk {g ty : Nat} : ∀ (vs : List Value) (o : Nat) (w : World) (cs : List Value), Blk w g ty cs → ∃ cs', Blk (w.setCells g o vs) g ty cs' ∧ cs'.length = cs.length ∧ (∀ k, k < o ∨ o + vs.length ≤ k → cs'[k]? = cs[k]?) ∧ ∀ j, j < vs.length → o + j < cs.length → cs'[o + j]? = vs[j]?
  | [], o, w, cs, h => ⟨cs, h, rfl, fun _ _ => rfl, fun j hj => by simp at hj⟩
  | v :: r, o, w, cs, h => by
    obtain ⟨cs', h1, h2, h3, h4⟩ := setCells_blk r (o + 1) (w.setCell ⟨g, o, none⟩ v) (cs.set o v) (h.set_ o v)
    refine ⟨cs', h1, by rw [h2, List.length_set], fun k hk => ?_, fun j hj hl => ?_⟩
    · rw [List.length_cons] at hk
      rw [h3 k (by omega), List.getElem?_set_ne (by omega)]
    · rw [List.length_cons] at hj
      match j with
      | 0 =>
        rw [Nat.add_zero] at hl ⊢
        rw [h3 o (by omega), List.getElem?_set_self hl]; rfl
      | j + 1 =>
        rw [show o + (j + 1) = o + 1 + j by omega, h4 j (by omega) (by rw [List.length_set]; omega)]; rfl
theorem setCells_tape (g : Nat) : ∀ (vs : List Value) (o : Nat) (w : World), (w.setCells g o vs).tape = w.tape
  | [], _, _ => rfl
  | v :: r, o, w => setCells_tape g r (o + 1) (w.setCell ⟨g, o, none⟩ v)
theorem own_mono {w : World} {base base' e sz m : Nat} {v : Value} {xs : List Value} (h : w.ownsRow base e sz v m xs) (hb : base' ≤ base) : w.ownsRow base' e sz v m xs :=
  ⟨h.1, h.2.imp id fun ⟨g, cap, cur, h1, h2, h3⟩ => ⟨g, cap, cur, h1, Nat.le_trans hb h2, h3⟩⟩
theorem Cry.three {w w' : World} {lo : Nat} {o P : Option Nat} {B : Nat} (hc : ∀ k, k < B → lo ≤ k → (∀ b, o = some b → k ≠ b) → (∀ b, P = some b → k ≠ b) → w'.heap[k]? = w.heap[k]?) : Cry (ezo (ezo (ezb w lo) o) P) (ezo (ezo (ezb w' lo) o) P) B := fun p v hp hv => by
  obtain ⟨h0, hv⟩ := ezo_cell hv
  obtain ⟨h1, hv⟩ := ezo_cell hv
  obtain ⟨h2, hv⟩ := ezb_cell hv
  refine ezo_cell_in h0 (ezo_cell_in h1 (ezb_in h2 ?_))
  unfold World.cell? at *
  rw [pln_keep (hc _ hp h2 h1 h0)]; exact hv
theorem Cry.later2 {w : World} {lo lo' : Nat} {o P : Option Nat} (hl : lo ≤ lo') (h : ∀ b, o = some b → b < lo') (hP : ∀ b, P = some b → b < lo') (B : Nat) : Cry (ezb w lo') (ezo (ezo (ezb w lo) o) P) B := fun p v hp hv =>
  ezo_cell_in (fun b e => by have := hP b e; have := (ezb_cell hv).1; omega) (Cry.later hl h B p v hp hv)
structure GrowO (w : World) (lo : Nat) (P : Option Nat) (n : Nat) (v : Value) (L : List (List D)) : Prop where
  row : (v = .slice none 0 0 ∧ L = []) ∨ ∃ (g off cap : Nat) (cs : List Value) (rows : Nat → List Value), v = .slice (some ⟨g, off, none⟩) L.length cap ∧ lo ≤ g ∧ Blk w g (tyI n) cs ∧ L.length ≤ cap ∧ cap ≤ maxLen ∧ off + cap * wd n ≤ cs.length ∧
    (∀ j, j < L.length → (rows j).length = wd n ∧ ∀ i u, (rows j)[i]? = some u → cs[off + (j * wd n + i)]? = some u) ∧ (∀ j e, L[j]? = some e → Rd8 (ezo (ezo (ezb w lo) (some g)) P) w.heap.size (rows j) e) ∧ ∀ b, P = some b → g ≠ b
theorem GrowD.o {w : World} {lo n : Nat} {v : Value} {L : List (List D)} (hG : GrowD w lo n v L) : GrowO w lo none n v L := by
  obtain ⟨xs, rows, ⟨hx, ⟨rfl, hz⟩ | ⟨g, cap, cur, rfl, hg, hblk, hnc, hcm, hcs, ht⟩⟩, hr, hk⟩ := hG
  · exact ⟨Or.inl ⟨rfl, List.eq_nil_of_length_eq_zero hz⟩⟩
  · refine ⟨Or.inr ⟨g, 0, cap, cur.toList, rows, rfl, hg, (show w.heap[g]? = some (.cells cur.toList.toArray (tyI n) (0, 0)) by simpa using hblk), hnc, hcm, by simp; omega, fun j hj => ⟨(hr j hj).1, fun i u hu => ?_⟩, hk, fun b h => by cases h⟩⟩
    have h3 := (hr j hj).2 i u hu
    rw [← ht, List.getElem?_take] at h3
    split at h3
    · rw [Nat.zero_add]; exact h3
    · cases h3
theorem GrowO.keep {w w' : World} {h lo : Nat} {P : Option Nat} {n : Nat} {v : Value} {L : List (List D)} (hG : GrowO w lo P n v L) (hlt : h < lo) (hg : w.grownBy w' (some h)) : GrowO w' lo P n v L := by
  obtain ⟨hn | ⟨g, off, cap, cs, rows, e, h1, h2, h3, h4, h5, h6, h7, h8⟩⟩ := hG
  · exact ⟨Or.inl hn⟩
  · exact ⟨Or.inr ⟨g, off, cap, cs, rows, e, h1, h2.gb hg (by omega), h3, h4, h5, h6, fun j e he => (h7 j e he).cry (Cry.three fun k hk hne _ _ => hg.block k hk fun e => by cases e; omega) hg.size, h8⟩⟩
theorem GrowO.below {w w' : World} {lo : Nat} {P : Option Nat} {n : Nat} {v : Value} {L : List (List D)} (hG : GrowO w lo P n v L) (hb : Below w.heap.size w w') : GrowO w' lo P n v L := by
  obtain ⟨hn | ⟨g, off, cap, cs, rows, e, h1, h2, h3, h4, h5, h6, h7, h8⟩⟩ := hG
  · exact ⟨Or.inl hn⟩
  · exact ⟨Or.inr ⟨g, off, cap, cs, rows, e, h1, h2.below hb h2.lt, h3, h4, h5, h6, fun j e he => (h7 j e he).cry (Cry.three fun k hk _ _ _ => hb.block k hk) hb.size, h8⟩⟩
theorem GrowO.turn {w w' : World} {lo n : Nat} {P : Option Nat} {v : Value} {L : List (List D)} (hG : GrowO w lo P n v L) (hg : w.grownBy w' P) : GrowO w' lo P n v L := by
  obtain ⟨hn | ⟨g, off, cap, cs, rows, e, h1, h2, h3, h4, h5, h6, h7, h8⟩⟩ := hG
  · exact ⟨Or.inl hn⟩
  · exact ⟨Or.inr ⟨g, off, cap, cs, rows, e, h1, (hg.block g h2.lt fun e => h8 g e.symm rfl).trans h2, h3, h4, h5, h6, fun j e he => (h7 j e he).cry (Cry.three fun k hk _ _ hne => hg.block k hk fun e => hne k e.symm rfl) hg.size, h8⟩⟩
theorem GrowO.seal {w : World} {lo n b : Nat} {v : Value} {L : List (List D)} (hG : GrowO w lo none n v L) (hb : w.heap.size ≤ b) : GrowO w lo (some b) n v L := by
  obtain ⟨hn | ⟨g, off, cap, cs, rows, e, h1, h2, h3, h4, h5, h6, h7, h8⟩⟩ := hG
  · exact ⟨Or.inl hn⟩
  · exact ⟨Or.inr ⟨g, off, cap, cs, rows, e, h1, h2, h3, h4, h5, h6, fun j e he => (h7 j e he).cry (Cry.ezo_in _ fun b' e => by cases e; exact hb) (Nat.le_refl _), fun b' e => by cases e; have := h2.lt; omega⟩⟩
theorem GrowO.own {w : World} {lo n : Nat} {P : Option Nat} {v : Value} {L : List (List D)} (hG : GrowO w lo P n v L) {b : Nat} (hb : v.ownBlock = some b) : lo ≤ b ∧ b < w.heap.size := by
  obtain ⟨⟨rfl, _⟩ | ⟨g, off, cap, cs, rows, rfl, h1, h2, _⟩⟩ := hG
  · cases hb
  · cases hb; exact ⟨h1, h2.lt⟩
theorem GrowO.rd {w : World} {lo n : Nat} {P : Option Nat} {v : Value} {L : List (List D)} (hG : GrowO w lo P n v L) : ∃ A c rows, v = .slice A L.length c ∧ L.length ≤ c ∧ Row (ezb w lo) w.heap.size n A L rows ∧ L.length ≤ maxI := by
  obtain ⟨⟨rfl, rfl⟩ | ⟨g, off, cap, cs, rows, rfl, h1, h2, h3, h4, h5, h6, h7, h8⟩⟩ := hG
  · exact ⟨none, 0, fun _ => [], rfl, Nat.le_refl _, ⟨fun j hj => by simp at hj, fun j e he => by simp at he⟩, by simp⟩
  · refine ⟨_, _, rows, rfl, h3, ⟨fun j hj => ⟨(h6 j hj).1, _, rfl, h2.lt, fun i u hu => ?_⟩, fun j e he => (h7 j e he).cry ((Cry.ezo_out _ _ _).trans (Cry.ezo_out _ _ _) (Nat.le_refl _)) (Nat.le_refl _)⟩, by unfold maxLen at h4; unfold maxI; omega⟩
    rw [show ((⟨g, off, none⟩ : Addr).add (j * wd n)).add i = ⟨g, off + (j * wd n + i), none⟩ by rw [Addr.add_lit, Addr.add_lit, Nat.add_assoc]]
    exact ezb_in h1 (by rw [pln_in (Blk.pl h2), h2.cell]; exact (h6 j hj).2 i u hu)
theorem GrowO.tail {w : World} {lo n : Nat} {P : Option Nat} {v : Value} {d : List D} {L : List (List D)} (hG : GrowO w lo P n v (d :: L)) : ∃ g off cap, v = .slice (some ⟨g, off, none⟩) (L.length + 1) cap ∧ L.length + 1 ≤ cap ∧ (GrowO w lo P n (.slice (some ⟨g, off + wd n, none⟩) L.length (cap - 1)) L) ∧ (cap = 1 → GrowO w lo P n (.slice (some ⟨g, off, none⟩) L.length (cap - 1)) L) := by
  obtain ⟨⟨_, h⟩ | ⟨g, off, cap, cs, rows, rfl, h1, h2, h3, h4, h5, h6, h7, h8⟩⟩ := hG
  · cases h
  rw [List.length_cons] at h3 h6
  have hcw : cap * wd n = (cap - 1) * wd n + wd n := by
    obtain ⟨m, rfl⟩ : ∃ m, cap = m + 1 := ⟨cap - 1, by omega⟩
    rw [Nat.add_sub_cancel, Nat.add_mul, Nat.one_mul]
  refine ⟨g, off, cap, rfl, h3, ⟨Or.inr ⟨g, off + wd n, cap - 1, cs, fun j => rows (j + 1), rfl, h1, h2, by omega, by omega, by omega, fun j hj => ⟨(h6 (j + 1) (by omega)).1, fun i u hu => ?_⟩, fun j e he => h7 (j + 1) e he, h8⟩⟩, fun hc => ?_⟩
  · rw [show off + wd n + (j * wd n + i) = off + ((j + 1) * wd n + i) by rw [Nat.add_mul, Nat.one_mul]; omega]
    exact (h6 (j + 1) (by omega)).2 i u hu
  · subst hc
    obtain rfl : L = [] := List.eq_nil_of_length_eq_zero (by omega)
    exact ⟨Or.inr ⟨g, off, 0, cs, fun _ => [], rfl, h1, h2, Nat.le_refl _, Nat.zero_le _, by omega, fun j hj => by simp at hj, fun j e he => by simp at he, h8⟩⟩
theorem grown_o {W w' w : World} {lo n : Nat} {P o : Option Nat} {v' : Value} {L : List (List D)} {olds new : List Value} {d : List D} {rows : Nat → List Value} (hlo : lo ≤ W.heap.size) (hPw : ∀ b, P = some b → b < w.heap.size) (hws : w.heap.size ≤ W.heap.size) (hown : w'.ownsRow W.heap.size (tyI n) (wd n) v' (L.length + 1) (olds ++ new)) (hg' : W.grownBy w' none)
    (hn : new.length = wd n) (hol : olds.length = L.length * wd n) (h6 : ∀ j, j < L.length → (rows j).length = wd n ∧ ∀ i u, (rows j)[i]? = some u → olds[j * wd n + i]? = some u) (h7 : ∀ j e, L[j]? = some e → Rd8 (ezo (ezo (ezb W lo) o) P) W.heap.size (rows j) e) (hr1 : Rd8 (ezo (ezo (ezb W lo) o) P) W.heap.size new d) : GrowO w' lo P n v' (L ++ [d]) := by
  have hge := fun b (h : v'.ownBlock = some b) => (own_ge hown h).1
  have hcry : Cry (ezo (ezo (ezb W lo) o) P) (ezo (ezo (ezb w' lo) v'.ownBlock) P) W.heap.size := fun p v hp hv => by
    obtain ⟨q0, hv⟩ := ezo_cell hv
    obtain ⟨_, q2⟩ := ezo_cell hv
    have q3 := Cry.two (o := none) (lo := lo) (fun k hk _ _ => hg'.block k hk (by simp)) p v hp q2
    exact ezo_cell_in q0 (ezo_cell_in (fun b hb => by have := hge b hb; omega) q3)
  obtain ⟨hx, ⟨_, hz⟩ | ⟨g, cap, cur, rfl, hg, hblk, hnc, hcm, hcs, ht⟩⟩ := hown
  · omega
  refine ⟨Or.inr ⟨g, 0, cap, cur.toList, fun j => if j < L.length then rows j else new, by rw [List.length_append]; rfl, by omega, (show w'.heap[g]? = some (.cells cur.toList.toArray (tyI n) (0, 0)) by simpa using hblk), by rw [List.length_append]; exact hnc, hcm, by simp; omega, fun j hj => ?_, fun j e he => ?_, fun b e => by have := hPw b e; omega⟩⟩
  · rw [List.length_append, List.length_singleton] at hj
    have key : ∀ k u, (olds ++ new)[k]? = some u → cur.toList[0 + k]? = some u := fun k u hk => by
      rw [Nat.zero_add]
      rw [← ht, List.getElem?_take] at hk
      split at hk
      · exact hk
      · cases hk
    dsimp only
    by_cases hjl : j < L.length
    · rw [if_pos hjl]
      obtain ⟨q1, q2⟩ := h6 j hjl
      refine ⟨q1, fun i u hiu => key _ _ ?_⟩
      have h3 := q2 i u hiu
      rw [List.getElem?_append_left (lt_of_get h3)]; exact h3
    · rw [if_neg hjl]
      obtain rfl : j = L.length := by omega
      refine ⟨hn, fun i u hiu => key _ _ ?_⟩
      rw [List.getElem?_append_right (by omega), hol, Nat.add_sub_cancel_left]; exact hiu
  · dsimp only
    by_cases hjl : j < L.length
    · rw [List.getElem?_append_left hjl] at he
      rw [if_pos hjl]
      exact (h7 j e he).cry hcry hg'.size
    · rw [if_neg hjl]
      have hj2 := lt_of_get he
      rw [List.length_append, List.length_singleton] at hj2
      obtain rfl : j = L.length := by omega
      rw [List.getElem?_append_right (Nat.le_refl _), Nat.sub_self] at he
      cases he
      exact hr1.cry hcry hg'.size
theorem GrowO.run {w : World} {lo n : Nat} {P : Option Nat} {v : Value} {L : List (List D)} (hG : GrowO w lo P n v L) (hbs : lo ≤ w.heap.size) (hPw : ∀ b, P = some b → b < w.heap.size) (new : List Value) (d : List D) (hn : new.length = wd n) (hr : Rd8 (ezo (ezo (ezb w lo) v.ownBlock) P) w.heap.size new d) (hl : L.length < 1000000)
    {tS : TypeId} {z : List Value} {by8 : Nat} (hu : Tryz.prog.underlying tS = some (.slice (tyI n))) (hz : (Tryz.prog.info? (tyI n)).map (fun i => (i.zero, i.size, i.bytes)) = some (some (.agg z.toArray), wd n, by8)) (hzl : z.length = wd n) (hby : by8 ≤ 1000)
    (ty : TypeId) : ∃ v' w', (Builtin.append_ #[tS, tS] ty #[v, .slice (some ⟨w.heap.size, 0, none⟩) 1 1]).run Tryz.prog (w.alloc (.cells new.toArray (tyI n))) = .ok v' w' ∧ GrowO w' lo P n v' (L ++ [d]) ∧ w.grownBy w' v.ownBlock := by
  obtain ⟨i0, hi, hz0, hz1, hz2⟩ := info_parts hz
  have hnews : ∀ j u, new[j]? = some u → (w.alloc (.cells new.toArray (tyI n))).cell? ((⟨w.heap.size, 0, none⟩ : Addr).add j) = some u := fun j u hu => by
    rw [add_zero, (Blk.new w (tyI n) new).cell]; exact hu
  have hb1 := box_below w (.cells new.toArray (tyI n))
  have hr1 : Rd8 (ezo (ezo (ezb (w.alloc (.cells new.toArray (tyI n))) lo) v.ownBlock) P) (w.alloc (.cells new.toArray (tyI n))).heap.size new d := hr.cry (Cry.three fun k hk _ _ _ => hb1.block k hk) hb1.size
  have hG1 := hG.below hb1
  have hGs : w.grownBy (w.alloc (.cells new.toArray (tyI n))) v.ownBlock := World.grownBy_alloc w _ _
  have hWs := hGs.size
  have hone := hr.one
  have hwp := wd_pos n
  clear hG hr hb1
  generalize (w.alloc (.cells new.toArray (tyI n))) = W at *
  have hbyt : (L.length + 1) * by8 ≤ 140737488355328 := Nat.le_trans (Nat.mul_le_mul (show L.length + 1 ≤ 1000001 by omega) hby) (by decide)
  obtain ⟨⟨rfl, rfl⟩ | ⟨g, off, cap, cs, rows, rfl, h1, h2, h3, h4, h5, h6, h7, h8⟩⟩ := hG1
  · obtain ⟨v', w', hrun, hown, hg', _, hat⟩ := run_append_own_at (P := Tryz.prog) W W.heap.size tS ty (tyI n) i0 (.agg z.toArray) (wd n) by8 hu hi hz0 hz1 hz2 (by simpa [Value.cells] using hzl) hwp (.slice none 0 0) 0 [] (World.ownsRow_nil W _ (tyI n) (wd n)) ⟨w.heap.size, 0, none⟩ 1 1 new (by omega) hnews hone (by unfold maxLen; omega) (by simpa using hbyt) (Nat.le_refl _)
    exact ⟨v', w', hrun, grown_o (L := []) (olds := []) (rows := fun _ => []) (by omega) hPw hWs hown ⟨hg'.os, hg'.tape, hg'.output, hg'.size, hg'.block⟩ hn (by simp) (fun j hj => by simp at hj) (fun j e he => by simp at he) hr1, gb_trans hGs hg'⟩
  by_cases hroom : L.length + 1 ≤ cap
  · have hcw : cap * wd n = (cap - (L.length + 1)) * wd n + (L.length * wd n + wd n) := by
      obtain ⟨m, rfl⟩ : ∃ m, cap = L.length + 1 + m := ⟨cap - (L.length + 1), by omega⟩
      rw [Nat.add_sub_cancel_left, Nat.add_mul, Nat.add_mul, Nat.one_mul]; omega
    have hlt : ∀ j, j < wd n → off + L.length * wd n + j < cs.length := fun j hj => by omega
    have hrun := run_append_room_cells (P := Tryz.prog) W tS ty (tyI n) i0 hu hi g off L.length cap ⟨w.heap.size, 0, none⟩ 1 1 new (by rw [hz1]; omega) hnews hone hroom
      (fun j hj => by rw [hz1, h2.cell, List.getElem?_eq_getElem (hlt j (by omega))]; rfl) (fun j hj => h2.frozen _)
    rw [hz1] at hrun
    obtain ⟨cs', c1, c2, c3, c4⟩ := setCells_blk new (off + L.length * wd n) W cs h2
    have hoth : ∀ k, k < W.heap.size → k ≠ g → (W.setCells g (off + L.length * wd n) new).heap[k]? = W.heap[k]? := fun k hk hne => World.heap_setCells_other W g _ new hk hne
    have hkb := World.keptBut_setCells g (may := fun _ => True) new (off + L.length * wd n) W (fun _ _ => trivial)
    have hgr : W.grownBy (W.setCells g (off + L.length * wd n) new) (some g) := ⟨hkb.1, setCells_tape g new _ W, hkb.2.1, hkb.size, fun k hk hne => hoth k hk fun e => hne (by rw [e])⟩
    refine ⟨_, _, hrun, ⟨Or.inr ⟨g, off, cap, cs', fun j => if j < L.length then rows j else new, by rw [List.length_append]; rfl, h1, c1, by rw [List.length_append]; exact hroom, h4, by rw [c2]; exact h5, fun j hj => ?_, fun j e he => ?_, h8⟩⟩, gb_trans hGs hgr⟩
    · rw [List.length_append, List.length_singleton] at hj
      dsimp only
      by_cases hjl : j < L.length
      · rw [if_pos hjl]
        obtain ⟨q1, q2⟩ := h6 j hjl
        refine ⟨q1, fun i u hiu => ?_⟩
        have hi' := lt_of_get hiu
        have hm : j * wd n + wd n ≤ L.length * wd n := by
          have := Nat.mul_le_mul_right (wd n) (show j + 1 ≤ L.length by omega)
          rw [Nat.add_mul, Nat.one_mul] at this; exact this
        rw [c3 _ (Or.inl (by omega))]
        exact q2 i u hiu
      · rw [if_neg hjl]
        obtain rfl : j = L.length := by omega
        refine ⟨hn, fun i u hiu => ?_⟩
        have hi' := lt_of_get hiu
        rw [← Nat.add_assoc, c4 i hi' (hlt i (by omega))]; exact hiu
    · have hcry : Cry (ezo (ezo (ezb W lo) (some g)) P) (ezo (ezo (ezb (W.setCells g (off + L.length * wd n) new) lo) (some g)) P) W.heap.size := Cry.three fun k hk _ hne _ => hoth k hk (hne g rfl)
      dsimp only
      by_cases hjl : j < L.length
      · rw [List.getElem?_append_left hjl] at he
        rw [if_pos hjl]
        exact (h7 j e he).cry hcry hgr.size
      · rw [if_neg hjl]
        have hj2 := lt_of_get he
        rw [List.length_append, List.length_singleton] at hj2
        obtain rfl : j = L.length := by omega
        rw [List.getElem?_append_right (Nat.le_refl _), Nat.sub_self] at he
        cases he
        exact hr1.cry hcry hgr.size
  · have hLw : L.length * wd n ≤ cap * wd n := Nat.mul_le_mul_right _ h3
    have hol : ((cs.drop off).take (L.length * wd n)).length = L.length * wd n := by rw [List.length_take, List.length_drop]; omega
    obtain ⟨v', w', hrun, hown, hg'⟩ := run_append_arg_grows (P := Tryz.prog) W tS ty (tyI n) i0 (.agg z.toArray) (wd n) by8 hu hi hz0 hz1 hz2 (by simpa [Value.cells] using hzl) hwp ⟨g, off, none⟩ L.length cap ((cs.drop off).take (L.length * wd n)) hol
      (fun j u hu => by
        rw [Addr.add_lit, h2.cell]
        rw [List.getElem?_take] at hu
        split at hu
        · rw [List.getElem?_drop] at hu; exact hu
        · cases hu) ⟨w.heap.size, 0, none⟩ 1 1 new (by omega) hnews (by omega) (by unfold maxLen; omega) hbyt
    refine ⟨v', w', hrun, grown_o (rows := rows) (by omega) hPw hWs hown hg' hn hol (fun j hj => ?_) h7 hr1, gb_trans hGs ⟨hg'.os, hg'.tape, hg'.output, hg'.size, fun k hk _ => hg'.block k hk (by simp)⟩⟩
    obtain ⟨q1, q2⟩ := h6 j hj
    refine ⟨q1, fun i u hiu => ?_⟩
    have hi' := lt_of_get hiu
    have hm : j * wd n + wd n ≤ L.length * wd n := by
      have := Nat.mul_le_mul_right (wd n) (show j + 1 ≤ L.length by omega)
      rw [Nat.add_mul, Nat.one_mul] at this; exact this
    rw [List.getElem?_take, if_pos (by omega), List.getElem?_drop]
    exact q2 i u hiu
theorem GrowO.step {w : World} {lo n : Nat} {P : Option Nat} {v : Value} {L : List (List D)} (hG : GrowO w lo P n v L) (hbs : lo ≤ w.heap.size) (hPw : ∀ b, P = some b → b < w.heap.size) (new : List Value) (d : List D) (hn : new.length = wd n) (hr : Rd8 (ezo (ezo (ezb w lo) v.ownBlock) P) w.heap.size new d) (hl : L.length < 1000000)
    {tS : TypeId} {z : List Value} {by8 : Nat} (hu : Tryz.prog.underlying tS = some (.slice (tyI n))) (hz : (Tryz.prog.info? (tyI n)).map (fun i => (i.zero, i.size, i.bytes)) = some (some (.agg z.toArray), wd n, by8)) (hzl : z.length = wd n) (hby : by8 ≤ 1000)
    {o : Oper} {a : Act} {ops : Array Oper} {K : Act → World → Prop} {Q : Exit → Act → World → Prop} {E : Prop} (hgd : o.guard = none) (s x : Operand) (ho : o.op = .call { callee := .builtin .append, args := #[s, x], argTypes := #[tS, tS] }) (hs : a.eval s = v)
    (g : Nat) (hg : g = w.heap.size) (hx : a.eval x = .slice (some ⟨g, 0, none⟩) 1 1)
    (hK : ∀ v' w', GrowO w' lo P n v' (L ++ [d]) → w.grownBy w' v.ownBlock → K (a.put o.dst v') w') :
    if Region.wanted o (yielded ops a.tmps) = true then Oper.wp Tryz.prog o a (w.alloc (.cells new.toArray (tyI n))) K Q else E := by
  have hw : Region.wanted o (yielded ops a.tmps) = true := by simp [Region.wanted, hgd]
  rw [if_pos hw]
  subst hg
  obtain ⟨v', w', hrun, h1, h2⟩ := GrowO.run hG hbs hPw new d hn hr hl hu hz hzl hby o.type
  unfold Oper.wp execOp
  simp only [ho, resolve, invoke, builtin, Sem.run_bind, Sem.run_pure, Result.andThen_ok, List.map_toArray, List.map_cons, List.map_nil, hs, hx, hrun]
  exact hK v' w' h1 h2
end Go.Proofs.YtnmomlaimffonaaGreat.Gd
