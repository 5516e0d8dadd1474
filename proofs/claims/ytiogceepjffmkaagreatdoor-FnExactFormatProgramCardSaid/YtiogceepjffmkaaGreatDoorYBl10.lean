/- The program's appendBackward by its contract. -/
import Derived.Test.YtiogceepjffmkaaGreatDoorYI7c
set_option maxHeartbeats 8000000
set_option maxRecDepth 100000
namespace Go.Proofs.YtiogceepjffmkaaGreatDoor.Gp
open Go.RowKit Go.Shelf Go.Lib Com Mem YtiogceepjffmkaaGreatDoor.Os Tr Kd Gd
attribute [local go_sem] Oper.semAt_some
abbrev ptsP (pre : List (Nat × Pt)) : List Pt := pre.map (·.2)
def BkI (w : World) (v : Value) (lo B Bs : Nat) (stk : List Pt) (pre : List (Nat × Pt)) (W : World) : Prop :=
  (∃ v', Boxed W B SP10 v' ∧ W.ownsRow lo PT10 2 v' (stk ++ ptsP pre).length (pvs (stk ++ ptsP pre)) ∧ (v'.ownBlock = v.ownBlock ∨ ∃ g, w.heap.size ≤ g ∧ v'.ownBlock = some g)) ∧ (w.grownBy W v.ownBlock ∧ ∃ u, Boxed W Bs SP10 u)
theorem bkI_own (w : World) (v : Value) (lo B Bs b0 : Nat) (stk : List Pt) (hb : w.heap.size ≤ b0) : OwnFrom b0 (BkI w v lo B Bs stk) := by
  rintro s X Y row ⟨h1, h2, u, h3⟩ hg hr
  refine ⟨holdsRow_own lo B SP10 PT10 2 (fun pre => (stk ++ ptsP pre).length) (fun pre => pvs (stk ++ ptsP pre)) (fun _ v' => v'.ownBlock = v.ownBlock ∨ ∃ g, w.heap.size ≤ g ∧ v'.ownBlock = some g) s X Y row h1 hg fun r e => (hr r e).2, ?_, u, boxed_own Bs SP10 (fun _ : Unit => u) () X Y row h3 hg fun r e => (hr r e).2⟩
  exact ⟨hg.os.trans h2.os, hg.tape.trans h2.tape, hg.output.trans h2.output, Nat.le_trans h2.size hg.size, fun k hk hne => (hg.block k (Nat.lt_of_lt_of_le hk h2.size) fun e => by have := (hr k e.symm).1; omega).trans (h2.block k hk hne)⟩
def BkA (v : Value) (a : Option Addr) (len cap B Bs : Nat) (x : Nat × Pt) (a' : Act) (W : World) : Prop := ∃ Bx, Bs < Bx ∧ Blk W Bx PT10 [sv x.2.1, slv x.2.2] ∧
  a' = { tmps := #[v, .slice a len cap, .pointer (some ⟨B, 0, none⟩), undef, .slice none 0 0, undef, .pointer (some ⟨Bx, 0, none⟩), .slice a len cap, .func (.func 142) #[] #[.pointer (some ⟨Bs, 0, none⟩)], .int .i64 (x.1 : Int), .agg #[sv x.2.1, slv x.2.2], undef, undef, undef, undef, undef], defers := [] }
theorem own_form10 {w : World} {lo e m n : Nat} {v : Value} {xs : List Value} (h : w.ownsRow lo e n v m xs) : ∃ A c, v = .slice A m c := by
  rcases h.2 with ⟨rfl, rfl⟩ | ⟨g, cap, cur, rfl, _⟩
  · exact ⟨none, 0, rfl⟩
  · exact ⟨_, _, rfl⟩
theorem new_cells10 (W : World) (cs : List Value) (ty : TypeId) : ∀ j u, cs[j]? = some u → (W.alloc (.cells cs.toArray ty)).cell? ((⟨W.heap.size, 0, none⟩ : Addr).add j) = some u := by
  intro j u hj
  rw [add_zero, (Blk.new W ty cs).cell]; exact hj
theorem bkA_own (v : Value) (a : Option Addr) (len cap B Bs b0 : Nat) (x : Nat × Pt) (a' : Act) : OwnFrom b0 (fun (_ : Unit) W => BkA v a len cap B Bs x a' W) := by
  rintro s X Y row ⟨Bx, h1, hB, e⟩ hg hr
  refine ⟨Bx, h1, (hg.block Bx hB.lt fun e' => ?_).trans hB, e⟩
  obtain ⟨_, o, ho, hc⟩ := hr Bx e'.symm
  rw [show X.heap[Bx]? = _ from hB] at ho
  cases ho
  cases hc
theorem bk_next {w W w1 : World} {v v' v9 : Value} {lo Bs gp : Nat} {stk : List Pt} {pre : List (Nat × Pt)} {x : Nat × Pt} {u : Value} (hlo : lo ≤ w.heap.size) (hBs : Bs = w.heap.size + 1) (hg : gp < w.heap.size) (hgv : v.ownBlock ≠ some gp) (hv : Boxed W w.heap.size SP10 v') (hrow : W.ownsRow lo PT10 2 v' (stk ++ ptsP pre).length (pvs (stk ++ ptsP pre)))
    (hown : v'.ownBlock = v.ownBlock ∨ ∃ g, w.heap.size ≤ g ∧ v'.ownBlock = some g) (hgb : w.grownBy W v.ownBlock) (hu : Boxed W Bs SP10 u) {tmp : Obj} (h9 : w1.ownsRow lo PT10 2 v9 ((stk ++ ptsP pre).length + 1) (pvs (stk ++ ptsP pre) ++ [sv x.2.1, slv x.2.2])) (hgrow : (W.alloc tmp).grownBy w1 v'.ownBlock)
    (hat : v9.ownBlock = v'.ownBlock ∨ v9.ownBlock = some (W.alloc tmp).heap.size) :
    Boxed w1 w.heap.size SP10 v' ∧ KeepsOthers W (w1.setCell ⟨w.heap.size, 0, none⟩ v9) ∧ Kp10 gp Bs W (w1.setCell ⟨w.heap.size, 0, none⟩ v9) ∧ BkI w v lo w.heap.size Bs stk (pre ++ [x]) (w1.setCell ⟨w.heap.size, 0, none⟩ v9) := by
  have hsz := hgb.size
  obtain ⟨h1, h2, h3, h4, -⟩ := hv.appended (by decide) hrow (Nat.le_trans hlo hsz) hlo h9 hgrow
  have hne : ∀ k, k ≠ w.heap.size → (w1.setCell ⟨w.heap.size, 0, none⟩ v9).heap[k]? = w1.heap[k]? := fun k hk => heap_setCell_other _ _ _ _ hk
  have hgg := gb_trans (World.grownBy_alloc W tmp v'.ownBlock) hgrow
  have hub := hu.not_row (show SP10 ≠ PT10 by decide) hrow
  have hgpb : some gp ≠ v'.ownBlock := fun e => by
    rcases hown with h | ⟨g, h5, h6⟩
    · rw [h] at e; exact hgv e.symm
    · rw [h6] at e; cases e; omega
  have hub1 : Boxed (w1.setCell ⟨w.heap.size, 0, none⟩ v9) Bs SP10 u := (hne Bs (by omega)).trans (hu.kept hgg hub)
  refine ⟨h1, h4, fun k hk => ?_, ⟨v9, h2, ?_, ?_⟩, ⟨?_, ?_, ?_, ?_, fun k hk hkn => ?_⟩, u, hub1⟩
  · rcases hk with rfl | rfl
    · exact (hne _ (by omega)).trans (hgg.block _ (by omega) hgpb)
    · exact (hne _ (by omega)).trans (hgg.block _ hu.lt hub)
  · have e1 : stk ++ ptsP (pre ++ [x]) = (stk ++ ptsP pre) ++ [x.2] := by unfold ptsP; rw [List.map_append, ← List.append_assoc]; rfl
    rw [e1, pvs_app, List.length_append, List.length_singleton]
    exact h3
  · rcases hat with h | h
    · rw [h]; exact hown
    · exact Or.inr ⟨_, by rw [size_alloc']; omega, h⟩
  · exact hgg.os.trans hgb.os
  · exact hgg.tape.trans hgb.tape
  · exact hgg.output.trans hgb.output
  · rw [show (w1.setCell ⟨w.heap.size, 0, none⟩ v9).heap.size = w1.heap.size by simp [World.setCell]]
    exact Nat.le_trans hsz hgg.size
  · refine ((hne k (by omega)).trans (hgg.block k (by omega) fun e => ?_)).trans (hgb.block k hk hkn)
    rcases hown with h | ⟨g, h5, h6⟩
    · rw [h] at e; exact hkn e
    · rw [h6] at e; cases e; omega
set_option maxRecDepth 100000 in
theorem iback (v : Value) (lo : Nat) (stk : List Pt) (gp cap : Nat) (ps : List Pt) (hps : ps.length ≤ 1000) (hst : stk.length ≤ 1000000000000) (w : World) (hlo : lo ≤ w.heap.size) (ho : w.ownsRow lo PT10 2 v stk.length (pvs stk)) (hg : gp < w.heap.size) (hgv : v.ownBlock ≠ some gp) (hc : PtsAt w gp ps) :
    Calls Tryz.prog 66 #[v, .slice (some ⟨gp, 0, none⟩) ps.length cap] w fun e w' => ∃ v', e = .returned v' ∧ w'.ownsRow lo PT10 2 v' (stk ++ ps.reverse).length (pvs (stk ++ ps.reverse)) ∧ (v'.ownBlock = v.ownBlock ∨ ∃ g, w.heap.size ≤ g ∧ v'.ownBlock = some g) ∧ w.grownBy w' v.ownBlock := by
  obtain ⟨A, c, hvf⟩ := own_form10 ho
  have hev : #[v, .slice (some ⟨gp, 0, none⟩) ps.length cap] = #[Value.slice A stk.length c, .slice (some ⟨gp, 0, none⟩) ps.length cap] := by rw [hvf]
  rw [hev]
  refine (callsIn_wide (n := 6)).1 ?_
  obtain ⟨i0, hi, hz0, hz1, hz2⟩ := info_parts infoP10
  refine callsIn_of_wp_marks Tryz.func66 rfl trivial ?_ rfl
  simp only [Tryz.ntmps66, List.size_toArray, List.length_cons, List.length_nil, Nat.reduceAdd, Nat.reduceSub, Array.replicate_succ, Array.replicate_zero, List.push_toArray, List.append_toArray, List.nil_append, List.cons_append]
  gi_wp2
  refine ⟨trivial, (back_in _ _ trivial rfl _ _ _ _).mono ?_⟩
  rintro e w' ⟨rfl, rfl⟩
  gi_wp2
  have bO := Boxed.new w SP10 (.slice A stk.length c)
  have bN := Boxed.new (w.alloc (.cells #[.slice A stk.length c] SP10)) SP10 (.slice (some ⟨gp, 0, none⟩) ps.length cap)
  rw [World.size_alloc] at bN
  have gW := gb_trans (World.grownBy_alloc w (.cells #[.slice A stk.length c] SP10) v.ownBlock) (World.grownBy_alloc _ (.cells #[.slice (some ⟨gp, 0, none⟩) ps.length cap] SP10) v.ownBlock)
  have hN : ((w.alloc (.cells #[.slice A stk.length c] SP10)).alloc (.cells #[.slice (some ⟨gp, 0, none⟩) ps.length cap] SP10)).heap.size = w.heap.size + 2 := by rw [World.size_alloc, World.size_alloc]
  have hcW := hc.keep (gW.block gp hg fun e => hgv e.symm)
  have hoW : ((w.alloc (.cells #[.slice A stk.length c] SP10)).alloc (.cells #[.slice (some ⟨gp, 0, none⟩) ps.length cap] SP10)).ownsRow lo PT10 2 v stk.length (pvs stk) := (ho.alloc _).alloc _
  have hI0 : BkI w v lo w.heap.size (w.heap.size + 1) stk [] ((w.alloc (.cells #[.slice A stk.length c] SP10)).alloc (.cells #[.slice (some ⟨gp, 0, none⟩) ps.length cap] SP10)) :=
    ⟨⟨v, by rw [hvf]; exact bO.alloc _, by simpa [ptsP] using hoW, Or.inl rfl⟩, gW, _, bN⟩
  obtain ⟨W0, hW0⟩ : ∃ W0, (w.alloc (.cells #[.slice A stk.length c] SP10)).alloc (.cells #[.slice (some ⟨gp, 0, none⟩) ps.length cap] SP10) = W0 := ⟨_, rfl⟩
  rw [hW0] at bN hN hcW hI0 ⊢
  clear hoW gW bO hc
  refine wpIn_rangeFunc_ownH rfl (by omega) (gf := 142) (lb := #[.pointer (some ⟨w.heap.size + 1, 0, none⟩)]) rfl trivial (enters_of Tryz.func142 (by kernel_rfl) rfl)
    (back_stops Fence.wide 5 trivial rfl (by omega) (w.heap.size + 1) gp cap ps hps W0 bN (by omega) hcW) (fun h k x hx => (k x hx).trans (h x hx)) (fun W l o o' hl _ _ _ k hk => World.putObj_heap_other (fun e => by omega)) (Below.refl _ _) (fun _ => rfl)
    (BkI w v lo w.heap.size (w.heap.size + 1) stk) (fun _ _ _ => False) (bkI_own w v lo _ _ _ stk (by omega)) (fun _ _ _ _ _ hs _ _ => hs) hI0
    (BkA (.slice A stk.length c) (some ⟨gp, 0, none⟩) ps.length cap w.heap.size (w.heap.size + 1)) (fun x a' => bkA_own _ _ _ _ _ _ _ x a') ?assign ?body ?done ?stop
  case assign =>
    rintro l pre x W K hi hK
    have hsz := hi.2.1.size
    obtain ⟨u, hu⟩ := hi.2.2
    have hlt := hu.lt
    gi_wp2
    refine hK _ _ ((KeepsOthers.alloc _ _).from _) (fun k hk => (World.grownBy_alloc W _ none).block k (by omega) (by simp)) ((bkI_own w v lo _ _ W0.heap.size stk (by omega)).alloc _ hi) ⟨W.heap.size, by omega, Blk.new W PT10 [sv x.2.1, slv x.2.2], rfl⟩
  case body =>
    rintro l pre x a' W hl ⟨r, hr⟩ ⟨⟨v', hv, hrow, hown⟩, hgb, u, hu⟩ ⟨Bx, hBx, hBlk, rfl⟩ hlt
    have hc0 := hv.cell
    have k0 := hBlk.cell 0
    have k1 := hBlk.cell 1
    have hln : (stk ++ ptsP pre).length ≤ 1000000001000 := by unfold ptsP; rw [List.length_append, List.length_map]; omega
    have hsz := hgb.size
    gi_wp2_with (gi_at_builtin; refine wpListIn_append_own_at _ rfl _ _ SP10 rfl lo PT10 i0 (.agg #[.string .empty, .slice none 0 0]) 2 40 Tryz.underlying104 hi hz0 hz1 hz2 rfl (by decide) _ _ _ rfl (hrow.alloc _) ⟨W.heap.size, 0, none⟩ 1 1 [sv x.2.1, slv x.2.2] rfl rfl (new_cells10 W [sv x.2.1, slv x.2.2] _) (by simp [Value.oneCell']) (by unfold maxLen; omega) (by omega) (by rw [World.size_alloc]; omega) ?_; intro v9 w1 hown' hgrow _ hat; obtain ⟨A9, c9, rfl⟩ := own_form10 hown'; obtain ⟨hv1, hk2, hp2, hi2⟩ := bk_next hlo rfl hg hgv hv hrow hown hgb hu hown' hgrow hat; have hc1 := hv1.cell; have hf1 := hv1.frozen)
    have el : (stk ++ ptsP pre).length + 1 = stk.length + pre.length + 1 := by unfold ptsP; rw [List.length_append, List.length_map]
    rw [el] at hk2 hp2 hi2
    exact ⟨hk2.from _, hp2, hi2⟩
  case done =>
    rintro D ys W hD rfl ⟨⟨v', hv, hrow, hown⟩, hgb, u, hu⟩ hK
    have hc0 := hv.cell
    gi_wp2
    refine ⟨by simp, .inl ⟨_, _, rfl, run_takeDeferred hK, ?_⟩⟩
    rw [show ptsP (upto (bkAt ps) ps.length) = ps.reverse from bk_all ps] at hrow
    exact ⟨_, results_tmp rfl _ _ _, v', rfl, ownsRow_putObj hrow _ hK rfl, hown, ⟨hgb.os, hgb.tape, hgb.output, Nat.le_trans hgb.size (grownBy_putObj' W D (.deferred none)).size, fun k hk hne => (World.putObj_heap_other (fun e => by omega)).trans (hgb.block k hk hne)⟩⟩
  case stop =>
    rintro D c pre W _ _ h _
    exact h.elim
end Go.Proofs.YtiogceepjffmkaaGreatDoor.Gp
set_option maxRecDepth 100000
namespace Go.Proofs.YtiogceepjffmkaaGreatDoor.Tk
open Go.RowKit Go.Lib Go.Sort Num Com Mem YtiogceepjffmkaaGreatDoor.Os Tr Ik
theorem lft_nat (m : Nat) : lft (m : Int) = ((if m = 3 then 4 else m : Nat) : Int) := by
  unfold lft
  by_cases h : m = 3
  · subst h; rfl
  · rw [if_neg (by omega), if_neg h]
theorem rgt_nat (m : Nat) : rgt (m : Int) = ((m + 1 : Nat) : Int) := by
  unfold rgt
  by_cases h : m = 3
  · subst h; rfl
  · rw [if_neg (by omega)]; omega
theorem fopn (n : Int) (s : List UInt8) (a b : T) (iha : ∀ l, FoS a l) (ihb : ∀ l, FoS b l) (ha : allT a = true) (hb : allT b = true) (hlen : (txtT7 (.mk 3 n s [a, b])).length ≤ 1000000) (A : Option Addr) (c : Nat) (vs : Nat → Value) (w : World) (hp : L1b.Pow w) (hk : Tr.Kids w w.heap.size A [a, b] vs) :
    Calls Tryz.prog 202 #[nv 3 n s A 2 c] w fun e w' => e = .returned (sv (txtT7 (.mk 3 n s [a, b]))) ∧ Below w.heap.size w w' := by
  have hb1 := box_below w (.cells #[.int .i64 3, .int .i64 n, sv s, .slice A 2 c] 58)
  have hblk := hid (box_blk w 3 n s A 2 c 58)
  have hk1 := hid (hk.go hb1)
  have hp := hid (fun w' (h : Below w.heap.size w w') => hp.below h)
  replace hb1 := hid hb1
  rw [txt7_3] at hlen ⊢
  have hlv := hid (fun w => ilevel_any 3 n s A 2 c w)
  have hl7 := lvl_le 3 n
  generalize lvl 3 n = lv at *
  have hpa := paren_len (txtT7 a) (decide (lvlT a < if lv = 3 then 4 else lv))
  have hpb := paren_len (txtT7 b) (decide (lvlT b < lv + 1))
  have hS2 := symL_len n
  simp only [List.length_append, List.length_cons, List.length_nil] at hlen
  have hlo := fun w => lvs_operands (lv : Int) (by omega) (by omega) w
  rw [lft_nat, rgt_nat] at hlo
  have hA := hid (fun v w hp hv => iha (if lv = 3 then 4 else lv) v w hp ha (by omega) hv)
  have hB := hid (fun v w hp hv => ihb (lv + 1) v w hp hb (by omega) hv)
  have hsy := hid (fun w => C3.symbol_any n w)
  generalize paren (txtT7 a) (decide (lvlT a < if lv = 3 then 4 else lv)) = xa at *
  generalize paren (txtT7 b) (decide (lvlT b < lv + 1)) = xb at *
  generalize C3.symL n = xs at *
  generalize (if lv = 3 then 4 else lv) = la at *
  generalize lv + 1 = lb at *
  have hlo := hid hlo
  have hxa : xa.length ≤ 1000000 := by omega
  have hxb : xb.length ≤ 1000000 := by omega
  clear hk hpa hpb hlen iha ihb
  go_enter Tryz.func202, Tryz.ntmps202
  obtain ⟨b0, b1, b2, b3⟩ := four hblk.out
  go_wp2_with fail
  generalize (w.alloc (.cells #[.int .i64 3, .int .i64 n, sv s, .slice A 2 c] 58)) = w1 at *
  refine (hlv.out w1).mono ?_
  rintro e w2 ⟨rfl, hb2⟩
  have hblk2 := hblk.out.below hb2 hblk.out.lt
  have hk2 := hk1.out.go hb2
  have hb2 := hid (hb1.out.trans (hb2.mono hb1.out.size))
  clear b0 b1 b2 b3
  go_wp2_with fail
  refine (hlo.out w2).mono ?_
  rintro e w2' ⟨rfl, rfl⟩
  obtain ⟨b0, b1, b2, b3⟩ := four hblk2
  obtain ⟨ad, hA0, _, c0, c1, c2, c3, e0, k0, k1, k2, k3⟩ := hk2.cell 0 (by simp)
  subst hA0
  obtain ⟨ad', hA', _, d0, d1, d2, d3, e1, l0, l1, l2, l3⟩ := hk2.cell 1 (by simp)
  obtain rfl : ad = ad' := Option.some.inj hA'
  have x0 := hk2.kid 0 a rfl
  rw [e0] at x0
  have x1 := hk2.kid 1 b rfl
  rw [e1] at x1
  have p0 : w2.cell? ad = some c0 := k0
  have p1 : w2.cell? ⟨ad.block, ad.off + 1, none⟩ = some c1 := k1
  have p2 : w2.cell? ⟨ad.block, ad.off + 2, none⟩ = some c2 := k2
  have p3 : w2.cell? ⟨ad.block, ad.off + 3, none⟩ = some c3 := k3
  have q0 : w2.cell? ⟨ad.block, ad.off + 4, none⟩ = some d0 := l0
  have q1 : w2.cell? ⟨ad.block, ad.off + 4 + 1, none⟩ = some d1 := l1
  have q2 : w2.cell? ⟨ad.block, ad.off + 4 + 2, none⟩ = some d2 := l2
  have q3 : w2.cell? ⟨ad.block, ad.off + 4 + 3, none⟩ = some d3 := l3
  replace p0 := cell_regrown p0
  replace p1 := cell_regrown p1
  replace p2 := cell_regrown p2
  replace p3 := cell_regrown p3
  replace q0 := cell_regrown q0
  replace q1 := cell_regrown q1
  replace q2 := cell_regrown q2
  replace q3 := cell_regrown q3
  replace b1 := cell_regrown b1
  replace b3 := cell_regrown b3
  have cA := hid (fun (d : Nat) (os : Array Obj) => Calls.regrown_of (d := d) (os := os) (hA.out _ (grow (redrawn w2 d) os) (hp.out _ (hb2.out.trans ((below_regrown w2 d os).mono hb2.out.size))) (x0.go (below_regrown w2 d os))))
  have cB := hid (fun (d : Nat) (os : Array Obj) => Calls.regrown_of (d := d) (os := os) (hB.out _ (grow (redrawn w2 d) os) (hp.out _ (hb2.out.trans ((below_regrown w2 d os).mono hb2.out.size))) (x1.go (below_regrown w2 d os))))
  have cS := hid (fun (d : Nat) (os : Array Obj) => Calls.regrown_of (d := d) (os := os) (hsy.out (grow (redrawn w2 d) os)))
  clear hA hB hsy x0 x1 e0 e1 k0 k1 k2 k3 l0 l1 l2 l3 hk2 hblk2 hA' b0 b2 hlv hlo hp
  go_wp2_with fail
  refine wp_region_quiet_below (by kernel_rfl) (by kernel_rfl) ?_
  repeat (go_big_quiet_step (first | with_reducible exact cA.out _ _ | with_reducible exact cB.out _ _ | with_reducible exact cS.out _ _))
  refine wpQuiet_nil ?_
  intro _ hw'
  obtain ⟨⟨dq, osq⟩, hw''⟩ := hw'
  subst hw''
  have hq := hid (below_regrown w2 dq osq)
  clear b1 b3 p0 p1 p2 p3 q0 q1 q2 q3 cA cB cS
  generalize grow (redrawn w2 dq) osq = wq at *
  go_wp2_with fail
  go_ret
  refine ⟨?_, hb2.out.trans (hq.out.mono hb2.out.size)⟩
  show Ending.returned (.string (⟨xa.toArray⟩ ++ ⟨[32].toArray⟩ ++ ⟨xs.toArray⟩ ++ ⟨[32].toArray⟩ ++ ⟨xb.toArray⟩)) = _
  rw [bapp, bapp, bapp, bapp]
theorem fld1 (F G : FuncId) (w : World) : (Instr.field FMT (fn2 F G) 1).run Tryz.prog w = .ok (.func (Fn.func G) #[] #[]) w := by kernel_rfl
abbrev FindsV (k : Int) (v : Value) : Prop := ∀ (b : Nat) (wx : World), KMap wx b fmtsL → (Instr.lookup MFT (.map (some b)) (.int .i64 k) false).run Tryz.prog wx = .ok v wx
theorem valid_by (k n : Int) (s : List UInt8) (A : Option Addr) (l c : Nat) (w : World) (F G : FuncId) (x : List UInt8) (hcf : ∀ args w, (callFunc G args).run Tryz.prog w = .ok (.enter G args) w) (hl : FindsV k (fn2 F G))
    (hF : ∀ w', Below w.heap.size w w' → Calls Tryz.prog G #[nv k n s A l c] w' fun e w2 => e = .returned (sv x) ∧ Below w'.heap.size w' w2) : Calls Tryz.prog 144 #[nv k n s A l c] w fun e w' => e = .returned (sv x) ∧ Below w.heap.size w w' := by
  have hb1 := hid (box_below w (.cells #[.int .i64 k, .int .i64 n, sv s, .slice A l c] 58))
  have hblk := hid (box_blk w k n s A l c 58)
  have hfm := hid (fun w => formatters_any w)
  have hF := hid hF
  have hl := hid hl
  have hfd := fun w => fld1 F G w
  go_enter Tryz.func144, Tryz.ntmps144
  go_wp2_with fail
  generalize (w.alloc (.cells #[.int .i64 k, .int .i64 n, sv s, .slice A l c] 58)) = w1 at *
  obtain ⟨k0, k1, k2, k3⟩ := four hblk.out
  go_region_held3 (fun w' => w'.cell? ⟨w.heap.size, 0, none⟩ = some (.int .i64 k) ∧ w'.cell? ⟨w.heap.size, 1, none⟩ = some (.int .i64 n) ∧ w'.cell? ⟨w.heap.size, 2, none⟩ = some (sv s) ∧ w'.cell? ⟨w.heap.size, 3, none⟩ = some (.slice A l c)) (first | (exact q1) | (exact q2) | go_keep)
    (first
     | (go_at_call 180; refine (hfm.out _).mono ?_; rintro e w2 ⟨rfl, hk, hb⟩; have hlk := hl.out w1.heap.size w2 hk; have B2 := hid (hb1.out.trans (((Below.refl w1.heap.size w1).drew.trans hb).mono hb1.out.size)); have bx := hid (hblk.out.below ((Below.refl w1.heap.size w1).drew.trans hb) hblk.out.lt); have q1 := four bx.out; clear hb)
     | (refine (hF.out _ B2.out).mono ?_; rintro e w3 ⟨rfl, hb⟩; have B3 := hid (B2.out.trans (hb.mono B2.out.size)); have q2 := four (bx.out.below hb bx.out.lt); clear hb))
  clear q1 q2 hk k0 k1 k2 k3
  go_wp2_with fail
  go_ret
  exact ⟨rfl, B3.out⟩
theorem fvalid_any (t : T) : FvS t := by
  induction t using T.ind with
  | h k n s ks ih =>
    intro v w hp hall hlen hv
    obtain ⟨A, c, vs, rfl, hs, hl, hk⟩ := hv.kids
    have hnode : nodeB k n s ks.length = true := by rw [allT_mk, Bool.and_eq_true] at hall; exact hall.2
    rcases node_cases hnode with rfl | rfl | ⟨rfl, a, b, rfl⟩ | ⟨rfl, a, rfl⟩
    · rw [txt7_1]
      unfold nodeB at hnode
      rw [if_pos rfl, Bool.and_eq_true] at hnode
      exact valid_by 1 n s A ks.length c w _ _ _ (fun _ _ => by kernel_rfl) (fun b wx h => (look1 h).2) fun w' h => fconst n s A ks.length c w' (hp.below h) (C3.isW_iff.1 hnode.1)
    · rw [txt7_2]
      exact valid_by 2 n s A ks.length c w _ _ _ (fun _ _ => by kernel_rfl) (fun b wx h => (look2 h).2) fun w' h => fvar n s A ks.length c w'
    · exact valid_by 3 n s A 2 c w _ _ _ (fun _ _ => by kernel_rfl) (fun b wx h => (look3 h).2) fun w' h => fopn n s a b (fun l => operand_any a (ih a (by simp)) l) (fun l => operand_any b (ih b (by simp)) l) (allT_2 hall).1 (allT_2 hall).2 hlen A c vs w' (hp.below h) (hk.go h)
    · exact valid_by 4 n s A 1 c w _ _ _ (fun _ _ => by kernel_rfl) (fun b wx h => (look4 h).2) fun w' h => fnot n s a (operand_any a (ih a (by simp)) 6) (allT_1 hall) hlen A c vs w' (hp.below h) (hk.go h)
theorem iformat_any (t : T) (v : Value) (w : World) (hp : L1b.Pow w) (hv : Ex w w.heap.size v t) : Calls Tryz.prog 108 #[v] w fun e w' => e = .returned (sv (fmtX t)) ∧ Below w.heap.size w w' := by
  obtain ⟨k, n, s, ks⟩ := t
  obtain ⟨A, c, vs, rfl, hs, hl, hk⟩ := hv.kids
  have hb1 := box_below w (.cells #[.int .i64 k, .int .i64 n, sv s, .slice A ks.length c] 58)
  have hblk := hid (box_blk w k n s A ks.length c 58)
  have hv1 := hid (hv.go hb1)
  replace hb1 := hid hb1
  have hp := hid (fun w' (h : Below w.heap.size w w') => hp.below h)
  generalize hT : T.mk k n s ks = t at *
  have hck := hid (ivalidE t _ _ hv1.out)
  clear hk hv
  go_enter Tryz.func108, Tryz.ntmps108
  obtain ⟨b0, b1, b2, b3⟩ := four hblk.out
  go_wp2_with fail
  generalize (w.alloc (.cells #[.int .i64 k, .int .i64 n, sv s, .slice A ks.length c] 58)) = w1 at *
  refine hck.out.mono ?_
  rintro e w2 ⟨rfl, hb2⟩
  have hblk2 := hblk.out.below hb2 hblk.out.lt
  clear b0 b1 b2 b3
  obtain ⟨b0, b1, b2, b3⟩ := four hblk2
  have hv2 := hv1.out.go hb2
  replace hb2 := hid (hb1.out.trans (hb2.mono hb1.out.size))
  clear hck hblk2
  cases hok : okT t with
  | true =>
    have h1 := ok_parts hok
    have hlen := txt7_len t h1.2
    have hf := hid (show fmtX t = txtT7 t by unfold fmtX; rw [if_pos hok])
    have hcl := hid (fvalid_any t _ _ (hp.out _ hb2.out) h1.2 (by omega) hv2)
    clear hv2 h1 hlen hok hp
    go_wp2_with fail
    refine hcl.out.mono ?_
    rintro e w3 ⟨rfl, hb3⟩
    replace hb3 := hid (hb2.out.trans (hb3.mono hb2.out.size))
    go_wp2_with fail
    go_ret
    exact ⟨by rw [hf.out]; rfl, hb3.out⟩
  | false =>
    have hf := hid (show fmtX t = [] by unfold fmtX; rw [if_neg (by rw [hok]; simp)])
    clear hv2 hok hp
    go_wp2_with fail
    go_ret
    exact ⟨by rw [hf.out]; rfl, hb2.out⟩
end Go.Proofs.YtiogceepjffmkaaGreatDoor.Tk
