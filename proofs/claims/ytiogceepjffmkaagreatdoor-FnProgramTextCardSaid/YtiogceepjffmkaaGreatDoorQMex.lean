/- The program's measure of a tree. -/
import Derived.Test.YtiogceepjffmkaaGreatDoorQNis
set_option maxHeartbeats 8000000
set_option maxRecDepth 100000
namespace Go.Proofs.YtiogceepjffmkaaGreatDoor.Gx
open Go.RowKit Go.Lib Go.Sort Com Mem Tr Im Ag Pl Kd
end Go.Proofs.YtiogceepjffmkaaGreatDoor.Gx
set_option maxRecDepth 100000
namespace Go.Proofs.YtiogceepjffmkaaGreatDoor.Tr
open Go.RowKit Go.Lib Go.Sort Com Mem YtiogceepjffmkaaGreatDoor.Os Pl Kd Gx
theorem two_box (w : World) (k n : Int) (s : List UInt8) (A : Option Addr) (l c : Nat) (t : T) (h : Ex (pln w) w.heap.size (nv k n s A l c) t) :
  Below w.heap.size w ((w.alloc (.cells #[.int .i64 k, .int .i64 n, sv s, .slice A l c] 58)).alloc (.cells #[.int .i64 k, .int .i64 n, sv s, .slice A l c] 58)) ∧
  LA (pln ((w.alloc (.cells #[.int .i64 k, .int .i64 n, sv s, .slice A l c] 58)).alloc (.cells #[.int .i64 k, .int .i64 n, sv s, .slice A l c] 58))) ((w.alloc (.cells #[.int .i64 k, .int .i64 n, sv s, .slice A l c] 58)).alloc (.cells #[.int .i64 k, .int .i64 n, sv s, .slice A l c] 58)).heap.size ⟨some ⟨w.heap.size + 1, 0, none⟩, 1, [t]⟩ := by
 have b1 := box_below w (.cells #[.int .i64 k, .int .i64 n, sv s, .slice A l c] 58)
 have b2 := b1.trans ((box_below _ (.cells #[.int .i64 k, .int .i64 n, sv s, .slice A l c] 58)).mono b1.size)
 have hB := Blk.new (w.alloc (.cells #[.int .i64 k, .int .i64 n, sv s, .slice A l c] 58)) 58 [.int .i64 k, .int .i64 n, sv s, .slice A l c]
 rw [size_alloc'] at hB
 exact ⟨b2, la_one hB (ex_go h b2)⟩
theorem cntL_one (t : T) : kdX.cntL [t] = cntT t := by simp [Kd.cntL]; rfl
end Go.Proofs.YtiogceepjffmkaaGreatDoor.Tr
set_option maxRecDepth 100000
namespace Go.Proofs.YtiogceepjffmkaaGreatDoor.Gp
open Go.RowKit Go.Shelf Go.Lib Com Mem YtiogceepjffmkaaGreatDoor.Os Tr Kd Gd
attribute [local go_sem] Oper.semAt_some
abbrev ptsP (pre : List (Nat × Pt)) : List Pt := pre.map (·.2)
def BkI (w : World) (v : Value) (lo B Bs : Nat) (stk : List Pt) (pre : List (Nat × Pt)) (W : World) : Prop :=
 (∃ v', Boxed W B SP10 v' ∧ W.ownsRow lo PT10 2 v' (stk ++ ptsP pre).length (pvs (stk ++ ptsP pre)) ∧ (v'.ownBlock = v.ownBlock ∨ ∃ g, w.heap.size ≤ g ∧ v'.ownBlock = some g)) ∧ (w.grownBy W v.ownBlock ∧ ∃ u, Boxed W Bs SP10 u)
theorem bkI_own (w : World) (v : Value) (lo B Bs b0 : Nat) (stk : List Pt) (hb : w.heap.size ≤ b0) : OwnFrom b0 (BkI w v lo B Bs stk) := by
 rintro s X Y row ⟨h1, h2, u, h3⟩ hg hr
 refine ⟨holdsRow_own lo B SP10 PT10 2 (fun pre => (stk ++ ptsP pre).length) (fun pre => pvs (stk ++ ptsP pre)) (fun _ v' => v'.ownBlock = v.ownBlock ∨ ∃ g, w.heap.size ≤ g ∧ v'.ownBlock = some g) s X Y row h1 hg fun r e => (hr r e).2, ?_, u, boxed_own Bs SP10 (fun _ : Unit => u) () X Y row h3 hg fun r e => (hr r e).2⟩
 exact ⟨hg.os.trans h2.os, hg.tape.trans h2.tape, hg.output.trans h2.output, Nat.le_trans h2.size hg.size, fun k hk hne => (hg.block k (Nat.lt_of_lt_of_le hk h2.size) fun e => by have := (hr k e.symm).1; omega).trans (h2.block k hk hne)⟩
def BkA (v : Value) (a : Option Addr) (len cap B Bs : Nat) (x : Nat × Pt) (a' : Act) (W : World) : Prop := ∃ Bx, Bs < Bx ∧ Blk W Bx PT10 [sv x.2.1, slv x.2.2] ∧
 a' = { tmps := #[v, .slice a len cap, .pointer (some ⟨B, 0, none⟩), undef, .slice none 0 0, undef, .pointer (some ⟨Bx, 0, none⟩), .slice a len cap, .func (.func 142) #[] #[.pointer (some ⟨Bs, 0, none⟩)], .int .i64 (x.1 : Int), .agg #[sv x.2.1, slv x.2.2], undef, undef, undef, undef, undef], defers := [] }
theorem own_form10 {w : World} {lo e m n : Nat} {v : Value} {xs : List Value} (h : w.ownsRow lo e n v m xs) : ∃ A c, v = .slice A m c := by
 rcases h.2 with ⟨rfl, rfl⟩ | ⟨g, cap, cur, rfl, _⟩
 ·exact ⟨none, 0, rfl⟩
 ·exact ⟨_, _, rfl⟩
theorem new_cells10 (W : World) (cs : List Value) (ty : TypeId) : ∀ j u, cs[j]? = some u → (W.alloc (.cells cs.toArray ty)).cell? ((⟨W.heap.size, 0, none⟩ : Addr).add j) = some u := by
 intro j u hj
 rw [add_zero, (Blk.new W ty cs).cell]; exact hj
theorem bkA_own (v : Value) (a : Option Addr) (len cap B Bs b0 : Nat) (x : Nat × Pt) (a' : Act) : OwnFrom b0 (fun (_ : Unit) W => BkA v a len cap B Bs x a' W) := by
 rintro s X Y row ⟨Bx, h1, hB, e⟩ hg hr
 refine ⟨Bx, h1, (hg.block Bx hB.lt fun e' => ?_).trans hB, e⟩
 obtain ⟨_, o, ho, hc⟩ := hr Bx e'.symm
 rw [show X.heap[Bx]? = _ from hB] at ho
 cases ho
 cases hc
theorem bk_next {w W w1 : World} {v v' v9 : Value} {lo Bs gp : Nat} {stk : List Pt} {pre : List (Nat × Pt)} {x : Nat × Pt} {u : Value} (hlo : lo ≤ w.heap.size) (hBs : Bs = w.heap.size + 1) (hg : gp < w.heap.size) (hgv : v.ownBlock ≠ some gp) (hv : Boxed W w.heap.size SP10 v') (hrow : W.ownsRow lo PT10 2 v' (stk ++ ptsP pre).length (pvs (stk ++ ptsP pre)))
  (hown : v'.ownBlock = v.ownBlock ∨ ∃ g, w.heap.size ≤ g ∧ v'.ownBlock = some g) (hgb : w.grownBy W v.ownBlock) (hu : Boxed W Bs SP10 u) {tmp : Obj} (h9 : w1.ownsRow lo PT10 2 v9 ((stk ++ ptsP pre).length + 1) (pvs (stk ++ ptsP pre) ++ [sv x.2.1, slv x.2.2])) (hgrow : (W.alloc tmp).grownBy w1 v'.ownBlock)
  (hat : v9.ownBlock = v'.ownBlock ∨ v9.ownBlock = some (W.alloc tmp).heap.size) :
  Boxed w1 w.heap.size SP10 v' ∧ KeepsOthers W (w1.setCell ⟨w.heap.size, 0, none⟩ v9) ∧ Kp10 gp Bs W (w1.setCell ⟨w.heap.size, 0, none⟩ v9) ∧ BkI w v lo w.heap.size Bs stk (pre ++ [x]) (w1.setCell ⟨w.heap.size, 0, none⟩ v9) := by
 have hsz := hgb.size
 obtain ⟨h1, h2, h3, h4, -⟩ := hv.appended (by decide) hrow (Nat.le_trans hlo hsz) hlo h9 hgrow
 have hne : ∀ k, k ≠ w.heap.size → (w1.setCell ⟨w.heap.size, 0, none⟩ v9).heap[k]? = w1.heap[k]? := fun k hk => heap_setCell_other _ _ _ _ hk
 have hgg := gb_trans (World.grownBy_alloc W tmp v'.ownBlock) hgrow
 have hub := hu.not_row (show SP10 ≠ PT10 by decide) hrow
 have hgpb : some gp ≠ v'.ownBlock := fun e => by
  rcases hown with h | ⟨g, h5, h6⟩
  ·rw [h] at e; exact hgv e.symm
  ·rw [h6] at e; cases e; omega
 have hub1 : Boxed (w1.setCell ⟨w.heap.size, 0, none⟩ v9) Bs SP10 u := (hne Bs (by omega)).trans (hu.kept hgg hub)
 refine ⟨h1, h4, fun k hk => ?_, ⟨v9, h2, ?_, ?_⟩, ⟨?_, ?_, ?_, ?_, fun k hk hkn => ?_⟩, u, hub1⟩
 ·rcases hk with rfl | rfl
  ·exact (hne _ (by omega)).trans (hgg.block _ (by omega) hgpb)
  ·exact (hne _ (by omega)).trans (hgg.block _ hu.lt hub)
 ·have e1 : stk ++ ptsP (pre ++ [x]) = (stk ++ ptsP pre) ++ [x.2] := by unfold ptsP; rw [List.map_append, ← List.append_assoc]; rfl
  rw [e1, pvs_app, List.length_append, List.length_singleton]
  exact h3
 ·rcases hat with h | h
  ·rw [h]; exact hown
  ·exact Or.inr ⟨_, by rw [size_alloc']; omega, h⟩
 ·exact hgg.os.trans hgb.os
 ·exact hgg.tape.trans hgb.tape
 ·exact hgg.output.trans hgb.output
 ·rw [show (w1.setCell ⟨w.heap.size, 0, none⟩ v9).heap.size = w1.heap.size by simp [World.setCell]]
  exact Nat.le_trans hsz hgg.size
 ·refine ((hne k (by omega)).trans (hgg.block k (by omega) fun e => ?_)).trans (hgb.block k hk hkn)
  rcases hown with h | ⟨g, h5, h6⟩
  ·rw [h] at e; exact hkn e
  ·rw [h6] at e; cases e; omega
set_option maxRecDepth 100000 in
theorem iback (v : Value) (lo : Nat) (stk : List Pt) (gp cap : Nat) (ps : List Pt) (hps : ps.length ≤ 1000) (hst : stk.length ≤ 1000000000000) (w : World) (hlo : lo ≤ w.heap.size) (ho : w.ownsRow lo PT10 2 v stk.length (pvs stk)) (hg : gp < w.heap.size) (hgv : v.ownBlock ≠ some gp) (hc : PtsAt w gp ps) :
  Calls Tryz.prog 66 #[v, .slice (some ⟨gp, 0, none⟩) ps.length cap] w fun e w' => ∃ v', e = .returned v' ∧ w'.ownsRow lo PT10 2 v' (stk ++ ps.reverse).length (pvs (stk ++ ps.reverse)) ∧ (v'.ownBlock = v.ownBlock ∨ ∃ g, w.heap.size ≤ g ∧ v'.ownBlock = some g) ∧ w.grownBy w' v.ownBlock := by
 obtain ⟨A, c, hvf⟩ := own_form10 ho
 have hev : #[v, .slice (some ⟨gp, 0, none⟩) ps.length cap] = #[Value.slice A stk.length c, .slice (some ⟨gp, 0, none⟩) ps.length cap] := by rw [hvf]
 rw [hev]
 refine (callsIn_wide (n := 6)).1 ?_
 obtain ⟨i0, hi, hz0, hz1, hz2⟩ := info_parts infoP10
 refine callsIn_of_wp_marks Tryz.func66 rfl trivial ?_ rfl
 simp only [Tryz.ntmps66, List.size_toArray, List.length_cons, List.length_nil, Nat.reduceAdd, Nat.reduceSub, Array.replicate_succ, Array.replicate_zero, List.push_toArray, List.append_toArray, List.nil_append, List.cons_append]
 gi_wp2
 refine ⟨trivial, (back_in _ _ trivial rfl _ _ _ _).mono ?_⟩
 rintro e w' ⟨rfl, rfl⟩
 gi_wp2
 have bO := Boxed.new w SP10 (.slice A stk.length c)
 have bN := Boxed.new (w.alloc (.cells #[.slice A stk.length c] SP10)) SP10 (.slice (some ⟨gp, 0, none⟩) ps.length cap)
 rw [World.size_alloc] at bN
 have gW := gb_trans (World.grownBy_alloc w (.cells #[.slice A stk.length c] SP10) v.ownBlock) (World.grownBy_alloc _ (.cells #[.slice (some ⟨gp, 0, none⟩) ps.length cap] SP10) v.ownBlock)
 have hN : ((w.alloc (.cells #[.slice A stk.length c] SP10)).alloc (.cells #[.slice (some ⟨gp, 0, none⟩) ps.length cap] SP10)).heap.size = w.heap.size + 2 := by rw [World.size_alloc, World.size_alloc]
 have hcW := hc.keep (gW.block gp hg fun e => hgv e.symm)
 have hoW : ((w.alloc (.cells #[.slice A stk.length c] SP10)).alloc (.cells #[.slice (some ⟨gp, 0, none⟩) ps.length cap] SP10)).ownsRow lo PT10 2 v stk.length (pvs stk) := (ho.alloc _).alloc _
 have hI0 : BkI w v lo w.heap.size (w.heap.size + 1) stk [] ((w.alloc (.cells #[.slice A stk.length c] SP10)).alloc (.cells #[.slice (some ⟨gp, 0, none⟩) ps.length cap] SP10)) :=
  ⟨⟨v, by rw [hvf]; exact bO.alloc _, by simpa [ptsP] using hoW, Or.inl rfl⟩, gW, _, bN⟩
 obtain ⟨W0, hW0⟩ : ∃ W0, (w.alloc (.cells #[.slice A stk.length c] SP10)).alloc (.cells #[.slice (some ⟨gp, 0, none⟩) ps.length cap] SP10) = W0 := ⟨_, rfl⟩
 rw [hW0] at bN hN hcW hI0 ⊢
 clear hoW gW bO hc
 refine wpIn_rangeFunc_ownH rfl (by omega) (gf := 142) (lb := #[.pointer (some ⟨w.heap.size + 1, 0, none⟩)]) rfl trivial (enters_of Tryz.func142 (by kernel_rfl) rfl)
  (back_stops Fence.wide 5 trivial rfl (by omega) (w.heap.size + 1) gp cap ps hps W0 bN (by omega) hcW) (fun h k x hx => (k x hx).trans (h x hx)) (fun W l o o' hl _ _ _ k hk => World.putObj_heap_other (fun e => by omega)) (Below.refl _ _) (fun _ => rfl)
  (BkI w v lo w.heap.size (w.heap.size + 1) stk) (fun _ _ _ => False) (bkI_own w v lo _ _ _ stk (by omega)) (fun _ _ _ _ _ hs _ _ => hs) hI0
  (BkA (.slice A stk.length c) (some ⟨gp, 0, none⟩) ps.length cap w.heap.size (w.heap.size + 1)) (fun x a' => bkA_own _ _ _ _ _ _ _ x a') ?assign ?body ?done ?stop
 case assign =>
  rintro l pre x W K hi hK
  have hsz := hi.2.1.size
  obtain ⟨u, hu⟩ := hi.2.2
  have hlt := hu.lt
  gi_wp2
  refine hK _ _ ((KeepsOthers.alloc _ _).from _) (fun k hk => (World.grownBy_alloc W _ none).block k (by omega) (by simp)) ((bkI_own w v lo _ _ W0.heap.size stk (by omega)).alloc _ hi) ⟨W.heap.size, by omega, Blk.new W PT10 [sv x.2.1, slv x.2.2], rfl⟩
 case body =>
  rintro l pre x a' W hl ⟨r, hr⟩ ⟨⟨v', hv, hrow, hown⟩, hgb, u, hu⟩ ⟨Bx, hBx, hBlk, rfl⟩ hlt
  have hc0 := hv.cell
  have k0 := hBlk.cell 0
  have k1 := hBlk.cell 1
  have hln : (stk ++ ptsP pre).length ≤ 1000000001000 := by unfold ptsP; rw [List.length_append, List.length_map]; omega
  have hsz := hgb.size
  gi_wp2_with (gi_at_builtin; refine wpListIn_append_own_at _ rfl _ _ SP10 rfl lo PT10 i0 (.agg #[.string .empty, .slice none 0 0]) 2 40 Tryz.underlying104 hi hz0 hz1 hz2 rfl (by decide) _ _ _ rfl (hrow.alloc _) ⟨W.heap.size, 0, none⟩ 1 1 [sv x.2.1, slv x.2.2] rfl rfl (new_cells10 W [sv x.2.1, slv x.2.2] _) (by simp [Value.oneCell']) (by unfold maxLen; omega) (by omega) (by rw [World.size_alloc]; omega) ?_; intro v9 w1 hown' hgrow _ hat; obtain ⟨A9, c9, rfl⟩ := own_form10 hown'; obtain ⟨hv1, hk2, hp2, hi2⟩ := bk_next hlo rfl hg hgv hv hrow hown hgb hu hown' hgrow hat; have hc1 := hv1.cell; have hf1 := hv1.frozen)
  have el : (stk ++ ptsP pre).length + 1 = stk.length + pre.length + 1 := by unfold ptsP; rw [List.length_append, List.length_map]
  rw [el] at hk2 hp2 hi2
  exact ⟨hk2.from _, hp2, hi2⟩
 case done =>
  rintro D ys W hD rfl ⟨⟨v', hv, hrow, hown⟩, hgb, u, hu⟩ hK
  have hc0 := hv.cell
  gi_wp2
  refine ⟨by simp, .inl ⟨_, _, rfl, run_takeDeferred hK, ?_⟩⟩
  rw [show ptsP (upto (bkAt ps) ps.length) = ps.reverse from bk_all ps] at hrow
  exact ⟨_, results_tmp rfl _ _ _, v', rfl, ownsRow_putObj hrow _ hK rfl, hown, ⟨hgb.os, hgb.tape, hgb.output, Nat.le_trans hgb.size (grownBy_putObj' W D (.deferred none)).size, fun k hk hne => (World.putObj_heap_other (fun e => by omega)).trans (hgb.block k hk hne)⟩⟩
 case stop =>
  rintro D c pre W _ _ h _
  exact h.elim
end Go.Proofs.YtiogceepjffmkaaGreatDoor.Gp
