/- Chapter 7: the program's formatter of operations; formatValid, FormatExpr. -/
import Derived.Test.YtjglllpemhkkdaaGreatDoorZI7c
import Derived.Test.YtjglllpemhkkdaaGreatDoorZSt1
import Derived.Test.YtjglllpemhkkdaaGreatDoorZIk
import Derived.Test.YtjglllpemhkkdaaGreatDoorZI7a
import Derived.Test.YtjglllpemhkkdaaGreatDoorZC6d
import Derived.Test.YtjglllpemhkkdaaGreatDoorZRp
set_option maxRecDepth 100000
namespace Go.Proofs.YtjglllpemhkkdaaGreatDoor.Tk
open Go.RowKit Go.Lib Go.Sort Num Com Mem YtjglllpemhkkdaaGreatDoor.Os Tr Ik

theorem lft_nat (m : Nat) : lft (m : Int) = ((if m = 3 then 4 else m : Nat) : Int) := by
  unfold lft
  by_cases h : m = 3
  · subst h; rfl
  · rw [if_neg (by omega), if_neg h]
theorem rgt_nat (m : Nat) : rgt (m : Int) = ((m + 1 : Nat) : Int) := by
  unfold rgt
  by_cases h : m = 3
  · subst h; rfl
  · rw [if_neg (by omega)]; omega
set_option maxHeartbeats 4000000 in
theorem fopn (n : Int) (s : List UInt8) (a b : T) (iha : ∀ l, FoS a l) (ihb : ∀ l, FoS b l) (ha : allT a = true) (hb : allT b = true) (hlen : (txtT7 (.mk 3 n s [a, b])).length ≤ 1000000) (A : Option Addr) (c : Nat) (vs : Nat → Value) (w : World) (hp : L1b.Pow w) (hk : Tr.Kids w w.heap.size A [a, b] vs) :
    Calls Tryz.prog 192 #[nv 3 n s A 2 c] w fun e w' => e = .returned (sv (txtT7 (.mk 3 n s [a, b]))) ∧ Below w.heap.size w w' := by
  have hb1 := box_below w (.cells #[.int .i64 3, .int .i64 n, sv s, .slice A 2 c] 29)
  have hblk := hid (box_blk w 3 n s A 2 c 29)
  have hk1 := hid (hk.go hb1)
  have hp := hid (fun w' (h : Below w.heap.size w w') => hp.below h)
  replace hb1 := hid hb1
  rw [txt7_3] at hlen ⊢
  have hlv := hid (fun w => ilevel_any 3 n s A 2 c w)
  have hl7 := lvl_le 3 n
  generalize lvl 3 n = lv at *
  have hpa := paren_len (txtT7 a) (decide (lvlT a < if lv = 3 then 4 else lv))
  have hpb := paren_len (txtT7 b) (decide (lvlT b < lv + 1))
  have hS2 := symL_len n
  simp only [List.length_append, List.length_cons, List.length_nil] at hlen
  have hlo := fun w => lvs_operands (lv : Int) (by omega) (by omega) w
  rw [lft_nat, rgt_nat] at hlo
  have hA := hid (fun v w hp hv => iha (if lv = 3 then 4 else lv) v w hp ha (by omega) hv)
  have hB := hid (fun v w hp hv => ihb (lv + 1) v w hp hb (by omega) hv)
  have hsy := hid (fun w => C3.symbol_any n w)
  generalize paren (txtT7 a) (decide (lvlT a < if lv = 3 then 4 else lv)) = xa at *
  generalize paren (txtT7 b) (decide (lvlT b < lv + 1)) = xb at *
  generalize C3.symL n = xs at *
  generalize (if lv = 3 then 4 else lv) = la at *
  generalize lv + 1 = lb at *
  have hlo := hid hlo
  have hxa : xa.length ≤ 1000000 := by omega
  have hxb : xb.length ≤ 1000000 := by omega
  clear hk hpa hpb hlen iha ihb
  go_enter Tryz.func192, Tryz.ntmps192
  obtain ⟨b0, b1, b2, b3⟩ := four hblk.out
  go_wp2_with fail
  generalize (w.alloc (.cells #[.int .i64 3, .int .i64 n, sv s, .slice A 2 c] 29)) = w1 at *
  refine (hlv.out w1).mono ?_
  rintro e w2 ⟨rfl, hb2⟩
  have hblk2 := hblk.out.below hb2 hblk.out.lt
  have hk2 := hk1.out.go hb2
  have hb2 := hid (hb1.out.trans (hb2.mono hb1.out.size))
  clear b0 b1 b2 b3
  go_wp2_with fail
  refine (hlo.out w2).mono ?_
  rintro e w2' ⟨rfl, rfl⟩
  obtain ⟨b0, b1, b2, b3⟩ := four hblk2
  obtain ⟨ad, hA0, _, c0, c1, c2, c3, e0, k0, k1, k2, k3⟩ := hk2.cell 0 (by simp)
  subst hA0
  obtain ⟨ad', hA', _, d0, d1, d2, d3, e1, l0, l1, l2, l3⟩ := hk2.cell 1 (by simp)
  obtain rfl : ad = ad' := Option.some.inj hA'
  have x0 := hk2.kid 0 a rfl
  rw [e0] at x0
  have x1 := hk2.kid 1 b rfl
  rw [e1] at x1
  have p0 : w2.cell? ad = some c0 := k0
  have p1 : w2.cell? ⟨ad.block, ad.off + 1, none⟩ = some c1 := k1
  have p2 : w2.cell? ⟨ad.block, ad.off + 2, none⟩ = some c2 := k2
  have p3 : w2.cell? ⟨ad.block, ad.off + 3, none⟩ = some c3 := k3
  have q0 : w2.cell? ⟨ad.block, ad.off + 4, none⟩ = some d0 := l0
  have q1 : w2.cell? ⟨ad.block, ad.off + 4 + 1, none⟩ = some d1 := l1
  have q2 : w2.cell? ⟨ad.block, ad.off + 4 + 2, none⟩ = some d2 := l2
  have q3 : w2.cell? ⟨ad.block, ad.off + 4 + 3, none⟩ = some d3 := l3
  replace p0 := cell_regrown p0
  replace p1 := cell_regrown p1
  replace p2 := cell_regrown p2
  replace p3 := cell_regrown p3
  replace q0 := cell_regrown q0
  replace q1 := cell_regrown q1
  replace q2 := cell_regrown q2
  replace q3 := cell_regrown q3
  replace b1 := cell_regrown b1
  replace b3 := cell_regrown b3
  have cA := hid (fun (d : Nat) (os : Array Obj) => Calls.regrown_of (d := d) (os := os) (hA.out _ (grow (redrawn w2 d) os) (hp.out _ (hb2.out.trans ((below_regrown w2 d os).mono hb2.out.size))) (x0.go (below_regrown w2 d os))))
  have cB := hid (fun (d : Nat) (os : Array Obj) => Calls.regrown_of (d := d) (os := os) (hB.out _ (grow (redrawn w2 d) os) (hp.out _ (hb2.out.trans ((below_regrown w2 d os).mono hb2.out.size))) (x1.go (below_regrown w2 d os))))
  have cS := hid (fun (d : Nat) (os : Array Obj) => Calls.regrown_of (d := d) (os := os) (hsy.out (grow (redrawn w2 d) os)))
  clear hA hB hsy x0 x1 e0 e1 k0 k1 k2 k3 l0 l1 l2 l3 hk2 hblk2 hA' b0 b2 hlv hlo hp
  go_wp2_with fail
  refine wp_region_quiet_below (by kernel_rfl) (by kernel_rfl) ?_
  repeat (go_big_quiet_step (first | with_reducible exact cA.out _ _ | with_reducible exact cB.out _ _ | with_reducible exact cS.out _ _))
  refine wpQuiet_nil ?_
  intro _ hw'
  obtain ⟨⟨dq, osq⟩, hw''⟩ := hw'
  subst hw''
  have hq := hid (below_regrown w2 dq osq)
  clear b1 b3 p0 p1 p2 p3 q0 q1 q2 q3 cA cB cS
  generalize grow (redrawn w2 dq) osq = wq at *
  go_wp2_with fail
  go_ret
  refine ⟨?_, hb2.out.trans (hq.out.mono hb2.out.size)⟩
  show Ending.returned (.string (⟨xa.toArray⟩ ++ ⟨[32].toArray⟩ ++ ⟨xs.toArray⟩ ++ ⟨[32].toArray⟩ ++ ⟨xb.toArray⟩)) = _
  rw [bapp, bapp, bapp, bapp]
theorem fld1 (F G : FuncId) (w : World) : (Instr.field FMT (fn2 F G) 1).run Tryz.prog w = .ok (.func (Fn.func G) #[] #[]) w := by kernel_rfl
abbrev FindsV (k : Int) (v : Value) : Prop := ∀ (b : Nat) (wx : World), KMap wx b fmtsL → (Instr.lookup MFT (.map (some b)) (.int .i64 k) false).run Tryz.prog wx = .ok v wx
set_option maxHeartbeats 4000000 in
theorem valid_by (k n : Int) (s : List UInt8) (A : Option Addr) (l c : Nat) (w : World) (F G : FuncId) (x : List UInt8) (hcf : ∀ args w, (callFunc G args).run Tryz.prog w = .ok (.enter G args) w) (hl : FindsV k (fn2 F G))
    (hF : ∀ w', Below w.heap.size w w' → Calls Tryz.prog G #[nv k n s A l c] w' fun e w2 => e = .returned (sv x) ∧ Below w'.heap.size w' w2) : Calls Tryz.prog 89 #[nv k n s A l c] w fun e w' => e = .returned (sv x) ∧ Below w.heap.size w w' := by
  have hb1 := hid (box_below w (.cells #[.int .i64 k, .int .i64 n, sv s, .slice A l c] 29))
  have hblk := hid (box_blk w k n s A l c 29)
  have hfm := hid (fun w => formatters_any w)
  have hF := hid hF
  have hl := hid hl
  have hfd := fun w => fld1 F G w
  go_enter Tryz.func89, Tryz.ntmps89
  go_wp2_with fail
  generalize (w.alloc (.cells #[.int .i64 k, .int .i64 n, sv s, .slice A l c] 29)) = w1 at *
  obtain ⟨k0, k1, k2, k3⟩ := four hblk.out
  go_region_held3 (fun w' => w'.cell? ⟨w.heap.size, 0, none⟩ = some (.int .i64 k) ∧ w'.cell? ⟨w.heap.size, 1, none⟩ = some (.int .i64 n) ∧ w'.cell? ⟨w.heap.size, 2, none⟩ = some (sv s) ∧ w'.cell? ⟨w.heap.size, 3, none⟩ = some (.slice A l c)) (first | (exact q1) | (exact q2) | go_keep)
    (first
     | (go_at_call 142; refine (hfm.out _).mono ?_; rintro e w2 ⟨rfl, hk, hb⟩; have hlk := hl.out w1.heap.size w2 hk; have B2 := hid (hb1.out.trans (((Below.refl w1.heap.size w1).drew.trans hb).mono hb1.out.size)); have bx := hid (hblk.out.below ((Below.refl w1.heap.size w1).drew.trans hb) hblk.out.lt); have q1 := four bx.out; clear hb)
     | (refine (hF.out _ B2.out).mono ?_; rintro e w3 ⟨rfl, hb⟩; have B3 := hid (B2.out.trans (hb.mono B2.out.size)); have q2 := four (bx.out.below hb bx.out.lt); clear hb))
  clear q1 q2 hk k0 k1 k2 k3
  go_wp2_with fail
  go_ret
  exact ⟨rfl, B3.out⟩
theorem fvalid_any (t : T) : FvS t := by
  induction t using T.ind with
  | h k n s ks ih =>
    intro v w hp hall hlen hv
    obtain ⟨A, c, vs, rfl, hs, hl, hk⟩ := hv.kids
    have hnode : nodeB k n s ks.length = true := by rw [allT_mk, Bool.and_eq_true] at hall; exact hall.2
    rcases node_cases hnode with rfl | rfl | ⟨rfl, a, b, rfl⟩ | ⟨rfl, a, rfl⟩
    · rw [txt7_1]
      unfold nodeB at hnode
      rw [if_pos rfl, Bool.and_eq_true] at hnode
      exact valid_by 1 n s A ks.length c w _ _ _ (fun _ _ => by kernel_rfl) (fun b wx h => (look1 h).2) fun w' h => fconst n s A ks.length c w' (hp.below h) (C3.isW_iff.1 hnode.1)
    · rw [txt7_2]
      exact valid_by 2 n s A ks.length c w _ _ _ (fun _ _ => by kernel_rfl) (fun b wx h => (look2 h).2) fun w' h => fvar n s A ks.length c w'
    · exact valid_by 3 n s A 2 c w _ _ _ (fun _ _ => by kernel_rfl) (fun b wx h => (look3 h).2) fun w' h => fopn n s a b (fun l => operand_any a (ih a (by simp)) l) (fun l => operand_any b (ih b (by simp)) l) (allT_2 hall).1 (allT_2 hall).2 hlen A c vs w' (hp.below h) (hk.go h)
    · exact valid_by 4 n s A 1 c w _ _ _ (fun _ _ => by kernel_rfl) (fun b wx h => (look4 h).2) fun w' h => fnot n s a (operand_any a (ih a (by simp)) 6) (allT_1 hall) hlen A c vs w' (hp.below h) (hk.go h)
set_option maxHeartbeats 2000000 in
theorem iformat_any (t : T) (v : Value) (w : World) (hp : L1b.Pow w) (hv : Ex w w.heap.size v t) : Calls Tryz.prog 42 #[v] w fun e w' => e = .returned (sv (fmtX t)) ∧ Below w.heap.size w w' := by
  obtain ⟨k, n, s, ks⟩ := t
  obtain ⟨A, c, vs, rfl, hs, hl, hk⟩ := hv.kids
  have hb1 := box_below w (.cells #[.int .i64 k, .int .i64 n, sv s, .slice A ks.length c] 29)
  have hblk := hid (box_blk w k n s A ks.length c 29)
  have hv1 := hid (hv.go hb1)
  replace hb1 := hid hb1
  have hp := hid (fun w' (h : Below w.heap.size w w') => hp.below h)
  generalize hT : T.mk k n s ks = t at *
  have hck := hid (ivalidE t _ _ hv1.out)
  clear hk hv
  go_enter Tryz.func42, Tryz.ntmps42
  obtain ⟨b0, b1, b2, b3⟩ := four hblk.out
  go_wp2_with fail
  generalize (w.alloc (.cells #[.int .i64 k, .int .i64 n, sv s, .slice A ks.length c] 29)) = w1 at *
  refine hck.out.mono ?_
  rintro e w2 ⟨rfl, hb2⟩
  have hblk2 := hblk.out.below hb2 hblk.out.lt
  clear b0 b1 b2 b3
  obtain ⟨b0, b1, b2, b3⟩ := four hblk2
  have hv2 := hv1.out.go hb2
  replace hb2 := hid (hb1.out.trans (hb2.mono hb1.out.size))
  clear hck hblk2
  cases hok : okT t with
  | true =>
    have h1 := ok_parts hok
    have hlen := txt7_len t h1.2
    have hf := hid (show fmtX t = txtT7 t by unfold fmtX; rw [if_pos hok])
    have hcl := hid (fvalid_any t _ _ (hp.out _ hb2.out) h1.2 (by omega) hv2)
    clear hv2 h1 hlen hok hp
    go_wp2_with fail
    refine hcl.out.mono ?_
    rintro e w3 ⟨rfl, hb3⟩
    replace hb3 := hid (hb2.out.trans (hb3.mono hb2.out.size))
    go_wp2_with fail
    go_ret
    exact ⟨by rw [hf.out]; rfl, hb3.out⟩
  | false =>
    have hf := hid (show fmtX t = [] by unfold fmtX; rw [if_neg (by rw [hok]; simp)])
    clear hv2 hok hp
    go_wp2_with fail
    go_ret
    exact ⟨by rw [hf.out]; rfl, hb2.out⟩
end Go.Proofs.YtjglllpemhkkdaaGreatDoor.Tk

/- Arguments that are lists of statements or programs. -/
set_option maxRecDepth 100000
namespace Go.Proofs.YtjglllpemhkkdaaGreatDoor.Gd
open Go.ChangeShapes Go.WideShapes Go.ChangeAt Go.RowKit Close Mem Tr

theorem st_of {ds : List D} {ks : List K} (h : Ty ks ds) : (ks = sh 1 → ∃ t : St, ds = t.d) ∧ (ks = [.i, .s, .x, .sl 1, .sl 1].drop 1 → ∃ s e bs es, ds = [.s s, .x e, .sl 1 (dl bs), .sl 1 (dl es)]) ∧ (ks = [.x, .sl 1, .sl 1] → ∃ e bs es, ds = [.x e, .sl 1 (dl bs), .sl 1 (dl es)]) ∧ (ks = [.sl 1, .sl 1] → ∃ bs es, ds = [.sl 1 (dl bs), .sl 1 (dl es)]) ∧ (ks = [.sl 1] → ∃ L, ds = [.sl 1 (dl L)]) ∧ (ks = [] → ds = []) := by
  have fam : ∀ l : List (List D), (∀ e ∈ l, ∃ t : St, e = t.d) → ∃ L, l = dl L := fun l => by
    induction l with
    | nil => intro _; exact ⟨[], rfl⟩
    | cons a r ih =>
      intro h
      obtain ⟨t, rfl⟩ := h a (by simp)
      obtain ⟨L, rfl⟩ := ih fun e he => h e (by simp [he])
      exact ⟨t :: L, rfl⟩
  induction h with
  | nil => exact ⟨(fun h => by cases h), (fun h => by cases h), (fun h => by cases h), (fun h => by cases h), (fun h => by cases h), fun _ => rfl⟩
  | i r ih =>
    refine ⟨fun h => ?_, (fun h => by cases h), (fun h => by cases h), (fun h => by cases h), (fun h => by cases h), (fun h => by cases h)⟩
    injection h with _ h2
    obtain ⟨s, e, bs, es, rfl⟩ := ih.2.1 h2
    exact ⟨.mk _ s e bs es, (St.d_mk _ _ _ _ _).symm⟩
  | b r ih => exact ⟨(fun h => by cases h), (fun h => by cases h), (fun h => by cases h), (fun h => by cases h), (fun h => by cases h), (fun h => by cases h)⟩
  | s r ih =>
    refine ⟨(fun h => by cases h), fun h => ?_, (fun h => by cases h), (fun h => by cases h), (fun h => by cases h), (fun h => by cases h)⟩
    injection h with _ h2
    obtain ⟨e, bs, es, rfl⟩ := ih.2.2.1 h2
    exact ⟨_, e, bs, es, rfl⟩
  | x r ih =>
    refine ⟨(fun h => by cases h), (fun h => by cases h), fun h => ?_, (fun h => by cases h), (fun h => by cases h), (fun h => by cases h)⟩
    injection h with _ h2
    obtain ⟨bs, es, rfl⟩ := ih.2.2.2.1 h2
    exact ⟨_, bs, es, rfl⟩
  | ss r ih => exact ⟨(fun h => by cases h), (fun h => by cases h), (fun h => by cases h), (fun h => by cases h), (fun h => by cases h), (fun h => by cases h)⟩
  | is r ih => exact ⟨(fun h => by cases h), (fun h => by cases h), (fun h => by cases h), (fun h => by cases h), (fun h => by cases h), (fun h => by cases h)⟩
  | sl hl r ihl ih =>
    refine ⟨(fun h => by cases h), (fun h => by cases h), (fun h => by cases h), fun h => ?_, fun h => ?_, (fun h => by cases h)⟩
    · injection h with h1 h2
      injection h1 with h1
      subst h1
      obtain ⟨L, rfl⟩ := fam _ fun e he => (ihl e he).1 rfl
      obtain ⟨M, rfl⟩ := ih.2.2.2.2.1 h2
      exact ⟨L, M, rfl⟩
    · injection h with h1 h2
      injection h1 with h1
      subst h1
      obtain ⟨L, rfl⟩ := fam _ fun e he => (ihl e he).1 rfl
      obtain rfl := ih.2.2.2.2.2 h2
      exact ⟨L, rfl⟩
abbrev U1 : Nat → Prop := fun n => n = 1
def tyLaw : Nat → TypeId
  | 1 => 109
  | _ => 0
set_option maxRecDepth 100000 in
theorem stAt : ∀ n, U1 n → StructAt Tryz.prog U1 tyLaw (tyLaw n) (sh n) := fun n hn => by
  subst hn
  obtain ⟨g0, g1, g2, g3, F⟩ := fourL
  refine ⟨_, Tryz.underlying109, ?_, by kernel_rfl⟩
  refine ⟨rfl, ⟨Tryz.underlying3, by kernel_rfl⟩, rfl, ⟨Tryz.underlying9, by kernel_rfl⟩, rfl, ⟨_, _, _, g0, g1, g2, g3, F⟩, rfl, ⟨rfl, Tryz.underlying48, by kernel_rfl, by kernel_rfl⟩, rfl, ⟨rfl, Tryz.underlying48, by kernel_rfl, by kernel_rfl⟩, trivial⟩
set_option maxRecDepth 100000 in
theorem open_stL {H : Type} {enc : TypeId × Value → H} {W : World} {base : Nat} {sp : Nat → Bool} {v : Value} {d : DataW H} {p : List MemPlace}
    (hv : Value.okWide Tryz.prog W .any base 48 v) (h : DataW.Trod enc Tryz.prog W 0 sp true 48 v d p) :
    ∃ (A : Option Addr) (c : Nat) (L : List St) (rows : Nat → List Value), v = .slice A L.length c ∧ Row W W.heap.size 1 A (dl L) rows ∧ L.length ≤ maxI := by
  obtain ⟨a0, len, cap, rfl⟩ := okWide_slice Tryz.underlying48 hv
  obtain ⟨n, hn⟩ := h
  have hk : KindAt Tryz.prog U1 tyLaw 48 (.sl 1) := ⟨rfl, Tryz.underlying48, by kernel_rfl, by kernel_rfl⟩
  obtain ⟨l, hl, hr⟩ := open_row (fun m _ => open_sub stAt m) hk hn
  have := hr [] [] .nil
  obtain ⟨A, c, r, rows, hc, hrow, hlm, hnil⟩ := this.sl_
  obtain ⟨L, hL⟩ := (st_of (Ty.sl (n := 1) (ks := []) (ds := []) hl .nil)).2.2.2.2.1 rfl
  injection hL with h1
  injection h1 with h1 h2
  subst h2
  injection hc with h3
  rw [dl_len] at *
  exact ⟨A, c, L, rows, h3, hrow, hlm⟩
end Go.Proofs.YtjglllpemhkkdaaGreatDoor.Gd

/- Chapter 7: NormalizeExpr, the program's and the model's. -/
set_option maxRecDepth 100000
namespace Go.Proofs.YtjglllpemhkkdaaGreatDoor.Tk
open Go.RowKit Go.Lib Go.Sort Num Com Mem YtjglllpemhkkdaaGreatDoor.Os Ow Tr

def normV (S : List UInt8) : List UInt8 × Bool := match parseR S with
  | .ok t => (fmtX t, true)
  | .error _ => ([], false)
theorem norm_ok {S : List UInt8} {t : T} (h : parseR S = .ok t) : normV S = (fmtX t, true) := by unfold normV; rw [h]
theorem norm_err {S : List UInt8} {a : Int} (h : parseR S = .error a) : normV S = ([], false) := by unfold normV; rw [h]
theorem ok_cnt {t : T} (h : okT t = true) : cntT t ≤ 2000000 := by have := (ok_parts h).1; omega
set_option maxHeartbeats 2000000 in
theorem snorm_any (S : List UInt8) (hS : S.length ≤ 9223372036854775807) (w : World) : Calls Tryz.prog 13 #[.string ⟨S.toArray⟩] w fun e w' => e = .returned (.tuple #[sv (normV S).1, .bool (normV S).2]) ∧ Below w.heap.size w w' := by
  have hp := sparse_any S hS w
  rcases parse_off S with ⟨t, hR, hok⟩ | ⟨a, hR, h0, _⟩
  · replace hp := hid (hp.mono fun e w' h => ans_ok hR h)
    rw [norm_ok hR]
    have hc := ok_cnt hok
    have hf := hid (fun v w hv => sformat_any t v w hv hc)
    generalize fmtX t = F at *
    dsimp only
    go_enter Tryz.func13, Tryz.ntmps13
    go_wp2_with fail
    refine hp.out.mono ?_
    rintro e w1 ⟨K, N, s, A, L, cc, rfl, o1, hb⟩
    have b2 := box_below w1 (.cells #[.int .i64 K, .int .i64 N, .string ⟨s.toArray⟩, .slice A L cc] ET)
    have B2 := hid (hb.trans (b2.mono hb.size))
    have W2 := hid (Boxed.new o1)
    replace hf := hid (hf.out _ _ W2.out.own.ex)
    clear o1 hb b2 hp
    go_wp2_with fail
    generalize (w1.alloc (.cells #[.int .i64 K, .int .i64 N, .string ⟨s.toArray⟩, .slice A L cc] ET)) = w2 at *
    refine hf.out.mono ?_
    rintro e w3 ⟨rfl, hb⟩
    have B3 := hid (B2.out.trans (hb.mono B2.out.size))
    clear hb hf W2
    go_wp2_with fail
    go_ret2
    exact ⟨rfl, B3.out⟩
  · replace hp := hid (hp.mono fun e w' h => ans_err hR h)
    rw [norm_err hR]
    have t1 : decide (0 ≤ a) = true := decide_eq_true h0
    dsimp only
    go_enter Tryz.func13, Tryz.ntmps13
    go_wp2_with fail
    refine hp.out.mono ?_
    rintro e w1 ⟨K, N, s, A, L, cc, rfl, o1, hb⟩
    have b2 := box_below w1 (.cells #[.int .i64 K, .int .i64 N, .string ⟨s.toArray⟩, .slice A L cc] ET)
    have B2 := hid (hb.trans (b2.mono hb.size))
    clear o1 hb b2 hp
    go_wp2_with fail
    go_ret2
    exact ⟨rfl, B2.out⟩
set_option maxHeartbeats 2000000 in
theorem inormz_any (S : List UInt8) (hS : S.length ≤ 9223372036854775807) (w : World) (hnv : NotV w) (hh : As.Handle w) (hpw : L1b.Pow w) : Calls Tryz.prog 41 #[.string ⟨S.toArray⟩, .func (Fn.func 14) #[] #[], .func (Fn.func 42) #[] #[]] w fun e w' => e = .returned (.tuple #[sv (normV S).1, .bool (normV S).2]) ∧ Below w.heap.size w w' := by
  have hp := iparse_any S hS w hnv hh
  have hpw := hid (fun w' (h : Below w.heap.size w w') => hpw.below h)
  rcases parse_off S with ⟨t, hR, hok⟩ | ⟨a, hR, h0, _⟩
  · replace hp := hid (hp.mono fun e w' h => ans_ok hR h)
    rw [norm_ok hR]
    have hf := hid (fun v w hp hv => iformat_any t v w hp hv)
    generalize fmtX t = F at *
    dsimp only
    go_enter Tryz.func41, Tryz.ntmps41
    go_wp2_with fail
    refine hp.out.mono ?_
    rintro e w1 ⟨K, N, s, A, L, cc, rfl, o1, hb⟩
    have b2 := box_below w1 (.cells #[.int .i64 K, .int .i64 N, .string ⟨s.toArray⟩, .slice A L cc] ET)
    have B2 := hid (hb.trans (b2.mono hb.size))
    have W2 := hid (Boxed.new o1)
    replace hf := hid (hf.out _ _ (hpw.out _ B2.out) W2.out.own.ex)
    clear o1 hb b2 hp hpw
    go_wp2_with fail
    generalize (w1.alloc (.cells #[.int .i64 K, .int .i64 N, .string ⟨s.toArray⟩, .slice A L cc] ET)) = w2 at *
    refine hf.out.mono ?_
    rintro e w3 ⟨rfl, hb⟩
    have B3 := hid (B2.out.trans (hb.mono B2.out.size))
    clear hb hf W2
    go_wp2_with fail
    go_ret2
    exact ⟨rfl, B3.out⟩
  · replace hp := hid (hp.mono fun e w' h => ans_err hR h)
    rw [norm_err hR]
    have t1 : decide (0 ≤ a) = true := decide_eq_true h0
    dsimp only
    go_enter Tryz.func41, Tryz.ntmps41
    go_wp2_with fail
    refine hp.out.mono ?_
    rintro e w1 ⟨K, N, s, A, L, cc, rfl, o1, hb⟩
    have b2 := box_below w1 (.cells #[.int .i64 K, .int .i64 N, .string ⟨s.toArray⟩, .slice A L cc] ET)
    have B2 := hid (hb.trans (b2.mono hb.size))
    clear o1 hb b2 hp
    go_wp2_with fail
    go_ret2
    exact ⟨rfl, B2.out⟩
set_option maxHeartbeats 2000000 in
theorem inorm_any (S : List UInt8) (hS : S.length ≤ 9223372036854775807) (w : World) (hnv : NotV w) (hh : As.Handle w) (hpw : L1b.Pow w) : Calls Tryz.prog 12 #[.string ⟨S.toArray⟩] w fun e w' => e = .returned (.tuple #[sv (normV S).1, .bool (normV S).2]) ∧ Below w.heap.size w w' := by
  have hc := hid (inormz_any S hS w hnv hh hpw)
  generalize normV S = v at *
  go_enter Tryz.func12, Tryz.ntmps12
  go_wp2_with fail
  refine hc.out.mono ?_
  rintro e w1 ⟨rfl, hb⟩
  replace hb := hid hb
  go_wp2_with fail
  go_ret2
  exact ⟨rfl, hb.out⟩
end Go.Proofs.YtjglllpemhkkdaaGreatDoor.Tk
