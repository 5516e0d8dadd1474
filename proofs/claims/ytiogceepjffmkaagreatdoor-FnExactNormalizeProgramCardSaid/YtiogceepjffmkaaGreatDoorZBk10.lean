/- The program's appendBackward: a range over slices.Backward. -/
import Derived.Test.YtiogceepjffmkaaGreatDoorZPt10
import Derived.RangeFuncNested
import Derived.RangeFuncBound
import Derived.RangeFuncCalls
import Derived.RangeFuncLeaves
import Derived.RangeFuncBox
import Derived.Shelf.Abstract
import Derived.Shelf.RegionOpen
import Derived.OwnWalkIn
import Derived.TacticsInMore
import Derived.LoopNIn
import Derived.LoopIn
import Derived.Maps.OwnIn
import Derived.Test.YtiogceepjffmkaaGreatDoorZC4a
set_option maxHeartbeats 4000000
set_option maxRecDepth 100000
namespace Go.Proofs.YtiogceepjffmkaaGreatDoor.Gp
open Go.RowKit Go.Shelf Go.Lib Com Mem Tr Kd Gd
attribute [local go_sem] Oper.semAt_some
abbrev PT10 : TypeId := 108
abbrev SP10 : TypeId := 104
theorem infoP10 : (Tryz.prog.info? PT10).map (fun i => (i.zero, i.size, i.bytes)) = some (some (.agg #[.string .empty, .slice none 0 0]), 2, 40) := by kernel_rfl
def upto {α : Type} (f : Nat → α) (k : Nat) : List α := (List.range k).map f
theorem upto_succ {α : Type} (f : Nat → α) (k : Nat) : upto f (k + 1) = upto f k ++ [f k] := by simp [upto, List.range_succ]
theorem upto_length {α : Type} (f : Nat → α) (k : Nat) : (upto f k).length = k := by simp [upto]
def bkAt (ps : List Pt) (j : Nat) : Nat × Pt := (ps.length - 1 - j, ps[ps.length - 1 - j]?.getD ([], nil0))
theorem bk_all (ps : List Pt) : (upto (bkAt ps) ps.length).map (·.2) = ps.reverse := by
  apply List.ext_getElem
  · simp [upto]
  · intro i h1 h2
    have h3 : i < ps.length := by simpa using h2
    simp [upto, bkAt, List.getElem?_eq_getElem (show ps.length - 1 - i < ps.length by omega), List.getElem_reverse]
def Kp10 (gp Bs : Nat) (A B : World) : Prop := ∀ k, k = gp ∨ k = Bs → B.heap[k]? = A.heap[k]?
def PtsAt (W : World) (gp : Nat) (ps : List Pt) : Prop := ∀ j x, ps[j]? = some x → W.cell? ⟨gp, j * 2, none⟩ = some (sv x.1) ∧ W.cell? ⟨gp, j * 2 + 1, none⟩ = some (slv x.2)
theorem PtsAt.keep {W W' : World} {gp : Nat} {ps : List Pt} (h : PtsAt W gp ps) (hk : W'.heap[gp]? = W.heap[gp]?) : PtsAt W' gp ps := fun j x hx => by
  obtain ⟨h1, h2⟩ := h j x hx
  exact ⟨(World.cell?_of_block (a := ⟨gp, j * 2, none⟩) hk).trans h1, (World.cell?_of_block (a := ⟨gp, j * 2 + 1, none⟩) hk).trans h2⟩
set_option maxRecDepth 100000 in
theorem back1_in (F : Fence) (n : Nat) (hf : F.fn 142) (hro : F.round = none) (hn : 1 ≤ n) (l Bs gp cap : Nat) (ps : List Pt) (hps : ps.length ≤ 1000) (J Jx : List (Nat × Pt) → World → Prop)
    (hY : ∀ pre x W, J pre W → pre.length < ps.length → YieldAt F (n - 1) Tryz.prog l #[.int .i64 (x.1 : Int), .agg #[sv x.2.1, slv x.2.2]] W fun e W' =>
      (e = .returned (.bool true) ∧ J (pre ++ [x]) W' ∧ Kp10 gp Bs W W') ∨ (e = .returned (.bool false) ∧ Jx (pre ++ [x]) W'))
    (W : World) (hBs : Boxed W Bs SP10 (.slice (some ⟨gp, 0, none⟩) ps.length cap)) (hc : PtsAt W gp ps) (h0 : J [] W) :
    CallsIn F n Tryz.prog 142 #[.func (.yield l) #[] #[], .pointer (some ⟨Bs, 0, none⟩)] W fun e W' => (∃ v, e = .returned v) ∧
      ((∃ ys, ys = upto (bkAt ps) ps.length ∧ J ys W') ∨ (∃ pre, True ∧ Jx pre W')) := by
  refine callsIn_of_wp Tryz.func142 rfl hf ?_ hro
  simp only [Tryz.ntmps142, List.size_toArray, List.length_cons, List.length_nil, Nat.reduceAdd, Nat.reduceSub, Array.replicate_succ, Array.replicate_zero, List.push_toArray, List.append_toArray, List.nil_append, List.cons_append]
  generalize hN : ps.length = N at *
  have hx0 := hBs.cell
  have q0 : IntKind.i64.wrap ((N : Int) - 1) = (N : Int) - 1 := IntWalk.i64_in _ (by omega)
  gi_wp2
  gi_loopw [3] (fun i wr => ∃ m : Nat, m ≤ N ∧ i = .int .i64 ((m : Int) - 1) ∧ J (upto (bkAt ps) (N - m)) wr ∧ Kp10 gp Bs W wr)
    (fun i _ => (Go.RowKit.intOf i + 1).toNat)
  case atStart => exact ⟨N, Nat.le_refl _, rfl, by rw [Nat.sub_self]; exact h0, fun k _ => rfl⟩
  case round =>
    clear hx0 q0
    obtain ⟨m, hm, rfl, hJs, hk⟩ := hrel
    have hx0 : wr.cell? ⟨Bs, 0, none⟩ = some (.slice (some ⟨gp, 0, none⟩) N cap) := (World.cell?_of_block (a := ⟨Bs, 0, none⟩) (hk Bs (Or.inr rfl))).trans hBs.cell
    cases m with
    | zero =>
      have t1 : decide (0 ≤ ((0 : Nat) : Int) - 1) = false := decide_eq_false (by omega)
      gi_wp2
      go_end0
      exact ⟨⟨_, rfl⟩, .inl ⟨_, rfl, by rw [Nat.sub_zero] at hJs; exact hJs⟩⟩
    | succ j =>
      have hj : j < ps.length := by omega
      obtain ⟨x, hx⟩ : ∃ x, ps[j]? = some x := ⟨_, List.getElem?_eq_getElem hj⟩
      obtain ⟨c0, c1⟩ := (hc.keep (hk gp (Or.inl rfl))) j x hx
      have hbk : bkAt ps (N - (j + 1)) = (j, x) := by
        unfold bkAt
        rw [hN, show N - 1 - (N - (j + 1)) = j by omega, hx]; rfl
      have e1 : (((j + 1 : Nat) : Int)) - 1 = (j : Int) := by omega
      rw [e1]
      have hy0 := hY _ (j, x) wr hJs (by rw [upto_length]; omega)
      rw [← hbk, ← upto_succ, show N - (j + 1) + 1 = N - j by omega, hbk] at hy0
      obtain ⟨fn, tmps, assign, body, hy, hR⟩ := hy0
      dsimp only at hy
      have t1 : decide (0 ≤ (j : Int)) = true := decide_eq_true (by omega)
      have t2 : (j : Int) < (N : Int) := by omega
      have q0 : IntKind.i64.wrap ((j : Int) - 1) = (j : Int) - 1 := IntWalk.i64_in _ (by omega)
      gi_wp2
      refine hR.mono ?_
      rintro e W3 (⟨rfl, hJ3, hk3⟩ | ⟨rfl, hJx3⟩)
      · gi_wp2
        go_roundw
        case rel => exact ⟨j, by omega, rfl, hJ3, fun k h => (hk3 k h).trans (hk k h)⟩
        case measure => simp [Go.RowKit.intOf]
      · gi_wp2
        refine bodyPost_ret (results_none rfl _ _ _) rfl ?_
        exact ⟨⟨_, rfl⟩, .inr ⟨_, trivial, hJx3⟩⟩
theorem back_stops (F : Fence) (n : Nat) (hf : F.fn 142) (hro : F.round = none) (hn : 1 ≤ n) (Bs gp cap : Nat) (ps : List Pt) (hps : ps.length ≤ 1000) (w : World) (hBs : Boxed w Bs SP10 (.slice (some ⟨gp, 0, none⟩) ps.length cap)) (hg : gp < w.heap.size) (hc : PtsAt w gp ps) :
    SeqStopsK F n Tryz.prog 142 #[.pointer (some ⟨Bs, 0, none⟩)] (fun x : Nat × Pt => #[Value.int .i64 (x.1 : Int), .agg #[sv x.2.1, slv x.2.2]]) (Kp10 gp Bs) (fun ys => ys = upto (bkAt ps) ps.length) (fun _ => True) ps.length w := fun l J Jx W hW _ _ hY h0 =>
  back1_in F n hf hro hn l Bs gp cap ps hps J Jx hY W ((hW.block Bs hBs.lt).trans hBs) (hc.keep (hW.block gp hg)) h0
theorem back_in (F : Fence) (n : Nat) (h5 : F.fn 107) (hro : F.round = none) (a : Option Addr) (len cap : Nat) (w : World) :
    CallsIn F n Tryz.prog 107 #[.slice a len cap] w fun e w' => e = .returned (.func (.func 142) #[] #[.pointer (some ⟨w.heap.size, 0, none⟩)]) ∧ w' = w.alloc (.cells #[.slice a len cap] SP10) := by
  refine callsIn_of_wp Tryz.func107 rfl h5 ?_ hro
  simp only [Tryz.ntmps107, List.size_toArray, List.length_cons, List.length_nil, Nat.reduceAdd, Nat.reduceSub, Array.replicate_succ, Array.replicate_zero, List.push_toArray, List.append_toArray, List.nil_append, List.cons_append]
  gi_wp2
  go_ret
  exact ⟨rfl, rfl⟩
end Go.Proofs.YtiogceepjffmkaaGreatDoor.Gp
set_option maxRecDepth 100000
namespace Go.Proofs.YtiogceepjffmkaaGreatDoor.Tk
open Go.RowKit Go.Lib Go.Sort Num Com Mem YtiogceepjffmkaaGreatDoor.Os Tr Ik
def FvS (t : T) : Prop := ∀ (v : Value) (w : World), L1b.Pow w → allT t = true → (txtT7 t).length ≤ 1000000 → Ex w w.heap.size v t → Calls Tryz.prog 144 #[v] w fun e w' => e = .returned (sv (txtT7 t)) ∧ Below w.heap.size w w'
def FoS (t : T) (least : Nat) : Prop := ∀ (v : Value) (w : World), L1b.Pow w → allT t = true → (txtT7 t).length ≤ 1000000 → Ex w w.heap.size v t → Calls Tryz.prog 218 #[v, .int .i64 least] w fun e w' => e = .returned (sv (paren (txtT7 t) (decide (lvlT t < least)))) ∧ Below w.heap.size w w'
theorem operand_any (t : T) (h : FvS t) (least : Nat) : FoS t least := by
  intro v w hp hall hlen hv
  obtain ⟨k, n, s, ks⟩ := t
  obtain ⟨A, c, vs, rfl, hs, hl, hk⟩ := hv.kids
  have hb1 := box_below w (.cells #[.int .i64 k, .int .i64 n, sv s, .slice A ks.length c] 58)
  have hblk := hid (box_blk w k n s A ks.length c 58)
  have hcl := hid (h _ _ (hp.below hb1) hall hlen (hv.go hb1))
  replace hb1 := hid hb1
  have hlv := hid (fun w => ilevel_any k n s A ks.length c w)
  have hlt : decide (lvl k n < least) = decide (lvlT (.mk k n s ks) < least) := rfl
  generalize decide (lvlT (.mk k n s ks) < least) = q at *
  generalize txtT7 (.mk k n s ks) = x at *
  generalize ks.length = L at *
  clear hk hv hall h hl hp
  generalize lvl k n = lv at *
  have hbp := hid (bapp [40] x)
  have hbq := hid (bapp (40 :: x) [41])
  go_enter Tryz.func218, Tryz.ntmps218
  obtain ⟨k0, k1, k2, k3⟩ := four hblk.out
  go_wp2_with fail
  generalize (w.alloc (.cells #[.int .i64 k, .int .i64 n, sv s, .slice A L c] 58)) = w1 at *
  refine hcl.out.mono ?_
  rintro e w2 ⟨rfl, hb⟩
  have hblk2 := hblk.out.below hb hblk.out.lt
  replace hb := hid (hb1.out.trans (hb.mono hb1.out.size))
  clear k0 k1 k2 k3
  obtain ⟨k0, k1, k2, k3⟩ := four hblk2
  clear hcl hblk2
  go_wp2_with fail
  refine (hlv.out w2).mono ?_
  rintro e w3 ⟨rfl, hb3⟩
  replace hb3 := hid (hb.out.trans (hb3.mono hb.out.size))
  clear k0 k1 k2 k3
  cases q
  · go_wp2_with fail
    go_ret
    exact ⟨rfl, hb3.out⟩
  · go_wp2_with fail
    go_ret
    refine ⟨?_, hb3.out⟩
    show Ending.returned (.string (_ ++ _ ++ _)) = _
    rw [hbp.out]
    show Ending.returned (.string (⟨(40 :: x).toArray⟩ ++ _)) = _
    rw [hbq.out]; rfl
theorem fconst (n : Int) (s : List UInt8) (A : Option Addr) (l c : Nat) (w : World) (hp : L1b.Pow w) (hn : 0 ≤ n ∧ n < 4) : Calls Tryz.prog 199 #[nv 1 n s A l c] w fun e w' => e = .returned (sv (itoa n)) ∧ Below w.heap.size w w' := by
  have hb1 := box_below w (.cells #[.int .i64 1, .int .i64 n, sv s, .slice A l c] 58)
  have hf := hid (L1b.implFormat n (by omega) (by omega) _ (hp.below hb1))
  replace hb1 := hid hb1
  clear hp
  go_enter Tryz.func199, Tryz.ntmps199
  go_wp2_with fail
  refine hf.out.mono ?_
  rintro e w2 ⟨rfl, hb⟩
  replace hb := hid (hb1.out.trans (hb.mono hb1.out.size))
  go_wp2_with fail
  go_ret
  exact ⟨rfl, hb.out⟩
theorem fvar (n : Int) (s : List UInt8) (A : Option Addr) (l c : Nat) (w : World) : Calls Tryz.prog 200 #[nv 2 n s A l c] w fun e w' => e = .returned (sv s) ∧ Below w.heap.size w w' := by
  have hb1 := hid (box_below w (.cells #[.int .i64 2, .int .i64 n, sv s, .slice A l c] 58))
  go_enter Tryz.func200, Tryz.ntmps200
  go_wp2_with fail
  go_ret
  exact ⟨rfl, hb1.out⟩
theorem fnot (n : Int) (s : List UInt8) (a : T) (iha : FoS a 6) (ha : allT a = true) (hlen : (txtT7 (.mk 4 n s [a])).length ≤ 1000000) (A : Option Addr) (c : Nat) (vs : Nat → Value) (w : World) (hp : L1b.Pow w) (hk : Tr.Kids w w.heap.size A [a] vs) : Calls Tryz.prog 204 #[nv 4 n s A 1 c] w fun e w' => e = .returned (sv (txtT7 (.mk 4 n s [a]))) ∧ Below w.heap.size w w' := by
  have hb1 := box_below w (.cells #[.int .i64 4, .int .i64 n, sv s, .slice A 1 c] 58)
  have hk1 := hk.go hb1
  have hp1 := hp.below hb1
  replace hb1 := hid hb1
  obtain ⟨ad, hA, _, c0, c1, c2, c3, e0, k0, k1, k2, k3⟩ := hk1.cell 0 (by simp)
  subst hA
  have x0 := hk1.kid 0 a rfl
  rw [e0] at x0
  have p0 : (w.alloc (.cells #[.int .i64 4, .int .i64 n, sv s, .slice (some ad) 1 c] 58)).cell? ad = some c0 := k0
  have p1 : (w.alloc (.cells #[.int .i64 4, .int .i64 n, sv s, .slice (some ad) 1 c] 58)).cell? ⟨ad.block, ad.off + 1, none⟩ = some c1 := k1
  have p2 : (w.alloc (.cells #[.int .i64 4, .int .i64 n, sv s, .slice (some ad) 1 c] 58)).cell? ⟨ad.block, ad.off + 2, none⟩ = some c2 := k2
  have p3 : (w.alloc (.cells #[.int .i64 4, .int .i64 n, sv s, .slice (some ad) 1 c] 58)).cell? ⟨ad.block, ad.off + 3, none⟩ = some c3 := k3
  rw [txt7_4] at hlen ⊢
  have hpl := paren_len (txtT7 a) (decide (lvlT a < 6))
  rw [List.length_cons] at hlen
  have hcl := hid (iha _ _ hp1 ha (by omega) x0)
  replace hpl := hid hpl
  generalize paren (txtT7 a) (decide (lvlT a < 6)) = x at *
  have hbp := hid (bapp [33] x)
  clear hk e0 x0 k0 k1 k2 k3 hk1 hp hp1
  go_enter Tryz.func204, Tryz.ntmps204
  go_wp2_with fail
  refine hcl.out.mono ?_
  rintro e w2 ⟨rfl, hb2⟩
  replace hb2 := hid (hb1.out.trans (hb2.mono hb1.out.size))
  clear hcl p0 p1 p2 p3
  go_wp2_with fail
  go_ret
  refine ⟨?_, hb2.out⟩
  show Ending.returned (.string (_ ++ _)) = _
  rw [hbp.out]; rfl
open Ch
theorem itoa_one {n : Int} (h0 : 0 ≤ n) (h1 : n < 4) : itoa n = [UInt8.ofNat (48 + n.toNat)] := by
  unfold itoa
  rw [if_neg (by omega)]
  exact decDigits_one (by omega)
theorem valid_name {s : List UInt8} (h : C2.validB s = true) : NameS s := by
  unfold C2.validB at h
  rw [Bool.and_eq_true, Bool.and_eq_true, decide_eq_true_eq] at h
  obtain ⟨h8, hs, _⟩ := h
  cases s with
  | nil => cases hs
  | cons b r =>
    unfold C2.shape at hs
    rw [Bool.and_eq_true, List.all_eq_true] at hs
    refine ⟨b, r, rfl, hs.1, fun x hx => ?_, h8⟩
    rcases List.mem_cons.1 hx with rfl | hx
    · exact low_wd hs.1
    · exact hs.2 x hx
end Go.Proofs.YtiogceepjffmkaaGreatDoor.Tk
