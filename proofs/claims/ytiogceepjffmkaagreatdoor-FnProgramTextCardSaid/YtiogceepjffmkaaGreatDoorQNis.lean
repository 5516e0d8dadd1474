/- The program's list of a tree's nodes. -/
import Derived.Test.YtiogceepjffmkaaGreatDoorQDr17
import Derived.RangeFuncNested
import Derived.RangeFuncBound
import Derived.RangeFuncCalls
import Derived.RangeFuncLeaves
import Derived.RangeFuncBox
import Derived.Shelf.Abstract
import Derived.Shelf.RegionOpen
import Derived.OwnWalkIn
import Derived.TacticsInMore
import Derived.LoopNIn
import Derived.LoopIn
import Derived.Maps.OwnIn
set_option maxHeartbeats 4000000
set_option maxRecDepth 100000
namespace Go.Proofs.YtiogceepjffmkaaGreatDoor.Gs
open Go.RowKit Go.Lib Go.Sort Com Mem Tr Im Ag Pl Kd Ow
abbrev NR := List Value × Gd.St
theorem la_mono {w W : World} {l : LN Gd.St} (h : LA (pln w) w.heap.size l) (hb : Below w.heap.size w W) : LA (pln W) W.heap.size l := by
 obtain ⟨rows, h⟩ := h
 refine ⟨rows, fun j hj => ?_, fun j t ht => ?_, h.len⟩
 ·obtain ⟨ad, e, hB, hl⟩ := h.cell j hj
  exact ⟨ad, e, Nat.lt_of_lt_of_le hB hb.size, ldC_keep hl fun p hp => (pln_below hb).cell (by rw [hp, add_block]; exact hB)⟩
 ·have := h.kid j t ht
  unfold RdN at this ⊢
  exact (this.blw (pln_below hb)).more hb.size
end Go.Proofs.YtiogceepjffmkaaGreatDoor.Gs
set_option maxRecDepth 100000
namespace Go.Proofs.YtiogceepjffmkaaGreatDoor.Gd
open Go.RowKit Go.Lib Go.Sort Com Mem YtiogceepjffmkaaGreatDoor.Os Tr Pl Kd Gs
end Go.Proofs.YtiogceepjffmkaaGreatDoor.Gd
set_option maxRecDepth 100000
namespace Go.Proofs.YtiogceepjffmkaaGreatDoor.Gs
open Go.RowKit Go.Lib Go.Sort Com Mem YtiogceepjffmkaaGreatDoor.Os Tr Im Ag Pl Kd Ow YtiogceepjffmkaaGreatDoor.Nm C2
end Go.Proofs.YtiogceepjffmkaaGreatDoor.Gs
set_option maxRecDepth 100000
namespace Go.Proofs.YtiogceepjffmkaaGreatDoor.Gp
open Go.RowKit Go.Shelf Go.Lib Com Mem Tr Kd Gd
attribute [local go_sem] Oper.semAt_some
abbrev PT10 : TypeId := 108
abbrev SP10 : TypeId := 104
theorem infoP10 : (Tryz.prog.info? PT10).map (fun i => (i.zero, i.size, i.bytes)) = some (some (.agg #[.string .empty, .slice none 0 0]), 2, 40) := by kernel_rfl
def upto {α : Type} (f : Nat → α) (k : Nat) : List α := (List.range k).map f
theorem upto_succ {α : Type} (f : Nat → α) (k : Nat) : upto f (k + 1) = upto f k ++ [f k] := by simp [upto, List.range_succ]
theorem upto_length {α : Type} (f : Nat → α) (k : Nat) : (upto f k).length = k := by simp [upto]
def bkAt (ps : List Pt) (j : Nat) : Nat × Pt := (ps.length - 1 - j, ps[ps.length - 1 - j]?.getD ([], nil0))
theorem bk_all (ps : List Pt) : (upto (bkAt ps) ps.length).map (·.2) = ps.reverse := by
 apply List.ext_getElem
 ·simp [upto]
 ·intro i h1 h2
  have h3 : i < ps.length := by simpa using h2
  simp [upto, bkAt, List.getElem?_eq_getElem (show ps.length - 1 - i < ps.length by omega), List.getElem_reverse]
def Kp10 (gp Bs : Nat) (A B : World) : Prop := ∀ k, k = gp ∨ k = Bs → B.heap[k]? = A.heap[k]?
def PtsAt (W : World) (gp : Nat) (ps : List Pt) : Prop := ∀ j x, ps[j]? = some x → W.cell? ⟨gp, j * 2, none⟩ = some (sv x.1) ∧ W.cell? ⟨gp, j * 2 + 1, none⟩ = some (slv x.2)
theorem PtsAt.keep {W W' : World} {gp : Nat} {ps : List Pt} (h : PtsAt W gp ps) (hk : W'.heap[gp]? = W.heap[gp]?) : PtsAt W' gp ps := fun j x hx => by
 obtain ⟨h1, h2⟩ := h j x hx
 exact ⟨(World.cell?_of_block (a := ⟨gp, j * 2, none⟩) hk).trans h1, (World.cell?_of_block (a := ⟨gp, j * 2 + 1, none⟩) hk).trans h2⟩
set_option maxRecDepth 100000 in
theorem back1_in (F : Fence) (n : Nat) (hf : F.fn 142) (hro : F.round = none) (hn : 1 ≤ n) (l Bs gp cap : Nat) (ps : List Pt) (hps : ps.length ≤ 1000) (J Jx : List (Nat × Pt) → World → Prop)
  (hY : ∀ pre x W, J pre W → pre.length < ps.length → YieldAt F (n - 1) Tryz.prog l #[.int .i64 (x.1 : Int), .agg #[sv x.2.1, slv x.2.2]] W fun e W' =>
   (e = .returned (.bool true) ∧ J (pre ++ [x]) W' ∧ Kp10 gp Bs W W') ∨ (e = .returned (.bool false) ∧ Jx (pre ++ [x]) W'))
  (W : World) (hBs : Boxed W Bs SP10 (.slice (some ⟨gp, 0, none⟩) ps.length cap)) (hc : PtsAt W gp ps) (h0 : J [] W) :
  CallsIn F n Tryz.prog 142 #[.func (.yield l) #[] #[], .pointer (some ⟨Bs, 0, none⟩)] W fun e W' => (∃ v, e = .returned v) ∧
   ((∃ ys, ys = upto (bkAt ps) ps.length ∧ J ys W') ∨ (∃ pre, True ∧ Jx pre W')) := by
 refine callsIn_of_wp Tryz.func142 rfl hf ?_ hro
 simp only [Tryz.ntmps142, List.size_toArray, List.length_cons, List.length_nil, Nat.reduceAdd, Nat.reduceSub, Array.replicate_succ, Array.replicate_zero, List.push_toArray, List.append_toArray, List.nil_append, List.cons_append]
 generalize hN : ps.length = N at *
 have hx0 := hBs.cell
 have q0 : IntKind.i64.wrap ((N : Int) - 1) = (N : Int) - 1 := IntWalk.i64_in _ (by omega)
 gi_wp2
 gi_loopw [3] (fun i wr => ∃ m : Nat, m ≤ N ∧ i = .int .i64 ((m : Int) - 1) ∧ J (upto (bkAt ps) (N - m)) wr ∧ Kp10 gp Bs W wr)
  (fun i _ => (Go.RowKit.intOf i + 1).toNat)
 case atStart => exact ⟨N, Nat.le_refl _, rfl, by rw [Nat.sub_self]; exact h0, fun k _ => rfl⟩
 case round =>
  clear hx0 q0
  obtain ⟨m, hm, rfl, hJs, hk⟩ := hrel
  have hx0 : wr.cell? ⟨Bs, 0, none⟩ = some (.slice (some ⟨gp, 0, none⟩) N cap) := (World.cell?_of_block (a := ⟨Bs, 0, none⟩) (hk Bs (Or.inr rfl))).trans hBs.cell
  cases m with
  | zero =>
   have t1 : decide (0 ≤ ((0 : Nat) : Int) - 1) = false := decide_eq_false (by omega)
   gi_wp2
   go_end0
   exact ⟨⟨_, rfl⟩, .inl ⟨_, rfl, by rw [Nat.sub_zero] at hJs; exact hJs⟩⟩
  | succ j =>
   have hj : j < ps.length := by omega
   obtain ⟨x, hx⟩ : ∃ x, ps[j]? = some x := ⟨_, List.getElem?_eq_getElem hj⟩
   obtain ⟨c0, c1⟩ := (hc.keep (hk gp (Or.inl rfl))) j x hx
   have hbk : bkAt ps (N - (j + 1)) = (j, x) := by
    unfold bkAt
    rw [hN, show N - 1 - (N - (j + 1)) = j by omega, hx]; rfl
   have e1 : (((j + 1 : Nat) : Int)) - 1 = (j : Int) := by omega
   rw [e1]
   have hy0 := hY _ (j, x) wr hJs (by rw [upto_length]; omega)
   rw [← hbk, ← upto_succ, show N - (j + 1) + 1 = N - j by omega, hbk] at hy0
   obtain ⟨fn, tmps, assign, body, hy, hR⟩ := hy0
   dsimp only at hy
   have t1 : decide (0 ≤ (j : Int)) = true := decide_eq_true (by omega)
   have t2 : (j : Int) < (N : Int) := by omega
   have q0 : IntKind.i64.wrap ((j : Int) - 1) = (j : Int) - 1 := IntWalk.i64_in _ (by omega)
   gi_wp2
   refine hR.mono ?_
   rintro e W3 (⟨rfl, hJ3, hk3⟩ | ⟨rfl, hJx3⟩)
   ·gi_wp2
    go_roundw
    case rel => exact ⟨j, by omega, rfl, hJ3, fun k h => (hk3 k h).trans (hk k h)⟩
    case measure => simp [Go.RowKit.intOf]
   ·gi_wp2
    refine bodyPost_ret (results_none rfl _ _ _) rfl ?_
    exact ⟨⟨_, rfl⟩, .inr ⟨_, trivial, hJx3⟩⟩
theorem back_stops (F : Fence) (n : Nat) (hf : F.fn 142) (hro : F.round = none) (hn : 1 ≤ n) (Bs gp cap : Nat) (ps : List Pt) (hps : ps.length ≤ 1000) (w : World) (hBs : Boxed w Bs SP10 (.slice (some ⟨gp, 0, none⟩) ps.length cap)) (hg : gp < w.heap.size) (hc : PtsAt w gp ps) :
  SeqStopsK F n Tryz.prog 142 #[.pointer (some ⟨Bs, 0, none⟩)] (fun x : Nat × Pt => #[Value.int .i64 (x.1 : Int), .agg #[sv x.2.1, slv x.2.2]]) (Kp10 gp Bs) (fun ys => ys = upto (bkAt ps) ps.length) (fun _ => True) ps.length w := fun l J Jx W hW _ _ hY h0 =>
 back1_in F n hf hro hn l Bs gp cap ps hps J Jx hY W ((hW.block Bs hBs.lt).trans hBs) (hc.keep (hW.block gp hg)) h0
theorem back_in (F : Fence) (n : Nat) (h5 : F.fn 107) (hro : F.round = none) (a : Option Addr) (len cap : Nat) (w : World) :
  CallsIn F n Tryz.prog 107 #[.slice a len cap] w fun e w' => e = .returned (.func (.func 142) #[] #[.pointer (some ⟨w.heap.size, 0, none⟩)]) ∧ w' = w.alloc (.cells #[.slice a len cap] SP10) := by
 refine callsIn_of_wp Tryz.func107 rfl h5 ?_ hro
 simp only [Tryz.ntmps107, List.size_toArray, List.length_cons, List.length_nil, Nat.reduceAdd, Nat.reduceSub, Array.replicate_succ, Array.replicate_zero, List.push_toArray, List.append_toArray, List.nil_append, List.cons_append]
 gi_wp2
 go_ret
 exact ⟨rfl, rfl⟩
end Go.Proofs.YtiogceepjffmkaaGreatDoor.Gp
