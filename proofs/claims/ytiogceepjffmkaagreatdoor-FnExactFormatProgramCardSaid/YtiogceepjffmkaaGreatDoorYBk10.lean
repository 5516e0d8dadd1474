/- The program's appendBackward: a range over slices.Backward. -/
import Derived.Test.YtiogceepjffmkaaGreatDoorYTz8
import Derived.RangeFuncNested
import Derived.RangeFuncBound
import Derived.RangeFuncCalls
import Derived.RangeFuncLeaves
import Derived.RangeFuncBox
import Derived.Shelf.Abstract
import Derived.Shelf.RegionOpen
import Derived.OwnWalkIn
import Derived.TacticsInMore
import Derived.LoopNIn
import Derived.LoopIn
import Derived.Maps.OwnIn
import Derived.Maps.AppendAt
import Derived.Test.YtiogceepjffmkaaGreatDoorYC3b
import Derived.Deep.RegionHeld3
set_option maxHeartbeats 4000000
set_option maxRecDepth 100000
namespace Go.Proofs.YtiogceepjffmkaaGreatDoor.Gp
open Go.RowKit Go.Shelf Go.Lib Com Mem Tr Kd Gd
attribute [local go_sem] Oper.semAt_some
abbrev PT10 : TypeId := 108
abbrev SP10 : TypeId := 104
theorem infoP10 : (Tryz.prog.info? PT10).map (fun i => (i.zero, i.size, i.bytes)) = some (some (.agg #[.string .empty, .slice none 0 0]), 2, 40) := by kernel_rfl
def upto {α : Type} (f : Nat → α) (k : Nat) : List α := (List.range k).map f
theorem upto_succ {α : Type} (f : Nat → α) (k : Nat) : upto f (k + 1) = upto f k ++ [f k] := by simp [upto, List.range_succ]
theorem upto_length {α : Type} (f : Nat → α) (k : Nat) : (upto f k).length = k := by simp [upto]
def bkAt (ps : List Pt) (j : Nat) : Nat × Pt := (ps.length - 1 - j, ps[ps.length - 1 - j]?.getD ([], nil0))
theorem bk_all (ps : List Pt) : (upto (bkAt ps) ps.length).map (·.2) = ps.reverse := by
  apply List.ext_getElem
  · simp [upto]
  · intro i h1 h2
    have h3 : i < ps.length := by simpa using h2
    simp [upto, bkAt, List.getElem?_eq_getElem (show ps.length - 1 - i < ps.length by omega), List.getElem_reverse]
def Kp10 (gp Bs : Nat) (A B : World) : Prop := ∀ k, k = gp ∨ k = Bs → B.heap[k]? = A.heap[k]?
def PtsAt (W : World) (gp : Nat) (ps : List Pt) : Prop := ∀ j x, ps[j]? = some x → W.cell? ⟨gp, j * 2, none⟩ = some (sv x.1) ∧ W.cell? ⟨gp, j * 2 + 1, none⟩ = some (slv x.2)
theorem PtsAt.keep {W W' : World} {gp : Nat} {ps : List Pt} (h : PtsAt W gp ps) (hk : W'.heap[gp]? = W.heap[gp]?) : PtsAt W' gp ps := fun j x hx => by
  obtain ⟨h1, h2⟩ := h j x hx
  exact ⟨(World.cell?_of_block (a := ⟨gp, j * 2, none⟩) hk).trans h1, (World.cell?_of_block (a := ⟨gp, j * 2 + 1, none⟩) hk).trans h2⟩
set_option maxRecDepth 100000 in
theorem back1_in (F : Fence) (n : Nat) (hf : F.fn 142) (hro : F.round = none) (hn : 1 ≤ n) (l Bs gp cap : Nat) (ps : List Pt) (hps : ps.length ≤ 1000) (J Jx : List (Nat × Pt) → World → Prop)
    (hY : ∀ pre x W, J pre W → pre.length < ps.length → YieldAt F (n - 1) Tryz.prog l #[.int .i64 (x.1 : Int), .agg #[sv x.2.1, slv x.2.2]] W fun e W' =>
      (e = .returned (.bool true) ∧ J (pre ++ [x]) W' ∧ Kp10 gp Bs W W') ∨ (e = .returned (.bool false) ∧ Jx (pre ++ [x]) W'))
    (W : World) (hBs : Boxed W Bs SP10 (.slice (some ⟨gp, 0, none⟩) ps.length cap)) (hc : PtsAt W gp ps) (h0 : J [] W) :
    CallsIn F n Tryz.prog 142 #[.func (.yield l) #[] #[], .pointer (some ⟨Bs, 0, none⟩)] W fun e W' => (∃ v, e = .returned v) ∧
      ((∃ ys, ys = upto (bkAt ps) ps.length ∧ J ys W') ∨ (∃ pre, True ∧ Jx pre W')) := by
  refine callsIn_of_wp Tryz.func142 rfl hf ?_ hro
  simp only [Tryz.ntmps142, List.size_toArray, List.length_cons, List.length_nil, Nat.reduceAdd, Nat.reduceSub, Array.replicate_succ, Array.replicate_zero, List.push_toArray, List.append_toArray, List.nil_append, List.cons_append]
  generalize hN : ps.length = N at *
  have hx0 := hBs.cell
  have q0 : IntKind.i64.wrap ((N : Int) - 1) = (N : Int) - 1 := IntWalk.i64_in _ (by omega)
  gi_wp2
  gi_loopw [3] (fun i wr => ∃ m : Nat, m ≤ N ∧ i = .int .i64 ((m : Int) - 1) ∧ J (upto (bkAt ps) (N - m)) wr ∧ Kp10 gp Bs W wr)
    (fun i _ => (Go.RowKit.intOf i + 1).toNat)
  case atStart => exact ⟨N, Nat.le_refl _, rfl, by rw [Nat.sub_self]; exact h0, fun k _ => rfl⟩
  case round =>
    clear hx0 q0
    obtain ⟨m, hm, rfl, hJs, hk⟩ := hrel
    have hx0 : wr.cell? ⟨Bs, 0, none⟩ = some (.slice (some ⟨gp, 0, none⟩) N cap) := (World.cell?_of_block (a := ⟨Bs, 0, none⟩) (hk Bs (Or.inr rfl))).trans hBs.cell
    cases m with
    | zero =>
      have t1 : decide (0 ≤ ((0 : Nat) : Int) - 1) = false := decide_eq_false (by omega)
      gi_wp2
      go_end0
      exact ⟨⟨_, rfl⟩, .inl ⟨_, rfl, by rw [Nat.sub_zero] at hJs; exact hJs⟩⟩
    | succ j =>
      have hj : j < ps.length := by omega
      obtain ⟨x, hx⟩ : ∃ x, ps[j]? = some x := ⟨_, List.getElem?_eq_getElem hj⟩
      obtain ⟨c0, c1⟩ := (hc.keep (hk gp (Or.inl rfl))) j x hx
      have hbk : bkAt ps (N - (j + 1)) = (j, x) := by
        unfold bkAt
        rw [hN, show N - 1 - (N - (j + 1)) = j by omega, hx]; rfl
      have e1 : (((j + 1 : Nat) : Int)) - 1 = (j : Int) := by omega
      rw [e1]
      have hy0 := hY _ (j, x) wr hJs (by rw [upto_length]; omega)
      rw [← hbk, ← upto_succ, show N - (j + 1) + 1 = N - j by omega, hbk] at hy0
      obtain ⟨fn, tmps, assign, body, hy, hR⟩ := hy0
      dsimp only at hy
      have t1 : decide (0 ≤ (j : Int)) = true := decide_eq_true (by omega)
      have t2 : (j : Int) < (N : Int) := by omega
      have q0 : IntKind.i64.wrap ((j : Int) - 1) = (j : Int) - 1 := IntWalk.i64_in _ (by omega)
      gi_wp2
      refine hR.mono ?_
      rintro e W3 (⟨rfl, hJ3, hk3⟩ | ⟨rfl, hJx3⟩)
      · gi_wp2
        go_roundw
        case rel => exact ⟨j, by omega, rfl, hJ3, fun k h => (hk3 k h).trans (hk k h)⟩
        case measure => simp [Go.RowKit.intOf]
      · gi_wp2
        refine bodyPost_ret (results_none rfl _ _ _) rfl ?_
        exact ⟨⟨_, rfl⟩, .inr ⟨_, trivial, hJx3⟩⟩
theorem back_stops (F : Fence) (n : Nat) (hf : F.fn 142) (hro : F.round = none) (hn : 1 ≤ n) (Bs gp cap : Nat) (ps : List Pt) (hps : ps.length ≤ 1000) (w : World) (hBs : Boxed w Bs SP10 (.slice (some ⟨gp, 0, none⟩) ps.length cap)) (hg : gp < w.heap.size) (hc : PtsAt w gp ps) :
    SeqStopsK F n Tryz.prog 142 #[.pointer (some ⟨Bs, 0, none⟩)] (fun x : Nat × Pt => #[Value.int .i64 (x.1 : Int), .agg #[sv x.2.1, slv x.2.2]]) (Kp10 gp Bs) (fun ys => ys = upto (bkAt ps) ps.length) (fun _ => True) ps.length w := fun l J Jx W hW _ _ hY h0 =>
  back1_in F n hf hro hn l Bs gp cap ps hps J Jx hY W ((hW.block Bs hBs.lt).trans hBs) (hc.keep (hW.block gp hg)) h0
theorem back_in (F : Fence) (n : Nat) (h5 : F.fn 107) (hro : F.round = none) (a : Option Addr) (len cap : Nat) (w : World) :
    CallsIn F n Tryz.prog 107 #[.slice a len cap] w fun e w' => e = .returned (.func (.func 142) #[] #[.pointer (some ⟨w.heap.size, 0, none⟩)]) ∧ w' = w.alloc (.cells #[.slice a len cap] SP10) := by
  refine callsIn_of_wp Tryz.func107 rfl h5 ?_ hro
  simp only [Tryz.ntmps107, List.size_toArray, List.length_cons, List.length_nil, Nat.reduceAdd, Nat.reduceSub, Array.replicate_succ, Array.replicate_zero, List.push_toArray, List.append_toArray, List.nil_append, List.cons_append]
  gi_wp2
  go_ret
  exact ⟨rfl, rfl⟩
end Go.Proofs.YtiogceepjffmkaaGreatDoor.Gp
set_option maxRecDepth 100000
namespace Go.Proofs.YtiogceepjffmkaaGreatDoor.Tk
open Go.RowKit Go.Lib Go.Sort Num Com Mem YtiogceepjffmkaaGreatDoor.Os Tr Ik
abbrev FMT : TypeId := 245
abbrev MFT : TypeId := 246
abbrev fn2 (f g : Nat) : Value := .agg #[.func (Fn.func f) #[] #[], .func (Fn.func g) #[] #[]]
def fmtsL : List (Int × Value) := [(1, fn2 198 199), (2, fn2 198 200), (3, fn2 201 202), (4, fn2 203 204)]
theorem zeroF (w : World) : (zeroValue FMT).run Tryz.prog w = .ok (.agg #[.nilFunc, .nilFunc]) w := by kernel_rfl
theorem formatters_any (w : World) : Calls Tryz.prog 180 #[] w fun e w' => e = .returned (.map (some w.heap.size)) ∧ KMap w' w.heap.size fmtsL ∧ Below w.heap.size w w' := by
  have hmm := @run_makeMap Tryz.prog
  have H : KMap (w.alloc (.map #[] 0)) w.heap.size [] ∧ Below w.heap.size w (w.alloc (.map #[] 0)) := ⟨Im.IMap.new w, (Below.refl _ _).alloc (Nat.le_refl _) _⟩
  have H := hid H
  go_enter Tryz.func180, Tryz.ntmps180
  go_wp2_with (refine wpList_put rfl _ _ _ (Or.inl rfl) Tryz.underlying246 Tryz.underlying3 _ _ H.out.1 _ _ rfl rfl rfl (by kernel_rfl) ?_; intro w1 hs1 hg1 hz1; replace H := hid (And.intro hs1 (bgb H.out.2 hg1 H.out.2.size (Nat.le_refl _))); clear hs1 hg1 hz1)
  go_ret
  exact ⟨rfl, H.out.1, H.out.2⟩
theorem look_at {w : World} {b : Nat} (h : KMap w b fmtsL) (k : Int) (ok : Bool) : (Instr.lookup MFT (.map (some b)) (.int .i64 k) ok).run Tryz.prog w = .ok (if ok then .tuple #[(kget fmtsL k).getD (.agg #[.nilFunc, .nilFunc]), .bool (kget fmtsL k).isSome] else (kget fmtsL k).getD (.agg #[.nilFunc, .nilFunc])) w :=
  run_look h Tryz.underlying246 Tryz.underlying3 (zeroF w) ok
theorem kget_none {k : Int} (h1 : k ≠ 1) (h2 : k ≠ 2) (h3 : k ≠ 3) (h4 : k ≠ 4) : kget fmtsL k = none := by
  have e : ∀ a : Int, k ≠ a → (a == k) = false := fun a h => beq_false_of_ne (fun e => h e.symm)
  simp [kget, fmtsL, e _ h1, e _ h2, e _ h3, e _ h4]
theorem look1 {w : World} {b : Nat} (h : KMap w b fmtsL) : (Instr.lookup MFT (.map (some b)) (.int .i64 1) true).run Tryz.prog w = .ok (.tuple #[fn2 198 199, .bool true]) w ∧ (Instr.lookup MFT (.map (some b)) (.int .i64 1) false).run Tryz.prog w = .ok (fn2 198 199) w := ⟨look_at h 1 true, look_at h 1 false⟩
theorem look2 {w : World} {b : Nat} (h : KMap w b fmtsL) : (Instr.lookup MFT (.map (some b)) (.int .i64 2) true).run Tryz.prog w = .ok (.tuple #[fn2 198 200, .bool true]) w ∧ (Instr.lookup MFT (.map (some b)) (.int .i64 2) false).run Tryz.prog w = .ok (fn2 198 200) w := ⟨look_at h 2 true, look_at h 2 false⟩
theorem look3 {w : World} {b : Nat} (h : KMap w b fmtsL) : (Instr.lookup MFT (.map (some b)) (.int .i64 3) true).run Tryz.prog w = .ok (.tuple #[fn2 201 202, .bool true]) w ∧ (Instr.lookup MFT (.map (some b)) (.int .i64 3) false).run Tryz.prog w = .ok (fn2 201 202) w := ⟨look_at h 3 true, look_at h 3 false⟩
theorem look4 {w : World} {b : Nat} (h : KMap w b fmtsL) : (Instr.lookup MFT (.map (some b)) (.int .i64 4) true).run Tryz.prog w = .ok (.tuple #[fn2 203 204, .bool true]) w ∧ (Instr.lookup MFT (.map (some b)) (.int .i64 4) false).run Tryz.prog w = .ok (fn2 203 204) w := ⟨look_at h 4 true, look_at h 4 false⟩
theorem lookN {w : World} {b : Nat} (h : KMap w b fmtsL) {k : Int} (h1 : k ≠ 1) (h2 : k ≠ 2) (h3 : k ≠ 3) (h4 : k ≠ 4) : (Instr.lookup MFT (.map (some b)) (.int .i64 k) true).run Tryz.prog w = .ok (.tuple #[.agg #[.nilFunc, .nilFunc], .bool false]) w := by
  have := look_at h k true
  rw [kget_none h1 h2 h3 h4] at this
  exact this
theorem lv_atom (k n : Int) (s : List UInt8) (A : Option Addr) (l c : Nat) (w : World) : Calls Tryz.prog 198 #[nv k n s A l c] w fun e w' => e = .returned (.int .i64 7) ∧ Below w.heap.size w w' := by
  have hb1 := hid (box_below w (.cells #[.int .i64 k, .int .i64 n, sv s, .slice A l c] 58))
  go_enter Tryz.func198, Tryz.ntmps198
  go_wp2_with fail
  go_ret
  exact ⟨rfl, hb1.out⟩
theorem lv_not (k n : Int) (s : List UInt8) (A : Option Addr) (l c : Nat) (w : World) : Calls Tryz.prog 203 #[nv k n s A l c] w fun e w' => e = .returned (.int .i64 6) ∧ Below w.heap.size w w' := by
  have hb1 := hid (box_below w (.cells #[.int .i64 k, .int .i64 n, sv s, .slice A l c] 58))
  go_enter Tryz.func203, Tryz.ntmps203
  go_wp2_with fail
  go_ret
  exact ⟨rfl, hb1.out⟩
theorem lvl_no8 {n : Int} (h : n < 1 ∨ 8 < n) : lvl 3 n = 7 := lvl_no fun j h1 h2 => by
  have hj : j = 1 ∨ j = 2 ∨ j = 3 ∨ j = 4 ∨ j = 5 := by omega
  rcases hj with rfl | rfl | rfl | rfl | rfl <;> (simp only [opsOf, List.mem_cons, List.not_mem_nil, or_false]; omega)
theorem lv_op (n : Int) (k : Int) (s : List UInt8) (A : Option Addr) (l c : Nat) (w : World) : Calls Tryz.prog 201 #[nv k n s A l c] w fun e w' => e = .returned (.int .i64 (lvl 3 n : Nat)) ∧ Below w.heap.size w w' := by
  have hb1 := hid (box_below w (.cells #[.int .i64 k, .int .i64 n, sv s, .slice A l c] 58))
  by_cases h : 1 ≤ n ∧ n ≤ 8
  · rcases C3.op_cases h.1 h.2 with rfl | rfl | rfl | rfl | rfl | rfl | rfl | rfl
    all_goals
      go_enter Tryz.func201, Tryz.ntmps201
      go_wp2_with fail
      go_ret
      exact ⟨rfl, hb1.out⟩
  · have hf := hid (lvl_no8 (n := n) (by omega))
    have e1 : (n == 1) = false := beq_false_of_ne (by omega)
    have e2 : (n == 2) = false := beq_false_of_ne (by omega)
    have e3 : (n == 3) = false := beq_false_of_ne (by omega)
    have e4 : (n == 4) = false := beq_false_of_ne (by omega)
    have e5 : (n == 5) = false := beq_false_of_ne (by omega)
    have e6 : (n == 6) = false := beq_false_of_ne (by omega)
    have e7 : (n == 7) = false := beq_false_of_ne (by omega)
    have e8 : (n == 8) = false := beq_false_of_ne (by omega)
    clear h
    go_enter Tryz.func201, Tryz.ntmps201
    go_wp2_with fail
    go_ret
    exact ⟨by rw [hf.out]; rfl, hb1.out⟩
def lft (x : Int) : Int := if x = 3 then 4 else x
def rgt (x : Int) : Int := if x = 3 then 4 else x + 1
theorem lvs_operands (x : Int) (h0 : 0 ≤ x) (h1 : x ≤ 100) (w : World) : Calls Tryz.prog 216 #[.int .i64 x] w fun e w' => e = .returned (.tuple #[.int .i64 (lft x), .int .i64 (rgt x)]) ∧ w = w' := by
  by_cases h : x = 3
  · subst h
    go_enter Tryz.func216, Tryz.ntmps216
    go_wp2_with fail
    go_ret2
    exact ⟨rfl, rfl⟩
  · have e1 : (x == 3) = false := beq_false_of_ne h
    have e2 : IntKind.i64.wrap (x + 1) = x + 1 := IntWalk.i64_in _ (by omega)
    have hf := hid (show lft x = x by unfold lft; rw [if_neg h])
    have hg := hid (show rgt x = x + 1 by unfold rgt; rw [if_neg h])
    clear h
    go_enter Tryz.func216, Tryz.ntmps216
    go_wp2_with fail
    go_ret2
    exact ⟨by rw [hf.out, hg.out]; rfl, rfl⟩
end Go.Proofs.YtiogceepjffmkaaGreatDoor.Tk
