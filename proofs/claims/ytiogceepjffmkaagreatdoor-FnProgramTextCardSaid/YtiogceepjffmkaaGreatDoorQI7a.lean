/- Chapter 7: the program's table of formatters; LevelOf. -/
import Derived.Deep.RegionHeld3
import Derived.Test.YtiogceepjffmkaaGreatDoorQNz8
import Derived.LaidHandle
import Derived.LaidLaws
import Derived.Stop.LaidErr
import Derived.Deep.DeepHandedRow
set_option maxHeartbeats 4000000
set_option maxRecDepth 100000
namespace Go.Proofs.YtiogceepjffmkaaGreatDoor.Tk
open Go.RowKit Go.Lib Go.Sort Num Com Mem YtiogceepjffmkaaGreatDoor.Os Tr Ik
abbrev FMT : TypeId := 245
abbrev MFT : TypeId := 246
abbrev fn2 (f g : Nat) : Value := .agg #[.func (Fn.func f) #[] #[], .func (Fn.func g) #[] #[]]
def fmtsL : List (Int × Value) := [(1, fn2 198 199), (2, fn2 198 200), (3, fn2 201 202), (4, fn2 203 204)]
theorem zeroF (w : World) : (zeroValue FMT).run Tryz.prog w = .ok (.agg #[.nilFunc, .nilFunc]) w := by kernel_rfl
theorem formatters_any (w : World) : Calls Tryz.prog 180 #[] w fun e w' => e = .returned (.map (some w.heap.size)) ∧ KMap w' w.heap.size fmtsL ∧ Below w.heap.size w w' := by
 have hmm := @run_makeMap Tryz.prog
 have H : KMap (w.alloc (.map #[] 0)) w.heap.size [] ∧ Below w.heap.size w (w.alloc (.map #[] 0)) := ⟨Im.IMap.new w, (Below.refl _ _).alloc (Nat.le_refl _) _⟩
 have H := hid H
 go_enter Tryz.func180, Tryz.ntmps180
 go_wp2_with (refine wpList_put rfl _ _ _ (Or.inl rfl) Tryz.underlying246 Tryz.underlying3 _ _ H.out.1 _ _ rfl rfl rfl (by kernel_rfl) ?_; intro w1 hs1 hg1 hz1; replace H := hid (And.intro hs1 (bgb H.out.2 hg1 H.out.2.size (Nat.le_refl _))); clear hs1 hg1 hz1)
 go_ret
 exact ⟨rfl, H.out.1, H.out.2⟩
theorem look_at {w : World} {b : Nat} (h : KMap w b fmtsL) (k : Int) (ok : Bool) : (Instr.lookup MFT (.map (some b)) (.int .i64 k) ok).run Tryz.prog w = .ok (if ok then .tuple #[(kget fmtsL k).getD (.agg #[.nilFunc, .nilFunc]), .bool (kget fmtsL k).isSome] else (kget fmtsL k).getD (.agg #[.nilFunc, .nilFunc])) w :=
 run_look h Tryz.underlying246 Tryz.underlying3 (zeroF w) ok
theorem kget_none {k : Int} (h1 : k ≠ 1) (h2 : k ≠ 2) (h3 : k ≠ 3) (h4 : k ≠ 4) : kget fmtsL k = none := by
 have e : ∀ a : Int, k ≠ a → (a == k) = false := fun a h => beq_false_of_ne (fun e => h e.symm)
 simp [kget, fmtsL, e _ h1, e _ h2, e _ h3, e _ h4]
theorem look1 {w : World} {b : Nat} (h : KMap w b fmtsL) : (Instr.lookup MFT (.map (some b)) (.int .i64 1) true).run Tryz.prog w = .ok (.tuple #[fn2 198 199, .bool true]) w ∧ (Instr.lookup MFT (.map (some b)) (.int .i64 1) false).run Tryz.prog w = .ok (fn2 198 199) w := ⟨look_at h 1 true, look_at h 1 false⟩
theorem look2 {w : World} {b : Nat} (h : KMap w b fmtsL) : (Instr.lookup MFT (.map (some b)) (.int .i64 2) true).run Tryz.prog w = .ok (.tuple #[fn2 198 200, .bool true]) w ∧ (Instr.lookup MFT (.map (some b)) (.int .i64 2) false).run Tryz.prog w = .ok (fn2 198 200) w := ⟨look_at h 2 true, look_at h 2 false⟩
theorem look3 {w : World} {b : Nat} (h : KMap w b fmtsL) : (Instr.lookup MFT (.map (some b)) (.int .i64 3) true).run Tryz.prog w = .ok (.tuple #[fn2 201 202, .bool true]) w ∧ (Instr.lookup MFT (.map (some b)) (.int .i64 3) false).run Tryz.prog w = .ok (fn2 201 202) w := ⟨look_at h 3 true, look_at h 3 false⟩
theorem look4 {w : World} {b : Nat} (h : KMap w b fmtsL) : (Instr.lookup MFT (.map (some b)) (.int .i64 4) true).run Tryz.prog w = .ok (.tuple #[fn2 203 204, .bool true]) w ∧ (Instr.lookup MFT (.map (some b)) (.int .i64 4) false).run Tryz.prog w = .ok (fn2 203 204) w := ⟨look_at h 4 true, look_at h 4 false⟩
theorem lookN {w : World} {b : Nat} (h : KMap w b fmtsL) {k : Int} (h1 : k ≠ 1) (h2 : k ≠ 2) (h3 : k ≠ 3) (h4 : k ≠ 4) : (Instr.lookup MFT (.map (some b)) (.int .i64 k) true).run Tryz.prog w = .ok (.tuple #[.agg #[.nilFunc, .nilFunc], .bool false]) w := by
 have := look_at h k true
 rw [kget_none h1 h2 h3 h4] at this
 exact this
theorem lv_atom (k n : Int) (s : List UInt8) (A : Option Addr) (l c : Nat) (w : World) : Calls Tryz.prog 198 #[nv k n s A l c] w fun e w' => e = .returned (.int .i64 7) ∧ Below w.heap.size w w' := by
 have hb1 := hid (box_below w (.cells #[.int .i64 k, .int .i64 n, sv s, .slice A l c] 58))
 go_enter Tryz.func198, Tryz.ntmps198
 go_wp2_with fail
 go_ret
 exact ⟨rfl, hb1.out⟩
theorem lv_not (k n : Int) (s : List UInt8) (A : Option Addr) (l c : Nat) (w : World) : Calls Tryz.prog 203 #[nv k n s A l c] w fun e w' => e = .returned (.int .i64 6) ∧ Below w.heap.size w w' := by
 have hb1 := hid (box_below w (.cells #[.int .i64 k, .int .i64 n, sv s, .slice A l c] 58))
 go_enter Tryz.func203, Tryz.ntmps203
 go_wp2_with fail
 go_ret
 exact ⟨rfl, hb1.out⟩
theorem lvl_no8 {n : Int} (h : n < 1 ∨ 8 < n) : lvl 3 n = 7 := lvl_no fun j h1 h2 => by
 have hj : j = 1 ∨ j = 2 ∨ j = 3 ∨ j = 4 ∨ j = 5 := by omega
 rcases hj with rfl | rfl | rfl | rfl | rfl <;> (simp only [opsOf, List.mem_cons, List.not_mem_nil, or_false]; omega)
theorem lv_op (n : Int) (k : Int) (s : List UInt8) (A : Option Addr) (l c : Nat) (w : World) : Calls Tryz.prog 201 #[nv k n s A l c] w fun e w' => e = .returned (.int .i64 (lvl 3 n : Nat)) ∧ Below w.heap.size w w' := by
 have hb1 := hid (box_below w (.cells #[.int .i64 k, .int .i64 n, sv s, .slice A l c] 58))
 by_cases h : 1 ≤ n ∧ n ≤ 8
 ·rcases C3.op_cases h.1 h.2 with rfl | rfl | rfl | rfl | rfl | rfl | rfl | rfl
  all_goals
   go_enter Tryz.func201, Tryz.ntmps201
   go_wp2_with fail
   go_ret
   exact ⟨rfl, hb1.out⟩
 ·have hf := hid (lvl_no8 (n := n) (by omega))
  have e1 : (n == 1) = false := beq_false_of_ne (by omega)
  have e2 : (n == 2) = false := beq_false_of_ne (by omega)
  have e3 : (n == 3) = false := beq_false_of_ne (by omega)
  have e4 : (n == 4) = false := beq_false_of_ne (by omega)
  have e5 : (n == 5) = false := beq_false_of_ne (by omega)
  have e6 : (n == 6) = false := beq_false_of_ne (by omega)
  have e7 : (n == 7) = false := beq_false_of_ne (by omega)
  have e8 : (n == 8) = false := beq_false_of_ne (by omega)
  clear h
  go_enter Tryz.func201, Tryz.ntmps201
  go_wp2_with fail
  go_ret
  exact ⟨by rw [hf.out]; rfl, hb1.out⟩
def lft (x : Int) : Int := if x = 3 then 4 else x
def rgt (x : Int) : Int := if x = 3 then 4 else x + 1
theorem lvs_operands (x : Int) (h0 : 0 ≤ x) (h1 : x ≤ 100) (w : World) : Calls Tryz.prog 216 #[.int .i64 x] w fun e w' => e = .returned (.tuple #[.int .i64 (lft x), .int .i64 (rgt x)]) ∧ w = w' := by
 by_cases h : x = 3
 ·subst h
  go_enter Tryz.func216, Tryz.ntmps216
  go_wp2_with fail
  go_ret2
  exact ⟨rfl, rfl⟩
 ·have e1 : (x == 3) = false := beq_false_of_ne h
  have e2 : IntKind.i64.wrap (x + 1) = x + 1 := IntWalk.i64_in _ (by omega)
  have hf := hid (show lft x = x by unfold lft; rw [if_neg h])
  have hg := hid (show rgt x = x + 1 by unfold rgt; rw [if_neg h])
  clear h
  go_enter Tryz.func216, Tryz.ntmps216
  go_wp2_with fail
  go_ret2
  exact ⟨by rw [hf.out, hg.out]; rfl, rfl⟩
theorem bl_alloc {w w1 w2 w3 : World} {o : Obj} (h1 : Below w.heap.size w w1) (h2 : Below w1.heap.size w1 w2) (h3 : Below (w2.alloc o).heap.size (w2.alloc o) w3) : Below w.heap.size w w3 := by
 have e := size_alloc' w2 o
 have h4 := ((Below.refl w2.heap.size w2).alloc (Nat.le_refl _) o).trans (h3.mono (by omega))
 have h5 := h2.trans (h4.mono h2.size)
 exact h1.trans (h5.mono h1.size)
theorem bl_set {w w1 w2 w3 : World} {a b : Addr} {x y : Value} (h1 : Below w.heap.size w w1) (h2 : Below w1.heap.size w1 w2) (ha : w1.heap.size ≤ a.block) (hb : w1.heap.size ≤ b.block) (h3 : Below ((w2.setCell a x).setCell b y).heap.size ((w2.setCell a x).setCell b y) w3) : Below w.heap.size w w3 := by
 have h4 := (h2.setCell ha x).setCell hb y
 have h5 := h4.trans (h3.mono h4.size)
 exact h1.trans (h5.mono h1.size)
abbrev Finds (k : Int) (v : Value) (ok : Bool) : Prop := ∀ (b : Nat) (wx : World), KMap wx b fmtsL → (Instr.lookup MFT (.map (some b)) (.int .i64 k) true).run Tryz.prog wx = .ok (.tuple #[v, .bool ok]) wx
theorem level_by (k n : Int) (s : List UInt8) (A : Option Addr) (l c : Nat) (w : World) (F G : FuncId) (m : Int) (hcf : ∀ args w, (callFunc F args).run Tryz.prog w = .ok (.enter F args) w) (hl : Finds k (fn2 F G) true)
  (hF : ∀ w, Calls Tryz.prog F #[nv k n s A l c] w fun e w' => e = .returned (.int .i64 m) ∧ Below w.heap.size w w') : Calls Tryz.prog 217 #[nv k n s A l c] w fun e w' => e = .returned (.int .i64 m) ∧ Below w.heap.size w w' := by
 have hb1 := hid (box_below w (.cells #[.int .i64 k, .int .i64 n, sv s, .slice A l c] 58))
 have hblk := hid (box_blk w k n s A l c 58)
 have hfm := hid (fun w => formatters_any w)
 have hF := hid hF
 have hl := hid hl
 go_enter Tryz.func217, Tryz.ntmps217
 go_wp2_with fail
 generalize (w.alloc (.cells #[.int .i64 k, .int .i64 n, sv s, .slice A l c] 58)) = w1 at *
 obtain ⟨k0, k1, k2, k3⟩ := four hblk.out
 have d1 : w.heap.size ≠ w1.heap.size := by have := hblk.out.lt; omega
 have d1' : w1.heap.size ≠ w.heap.size := by have := hblk.out.lt; omega
 go_region_held3 (fun w' => w'.cell? ⟨w.heap.size, 0, none⟩ = some (.int .i64 k) ∧ w'.cell? ⟨w.heap.size, 1, none⟩ = some (.int .i64 n) ∧ w'.cell? ⟨w.heap.size, 2, none⟩ = some (sv s) ∧ w'.cell? ⟨w.heap.size, 3, none⟩ = some (.slice A l c)) (first | (exact q1) | go_keep)
  (first
   | (go_at_call 180; refine (hfm.out _).mono ?_; rintro e w2 ⟨rfl, hk, hb⟩; have hlk := hl.out w1.heap.size w2 hk; have hlk2 := fun o => hl.out w1.heap.size (w2.alloc o) (KMap.alloc hk o); have B2 := hid ((Below.refl w1.heap.size w1).drew.trans hb); have bx := hid (hblk.out.below B2.out hblk.out.lt); have d2 : w.heap.size ≠ w2.heap.size := (by have := B2.out.size; have := hblk.out.lt; omega); have q1 := four bx.out; clear hb)
   | (go_at_call 180; refine (hfm.out _).mono ?_; rintro e w2 ⟨rfl, hk, hb⟩; have hk' : KMap w2 (w1.heap.size + 1) fmtsL := (size_alloc' w1 (.cells #[.nilFunc, .nilFunc] FMT)) ▸ hk; have hlk := hl.out _ w2 hk'; have B2 := hid ((((Below.refl w1.heap.size w1).alloc (Nat.le_refl _) (.cells #[.nilFunc, .nilFunc] FMT)).drew).trans (hb.mono (by show _ ≤ (w1.alloc _).heap.size; rw [size_alloc']; omega))); have bx := hid (hblk.out.below B2.out hblk.out.lt); have nb := hid ((Blk.new w1 FMT [.nilFunc, .nilFunc]).below ((Below.refl _ _).drew.trans hb) (by show _ < (w1.alloc _).heap.size; rw [size_alloc']; omega)); have d2 : w.heap.size ≠ w2.heap.size := (by have := B2.out.size; have := hblk.out.lt; omega); have q1 := four bx.out; have n0 := nb.out.cell 0; have n1 := nb.out.cell 1; have nf := nb.out.frozen; clear hb))
 all_goals
  obtain ⟨q10, q11, q12, q13⟩ := q1
  replace hk := hid hk
  go_wp2_with fail
  refine (hF.out _).mono ?_
  rintro e w3 ⟨rfl, hb3⟩
  have hB : Below w.heap.size w w3 := by first | exact bl_alloc hb1.out B2.out hb3 | exact bl_set hb1.out B2.out (Nat.le_refl _) (Nat.le_refl _) hb3
  have hB := hid hB
  clear hb3 q10 q11 q12 q13
  go_wp2_with fail
  go_ret
  exact ⟨rfl, hB.out⟩
theorem level_none (k n : Int) (s : List UInt8) (A : Option Addr) (l c : Nat) (w : World) (hl : Finds k (.agg #[.nilFunc, .nilFunc]) false) : Calls Tryz.prog 217 #[nv k n s A l c] w fun e w' => e = .returned (.int .i64 7) ∧ Below w.heap.size w w' := by
 have hb1 := hid (box_below w (.cells #[.int .i64 k, .int .i64 n, sv s, .slice A l c] 58))
 have hblk := hid (box_blk w k n s A l c 58)
 have hfm := hid (fun w => formatters_any w)
 have hl := hid hl
 go_enter Tryz.func217, Tryz.ntmps217
 go_wp2_with fail
 generalize (w.alloc (.cells #[.int .i64 k, .int .i64 n, sv s, .slice A l c] 58)) = w1 at *
 obtain ⟨k0, k1, k2, k3⟩ := four hblk.out
 have d1 : w.heap.size ≠ w1.heap.size := by have := hblk.out.lt; omega
 have d1' : w1.heap.size ≠ w.heap.size := by have := hblk.out.lt; omega
 go_region_held3 (fun w' => w'.cell? ⟨w.heap.size, 0, none⟩ = some (.int .i64 k)) (first | (exact q1) | go_keep)
  (first
   | (go_at_call 180; refine (hfm.out _).mono ?_; rintro e w2 ⟨rfl, hk, hb⟩; have hlk := hl.out w1.heap.size w2 hk; have hlk2 := fun o => hl.out w1.heap.size (w2.alloc o) (KMap.alloc hk o); have B2 := hid ((Below.refl w1.heap.size w1).drew.trans hb); have bx := hid (hblk.out.below B2.out hblk.out.lt); have d2 : w.heap.size ≠ w2.heap.size := (by have := B2.out.size; have := hblk.out.lt; omega); have q1 := (four bx.out).1; clear hb)
   | (go_at_call 180; refine (hfm.out _).mono ?_; rintro e w2 ⟨rfl, hk, hb⟩; have hk' : KMap w2 (w1.heap.size + 1) fmtsL := (size_alloc' w1 (.cells #[.nilFunc, .nilFunc] FMT)) ▸ hk; have hlk := hl.out _ w2 hk'; have B2 := hid ((((Below.refl w1.heap.size w1).alloc (Nat.le_refl _) (.cells #[.nilFunc, .nilFunc] FMT)).drew).trans (hb.mono (by show _ ≤ (w1.alloc _).heap.size; rw [size_alloc']; omega))); have bx := hid (hblk.out.below B2.out hblk.out.lt); have nb := hid ((Blk.new w1 FMT [.nilFunc, .nilFunc]).below ((Below.refl _ _).drew.trans hb) (by show _ < (w1.alloc _).heap.size; rw [size_alloc']; omega)); have d2 : w.heap.size ≠ w2.heap.size := (by have := B2.out.size; have := hblk.out.lt; omega); have q1 := (four bx.out).1; have n0 := nb.out.cell 0; have n1 := nb.out.cell 1; have nf := nb.out.frozen; clear hb))
 all_goals
  replace hk := hid hk
  go_wp2_with fail
  go_ret
  first | exact ⟨rfl, bl_alloc hb1.out B2.out (Below.refl _ _)⟩ | exact ⟨rfl, bl_set hb1.out B2.out (Nat.le_refl _) (Nat.le_refl _) (Below.refl _ _)⟩
theorem ilevel_any (k n : Int) (s : List UInt8) (A : Option Addr) (l c : Nat) (w : World) : Calls Tryz.prog 217 #[nv k n s A l c] w fun e w' => e = .returned (.int .i64 (lvl k n : Nat)) ∧ Below w.heap.size w w' := by
 by_cases h1 : k = 1
 ·subst h1; exact level_by 1 n s A l c w _ _ _ (fun _ _ => by kernel_rfl) (fun b wx h => (look1 h).1) (lv_atom 1 n s A l c)
 by_cases h2 : k = 2
 ·subst h2; exact level_by 2 n s A l c w _ _ _ (fun _ _ => by kernel_rfl) (fun b wx h => (look2 h).1) (lv_atom 2 n s A l c)
 by_cases h3 : k = 3
 ·subst h3; exact level_by 3 n s A l c w _ _ _ (fun _ _ => by kernel_rfl) (fun b wx h => (look3 h).1) (lv_op n 3 s A l c)
 by_cases h4 : k = 4
 ·subst h4; exact level_by 4 n s A l c w _ _ _ (fun _ _ => by kernel_rfl) (fun b wx h => (look4 h).1) (lv_not 4 n s A l c)
 have hf : lvl k n = 7 := lvl_oth h3 h4
 rw [hf]
 exact level_none k n s A l c w fun b wx h => lookN h h1 h2 h3 h4
def FvS (t : T) : Prop := ∀ (v : Value) (w : World), L1b.Pow w → allT t = true → (txtT7 t).length ≤ 1000000 → Ex w w.heap.size v t → Calls Tryz.prog 144 #[v] w fun e w' => e = .returned (sv (txtT7 t)) ∧ Below w.heap.size w w'
def FoS (t : T) (least : Nat) : Prop := ∀ (v : Value) (w : World), L1b.Pow w → allT t = true → (txtT7 t).length ≤ 1000000 → Ex w w.heap.size v t → Calls Tryz.prog 218 #[v, .int .i64 least] w fun e w' => e = .returned (sv (paren (txtT7 t) (decide (lvlT t < least)))) ∧ Below w.heap.size w w'
theorem operand_any (t : T) (h : FvS t) (least : Nat) : FoS t least := by
 intro v w hp hall hlen hv
 obtain ⟨k, n, s, ks⟩ := t
 obtain ⟨A, c, vs, rfl, hs, hl, hk⟩ := hv.kids
 have hb1 := box_below w (.cells #[.int .i64 k, .int .i64 n, sv s, .slice A ks.length c] 58)
 have hblk := hid (box_blk w k n s A ks.length c 58)
 have hcl := hid (h _ _ (hp.below hb1) hall hlen (hv.go hb1))
 replace hb1 := hid hb1
 have hlv := hid (fun w => ilevel_any k n s A ks.length c w)
 have hlt : decide (lvl k n < least) = decide (lvlT (.mk k n s ks) < least) := rfl
 generalize decide (lvlT (.mk k n s ks) < least) = q at *
 generalize txtT7 (.mk k n s ks) = x at *
 generalize ks.length = L at *
 clear hk hv hall h hl hp
 generalize lvl k n = lv at *
 have hbp := hid (bapp [40] x)
 have hbq := hid (bapp (40 :: x) [41])
 go_enter Tryz.func218, Tryz.ntmps218
 obtain ⟨k0, k1, k2, k3⟩ := four hblk.out
 go_wp2_with fail
 generalize (w.alloc (.cells #[.int .i64 k, .int .i64 n, sv s, .slice A L c] 58)) = w1 at *
 refine hcl.out.mono ?_
 rintro e w2 ⟨rfl, hb⟩
 have hblk2 := hblk.out.below hb hblk.out.lt
 replace hb := hid (hb1.out.trans (hb.mono hb1.out.size))
 clear k0 k1 k2 k3
 obtain ⟨k0, k1, k2, k3⟩ := four hblk2
 clear hcl hblk2
 go_wp2_with fail
 refine (hlv.out w2).mono ?_
 rintro e w3 ⟨rfl, hb3⟩
 replace hb3 := hid (hb.out.trans (hb3.mono hb.out.size))
 clear k0 k1 k2 k3
 cases q
 ·go_wp2_with fail
  go_ret
  exact ⟨rfl, hb3.out⟩
 ·go_wp2_with fail
  go_ret
  refine ⟨?_, hb3.out⟩
  show Ending.returned (.string (_ ++ _ ++ _)) = _
  rw [hbp.out]
  show Ending.returned (.string (⟨(40 :: x).toArray⟩ ++ _)) = _
  rw [hbq.out]; rfl
theorem fconst (n : Int) (s : List UInt8) (A : Option Addr) (l c : Nat) (w : World) (hp : L1b.Pow w) (hn : 0 ≤ n ∧ n < 4) : Calls Tryz.prog 199 #[nv 1 n s A l c] w fun e w' => e = .returned (sv (itoa n)) ∧ Below w.heap.size w w' := by
 have hb1 := box_below w (.cells #[.int .i64 1, .int .i64 n, sv s, .slice A l c] 58)
 have hf := hid (L1b.implFormat n (by omega) (by omega) _ (hp.below hb1))
 replace hb1 := hid hb1
 clear hp
 go_enter Tryz.func199, Tryz.ntmps199
 go_wp2_with fail
 refine hf.out.mono ?_
 rintro e w2 ⟨rfl, hb⟩
 replace hb := hid (hb1.out.trans (hb.mono hb1.out.size))
 go_wp2_with fail
 go_ret
 exact ⟨rfl, hb.out⟩
theorem fvar (n : Int) (s : List UInt8) (A : Option Addr) (l c : Nat) (w : World) : Calls Tryz.prog 200 #[nv 2 n s A l c] w fun e w' => e = .returned (sv s) ∧ Below w.heap.size w w' := by
 have hb1 := hid (box_below w (.cells #[.int .i64 2, .int .i64 n, sv s, .slice A l c] 58))
 go_enter Tryz.func200, Tryz.ntmps200
 go_wp2_with fail
 go_ret
 exact ⟨rfl, hb1.out⟩
theorem fnot (n : Int) (s : List UInt8) (a : T) (iha : FoS a 6) (ha : allT a = true) (hlen : (txtT7 (.mk 4 n s [a])).length ≤ 1000000) (A : Option Addr) (c : Nat) (vs : Nat → Value) (w : World) (hp : L1b.Pow w) (hk : Tr.Kids w w.heap.size A [a] vs) : Calls Tryz.prog 204 #[nv 4 n s A 1 c] w fun e w' => e = .returned (sv (txtT7 (.mk 4 n s [a]))) ∧ Below w.heap.size w w' := by
 have hb1 := box_below w (.cells #[.int .i64 4, .int .i64 n, sv s, .slice A 1 c] 58)
 have hk1 := hk.go hb1
 have hp1 := hp.below hb1
 replace hb1 := hid hb1
 obtain ⟨ad, hA, _, c0, c1, c2, c3, e0, k0, k1, k2, k3⟩ := hk1.cell 0 (by simp)
 subst hA
 have x0 := hk1.kid 0 a rfl
 rw [e0] at x0
 have p0 : (w.alloc (.cells #[.int .i64 4, .int .i64 n, sv s, .slice (some ad) 1 c] 58)).cell? ad = some c0 := k0
 have p1 : (w.alloc (.cells #[.int .i64 4, .int .i64 n, sv s, .slice (some ad) 1 c] 58)).cell? ⟨ad.block, ad.off + 1, none⟩ = some c1 := k1
 have p2 : (w.alloc (.cells #[.int .i64 4, .int .i64 n, sv s, .slice (some ad) 1 c] 58)).cell? ⟨ad.block, ad.off + 2, none⟩ = some c2 := k2
 have p3 : (w.alloc (.cells #[.int .i64 4, .int .i64 n, sv s, .slice (some ad) 1 c] 58)).cell? ⟨ad.block, ad.off + 3, none⟩ = some c3 := k3
 rw [txt7_4] at hlen ⊢
 have hpl := paren_len (txtT7 a) (decide (lvlT a < 6))
 rw [List.length_cons] at hlen
 have hcl := hid (iha _ _ hp1 ha (by omega) x0)
 replace hpl := hid hpl
 generalize paren (txtT7 a) (decide (lvlT a < 6)) = x at *
 have hbp := hid (bapp [33] x)
 clear hk e0 x0 k0 k1 k2 k3 hk1 hp hp1
 go_enter Tryz.func204, Tryz.ntmps204
 go_wp2_with fail
 refine hcl.out.mono ?_
 rintro e w2 ⟨rfl, hb2⟩
 replace hb2 := hid (hb1.out.trans (hb2.mono hb1.out.size))
 clear hcl p0 p1 p2 p3
 go_wp2_with fail
 go_ret
 refine ⟨?_, hb2.out⟩
 show Ending.returned (.string (_ ++ _)) = _
 rw [hbp.out]; rfl
end Go.Proofs.YtiogceepjffmkaaGreatDoor.Tk
set_option maxRecDepth 100000
namespace Go.Proofs.YtiogceepjffmkaaGreatDoor.La
open Go.ChangeShapes Go.WideShapes Go.ChangeAt Go.RowKit Go.Proofs.YtiogceepjffmkaaGreatDoor Close
abbrev NVN : String := "loop.example/g00514/impl.errNotValid"
theorem et : Tryz.prog.globalNamed "errors.errorType" = some 1 := by kernel_rfl
theorem nvg : Tryz.prog.globalNamed NVN = some 0 := by kernel_rfl
theorem nvType : (Tryz.prog.globals[0]?).map (·.type) = some 93 := by kernel_rfl
theorem rt : (Tryz.prog.cutTypes.find? (·.1 == "internal/reflectlite.rtype")).map (·.2) = some As.RT := by kernel_rfl
theorem oneRow : ((List.range 462).filter fun t => Tryz.prog.rowNamed t [101, 114, 114, 111, 114]) = [93] := by kernel_rfl
theorem size : Tryz.prog.types.size ≤ 462 := of_decide_eq_true (by kernel_rfl)
theorem cellsES : Tryz.prog.cellsOf 352 = 1 := by kernel_rfl
theorem star : "*" ++ "errors.errorString" = "*errors.errorString" := by decide
theorem rowES (u : TypeId) (h : Tryz.prog.typeName? 3 u = some "*errors.errorString") : u = 333 :=
 typeName_ptr_named (nm := "errors.errorString") (by rw [star]; kernel_rfl) (by kernel_rfl) (by decide) u (by rw [star]; exact h)
abbrev DD : List (String × DataW Unit) := [("math/bits.deBruijn32tab", Rows.laid_math_bits_deBruijn32tab), ("math/bits.deBruijn64tab", Rows.laid_math_bits_deBruijn64tab), ("internal/strconv.uint64pow10", Rows.laid_internal_strconv_uint64pow10), (NVN, Rows.laid_loop_example_g00514_impl_errNotValid)]
abbrev LL : List (String × DataW Unit) := [("math/bits.deBruijn32tab", Rows.laid_math_bits_deBruijn32tab), ("math/bits.deBruijn64tab", Rows.laid_math_bits_deBruijn64tab), ("internal/strconv.uint64pow10", Rows.laid_internal_strconv_uint64pow10), ("errors.errorType", Rows.laid_errors_errorType), (NVN, Rows.laid_loop_example_g00514_impl_errNotValid)]
theorem split {W : World} (h : laidMetH Tryz.prog LL W) : laidMet Tryz.prog DD W ∧ handlesMet Tryz.prog [("errors.errorType", Rows.laid_errors_errorType)] W := h
theorem pow_of_laid {W : World} (h : laidMetH Tryz.prog LL W) : L1b.Pow W :=
 Lib.tabIs_of_head (rest := [(NVN, Rows.laid_loop_example_g00514_impl_errNotValid)]) (g := 3) (t := 329) (e := 313) (n := 20) (by kernel_rfl) (by kernel_rfl) Tryz.underlying329 Tryz.underlying313 (by kernel_rfl) (by kernel_rfl) (L1b.met_tail (L1b.met_tail (split h).1))
theorem handle_of_laid {W : World} (h : laidMetH Tryz.prog LL W) : As.Handle W := by
 obtain ⟨name, u, ty, e1, e2, e3, e4, e5⟩ := (split h).2 _ (List.mem_singleton.2 rfl)
 have en : name = [101, 114, 114, 111, 114] := (Option.some.inj e1).symm
 subst en
 obtain rfl := Option.some.inj (rt.symm.trans e2)
 have hm : ty ∈ (List.range 462).filter fun t => Tryz.prog.rowNamed t [101, 114, 114, 111, 114] := List.mem_filter.2 ⟨List.mem_range.2 (Nat.lt_of_lt_of_le e3 size), e4⟩
 rw [oneRow] at hm
 obtain rfl := List.mem_singleton.1 hm
 have hh : typeHandle Tryz.prog 93 = .pointer (some ⟨As.HB, As.ERR, none⟩) := by kernel_rfl
 rw [hh] at e5
 unfold As.Handle
 simpa using World.var?_cell et e5 0
theorem var_of_laid {W : World} (h : laidMetH Tryz.prog LL W) : ∃ a : Addr, W.var? Tryz.prog NVN = some #[.iface 333 (.pointer (some a))] := by
 obtain ⟨a, s, hv, _, _, _⟩ := laid_sentinel (L1b.met_tail (L1b.met_tail (L1b.met_tail (split h).1))) nvg nvType Tryz.underlying93 rowES Tryz.underlying333 Tryz.underlying352 rfl rfl Tryz.underlying9 cellsES cellsStr
 exact ⟨a, hv⟩
theorem notv_of_var {W : World} {a : Addr} (h : W.var? Tryz.prog NVN = some #[.iface 333 (.pointer (some a))]) : Tk.NotV W := ⟨some a, by simpa using World.var?_cell nvg h 0⟩
theorem var_below {W W' : World} {n : String} {cs : Array Value} (h : W.var? Tryz.prog n = some cs) (hb : Below W.heap.size W W') : W'.var? Tryz.prog n = some cs := by
 unfold World.var? at h ⊢
 cases hg : Tryz.prog.globalNamed n with
 | none => simp [hg] at h
 | some g =>
  simp only [hg, Option.bind_some] at h ⊢
  have hlt : g < W.heap.size := by
   rcases Nat.lt_or_ge g W.heap.size with h' | h'
   ·exact h'
   ·simp [Array.getElem?_eq_none h'] at h
  rw [hb.block g hlt]
  exact h
theorem law_post1 {H : Type} {enc : TypeId × Value → H} {f : Func} {s : ChangeSpec} {W W' : World} {args : Array Value} {ds : List (DataW H)} {before : List MemPlace} {tb : TypeId} {x : Value}
  (hr : ∀ t ∈ f.params.toList, Tryz.prog.readableRec t = true ∧ t < Tryz.prog.types.size)
  (hW : DataW.Whole enc Tryz.prog f.params.toList s.vars false W args.toList ds [tok enc x] before) (hv : s.vars = [NVN]) (hrt : f.resultTypes = #[tb]) (hbool : Tryz.prog.underlying tb = some .bool)
  (hx : W.var? Tryz.prog NVN = some #[x]) (ix : IsIface x)
  (e1 : (s.fn H (ds ++ [tok enc x])).results = [.lit (.bool true)]) (e2 : (s.fn H (ds ++ [tok enc x])).args = ds) (e3 : (s.fn H (ds ++ [tok enc x])).vars = [tok enc x]) (hb : Below W.heap.size W W') :
  s.post enc Tryz.prog f false true false false W args (.bool true) W' := by
 have hlt : ∀ x ∈ before, x.block < W.heap.size := fun x hx => hW.lt x hx
 obtain ⟨p, q, hA, hV, hpq, _, _⟩ := id hW
 refine ⟨ds, [tok enc x], before, [], p, [.cell 0 0], hW, ?_, ?_, ?_, hb.frame _, fun h => by cases h⟩
 ·rw [e1, hrt]
  exact trodAll_mk1 (shut_bool hbool _)
 ·rw [e2]
  exact trodAll_below laidOut hb hr hA (fun x hx => hlt x (by rw [hpq]; exact List.mem_append_left _ hx))
 ·rw [e3, hv]
  exact vars_read1 enc nvg nvType Tryz.underlying93 (var_below hx hb) ix _
noncomputable def low : Nat := (World.holding Tryz.prog default ⟨#[], #[], []⟩).heap.size
abbrev text : ByteArray := { data := #[116, 104, 101, 32, 115, 121, 110, 116, 97, 120, 32, 105, 115, 32, 114, 105, 103, 104, 116, 44, 32, 98, 117, 116, 32, 116, 104, 101, 32, 114, 101, 115, 117, 108, 116, 32, 105, 115, 32, 110, 111, 116, 32, 118, 97, 108, 105, 100] }
def f0 : DataW Unit → List Value
 | .lit (.int k n) => [.int k n]
 | _ => []
def f1 : DataW Unit → List Value
 | .agg l => l.flatMap f0
 | d => f0 d
def lay (h : Array Obj) (x : Nat × DataW Unit) : Array Obj := h.modify x.1 fun
 | .cells _ t frozen => .cells (f1 x.2).toArray t frozen
 | o => o
noncomputable def laidWorld (os : Os) : World :=
 let w0 := World.holding Tryz.prog os ⟨#[.cells #[.string text] 352], #[], []⟩
 let h1 := [(4, Rows.laid_math_bits_deBruijn32tab), (5, Rows.laid_math_bits_deBruijn64tab), (3, Rows.laid_internal_strconv_uint64pow10)].foldl lay w0.heap
 { w0 with heap := (h1.modify 0 fun
   | .cells _ t frozen => .cells #[.iface 333 (.pointer (some ⟨low, 0, none⟩))] t frozen
   | o => o).modify 1 fun
   | .cells _ t frozen => .cells #[.iface 250 (.agg #[.pointer (some ⟨As.HB, As.ERR, none⟩)])] t frozen
   | o => o }
end Go.Proofs.YtiogceepjffmkaaGreatDoor.La
