/- Chapter 7: the program's table of formatters; LevelOf. -/
import Derived.Test.YtklcbagddijkgaaGreatDoorZC1
import Derived.Test.YtklcbagddijkgaaGreatDoorZIm
import Derived.Test.YtklcbagddijkgaaGreatDoorZC3b
import Derived.Deep.RegionHeld3
set_option maxRecDepth 100000
namespace Go.Proofs.YtklcbagddijkgaaGreatDoor.Tk
open Go.RowKit Go.Lib Go.Sort Go.Proofs.YtklcbagddijkgaaGreatDoor.Num Go.Proofs.YtklcbagddijkgaaGreatDoor.Com Go.Proofs.YtklcbagddijkgaaGreatDoor.Mem Go.Proofs.YtklcbagddijkgaaGreatDoor.Os Go.Proofs.YtklcbagddijkgaaGreatDoor.Tr Go.Proofs.YtklcbagddijkgaaGreatDoor.Ik

abbrev FMT : TypeId := 116
abbrev MFT : TypeId := 117
abbrev fn2 (f g : Nat) : Value := .agg #[.func (Fn.func f) #[] #[], .func (Fn.func g) #[] #[]]
/-- the table -/
def fmtsL : List (Int × Value) := [(1, fn2 139 140), (2, fn2 139 141), (3, fn2 142 143), (4, fn2 144 145)]
theorem zeroF (w : World) : (zeroValue FMT).run Tryz.prog w = .ok (.agg #[.nilFunc, .nilFunc]) w := by kernel_rfl
set_option maxHeartbeats 1000000 in
theorem formatters_any (w : World) : Calls Tryz.prog 94 #[] w fun e w' => e = .returned (.map (some w.heap.size)) ∧ KMap w' w.heap.size fmtsL ∧ Below w.heap.size w w' := by
  have hmm := @run_makeMap Tryz.prog
  have H : KMap (w.alloc (.map #[] 0)) w.heap.size [] ∧ Below w.heap.size w (w.alloc (.map #[] 0)) := ⟨Im.IMap.new w, (Below.refl _ _).alloc (Nat.le_refl _) _⟩
  have H := hid H
  go_enter Tryz.func94, Tryz.ntmps94
  go_wp2_with (refine wpList_put rfl _ _ _ (Or.inl rfl) Tryz.underlying117 Tryz.underlying3 _ _ H.out.1 _ _ rfl rfl rfl (by kernel_rfl) ?_; intro w1 hs1 hg1 hz1; replace H := hid (And.intro hs1 (bgb H.out.2 hg1 H.out.2.size (Nat.le_refl _))); clear hs1 hg1 hz1)
  go_ret
  exact ⟨rfl, H.out.1, H.out.2⟩
theorem look_at {w : World} {b : Nat} (h : KMap w b fmtsL) (k : Int) (ok : Bool) : (Instr.lookup MFT (.map (some b)) (.int .i64 k) ok).run Tryz.prog w = .ok (if ok then .tuple #[(kget fmtsL k).getD (.agg #[.nilFunc, .nilFunc]), .bool (kget fmtsL k).isSome] else (kget fmtsL k).getD (.agg #[.nilFunc, .nilFunc])) w :=
  run_look h Tryz.underlying117 Tryz.underlying3 (zeroF w) ok
theorem kget_none {k : Int} (h1 : k ≠ 1) (h2 : k ≠ 2) (h3 : k ≠ 3) (h4 : k ≠ 4) : kget fmtsL k = none := by
  have e : ∀ a : Int, k ≠ a → (a == k) = false := fun a h => beq_false_of_ne (fun e => h e.symm)
  simp [kget, fmtsL, e _ h1, e _ h2, e _ h3, e _ h4]
theorem look1 {w : World} {b : Nat} (h : KMap w b fmtsL) : (Instr.lookup MFT (.map (some b)) (.int .i64 1) true).run Tryz.prog w = .ok (.tuple #[fn2 139 140, .bool true]) w ∧ (Instr.lookup MFT (.map (some b)) (.int .i64 1) false).run Tryz.prog w = .ok (fn2 139 140) w := ⟨look_at h 1 true, look_at h 1 false⟩
theorem look2 {w : World} {b : Nat} (h : KMap w b fmtsL) : (Instr.lookup MFT (.map (some b)) (.int .i64 2) true).run Tryz.prog w = .ok (.tuple #[fn2 139 141, .bool true]) w ∧ (Instr.lookup MFT (.map (some b)) (.int .i64 2) false).run Tryz.prog w = .ok (fn2 139 141) w := ⟨look_at h 2 true, look_at h 2 false⟩
theorem look3 {w : World} {b : Nat} (h : KMap w b fmtsL) : (Instr.lookup MFT (.map (some b)) (.int .i64 3) true).run Tryz.prog w = .ok (.tuple #[fn2 142 143, .bool true]) w ∧ (Instr.lookup MFT (.map (some b)) (.int .i64 3) false).run Tryz.prog w = .ok (fn2 142 143) w := ⟨look_at h 3 true, look_at h 3 false⟩
theorem look4 {w : World} {b : Nat} (h : KMap w b fmtsL) : (Instr.lookup MFT (.map (some b)) (.int .i64 4) true).run Tryz.prog w = .ok (.tuple #[fn2 144 145, .bool true]) w ∧ (Instr.lookup MFT (.map (some b)) (.int .i64 4) false).run Tryz.prog w = .ok (fn2 144 145) w := ⟨look_at h 4 true, look_at h 4 false⟩
theorem lookN {w : World} {b : Nat} (h : KMap w b fmtsL) {k : Int} (h1 : k ≠ 1) (h2 : k ≠ 2) (h3 : k ≠ 3) (h4 : k ≠ 4) : (Instr.lookup MFT (.map (some b)) (.int .i64 k) true).run Tryz.prog w = .ok (.tuple #[.agg #[.nilFunc, .nilFunc], .bool false]) w := by
  have := look_at h k true
  rw [kget_none h1 h2 h3 h4] at this
  exact this
/-! the levels of the kinds -/
set_option maxHeartbeats 400000 in
theorem lv_atom (k n : Int) (s : List UInt8) (A : Option Addr) (l c : Nat) (w : World) : Calls Tryz.prog 139 #[nv k n s A l c] w fun e w' => e = .returned (.int .i64 7) ∧ Below w.heap.size w w' := by
  have hb1 := hid (box_below w (.cells #[.int .i64 k, .int .i64 n, sv s, .slice A l c] 27))
  go_enter Tryz.func139, Tryz.ntmps139
  go_wp2_with fail
  go_ret
  exact ⟨rfl, hb1.out⟩
set_option maxHeartbeats 400000 in
theorem lv_not (k n : Int) (s : List UInt8) (A : Option Addr) (l c : Nat) (w : World) : Calls Tryz.prog 144 #[nv k n s A l c] w fun e w' => e = .returned (.int .i64 6) ∧ Below w.heap.size w w' := by
  have hb1 := hid (box_below w (.cells #[.int .i64 k, .int .i64 n, sv s, .slice A l c] 27))
  go_enter Tryz.func144, Tryz.ntmps144
  go_wp2_with fail
  go_ret
  exact ⟨rfl, hb1.out⟩
theorem lvl_no8 {n : Int} (h : n < 1 ∨ 8 < n) : lvl 3 n = 7 := lvl_no fun j h1 h2 => by
  have hj : j = 1 ∨ j = 2 ∨ j = 3 ∨ j = 4 ∨ j = 5 := by omega
  rcases hj with rfl | rfl | rfl | rfl | rfl <;> (simp only [opsOf, List.mem_cons, List.not_mem_nil, or_false]; omega)
set_option maxHeartbeats 2000000 in
theorem lv_op (n : Int) (k : Int) (s : List UInt8) (A : Option Addr) (l c : Nat) (w : World) : Calls Tryz.prog 142 #[nv k n s A l c] w fun e w' => e = .returned (.int .i64 (lvl 3 n : Nat)) ∧ Below w.heap.size w w' := by
  have hb1 := hid (box_below w (.cells #[.int .i64 k, .int .i64 n, sv s, .slice A l c] 27))
  by_cases h : 1 ≤ n ∧ n ≤ 8
  · rcases C3.op_cases h.1 h.2 with rfl | rfl | rfl | rfl | rfl | rfl | rfl | rfl
    all_goals
      go_enter Tryz.func142, Tryz.ntmps142
      go_wp2_with fail
      go_ret
      exact ⟨rfl, hb1.out⟩
  · have hf := hid (lvl_no8 (n := n) (by omega))
    have e1 : (n == 1) = false := beq_false_of_ne (by omega)
    have e2 : (n == 2) = false := beq_false_of_ne (by omega)
    have e3 : (n == 3) = false := beq_false_of_ne (by omega)
    have e4 : (n == 4) = false := beq_false_of_ne (by omega)
    have e5 : (n == 5) = false := beq_false_of_ne (by omega)
    have e6 : (n == 6) = false := beq_false_of_ne (by omega)
    have e7 : (n == 7) = false := beq_false_of_ne (by omega)
    have e8 : (n == 8) = false := beq_false_of_ne (by omega)
    clear h
    go_enter Tryz.func142, Tryz.ntmps142
    go_wp2_with fail
    go_ret
    exact ⟨by rw [hf.out]; rfl, hb1.out⟩
/-- the levels that a binary operator of level x asks of its operands -/
def lft (x : Int) : Int := if x = 3 then 4 else x
def rgt (x : Int) : Int := if x = 3 then 4 else x + 1
set_option maxHeartbeats 400000 in
theorem lvs_operands (x : Int) (h0 : 0 ≤ x) (h1 : x ≤ 100) (w : World) : Calls Tryz.prog 175 #[.int .i64 x] w fun e w' => e = .returned (.tuple #[.int .i64 (lft x), .int .i64 (rgt x)]) ∧ w = w' := by
  by_cases h : x = 3
  · subst h
    go_enter Tryz.func175, Tryz.ntmps175
    go_wp2_with fail
    go_ret2
    exact ⟨rfl, rfl⟩
  · have e1 : (x == 3) = false := beq_false_of_ne h
    have e2 : IntKind.i64.wrap (x + 1) = x + 1 := IntWalk.i64_in _ (by omega)
    have hf := hid (show lft x = x by unfold lft; rw [if_neg h])
    have hg := hid (show rgt x = x + 1 by unfold rgt; rw [if_neg h])
    clear h
    go_enter Tryz.func175, Tryz.ntmps175
    go_wp2_with fail
    go_ret2
    exact ⟨by rw [hf.out, hg.out]; rfl, rfl⟩
end Go.Proofs.YtklcbagddijkgaaGreatDoor.Tk

/- Chapter 7: the program's LevelOf. -/
set_option maxRecDepth 100000
namespace Go.Proofs.YtklcbagddijkgaaGreatDoor.Tk
open Go.RowKit Go.Lib Go.Sort Go.Proofs.YtklcbagddijkgaaGreatDoor.Num Go.Proofs.YtklcbagddijkgaaGreatDoor.Com Go.Proofs.YtklcbagddijkgaaGreatDoor.Mem Go.Proofs.YtklcbagddijkgaaGreatDoor.Os Go.Proofs.YtklcbagddijkgaaGreatDoor.Tr Go.Proofs.YtklcbagddijkgaaGreatDoor.Ik

theorem bl_alloc {w w1 w2 w3 : World} {o : Obj} (h1 : Below w.heap.size w w1) (h2 : Below w1.heap.size w1 w2) (h3 : Below (w2.alloc o).heap.size (w2.alloc o) w3) : Below w.heap.size w w3 := by
  have e := size_alloc' w2 o
  have h4 := ((Below.refl w2.heap.size w2).alloc (Nat.le_refl _) o).trans (h3.mono (by omega))
  have h5 := h2.trans (h4.mono h2.size)
  exact h1.trans (h5.mono h1.size)
theorem bl_set {w w1 w2 w3 : World} {a b : Addr} {x y : Value} (h1 : Below w.heap.size w w1) (h2 : Below w1.heap.size w1 w2) (ha : w1.heap.size ≤ a.block) (hb : w1.heap.size ≤ b.block) (h3 : Below ((w2.setCell a x).setCell b y).heap.size ((w2.setCell a x).setCell b y) w3) : Below w.heap.size w w3 := by
  have h4 := (h2.setCell ha x).setCell hb y
  have h5 := h4.trans (h3.mono h4.size)
  exact h1.trans (h5.mono h1.size)
abbrev Finds (k : Int) (v : Value) (ok : Bool) : Prop := ∀ (b : Nat) (wx : World), KMap wx b fmtsL → (Instr.lookup MFT (.map (some b)) (.int .i64 k) true).run Tryz.prog wx = .ok (.tuple #[v, .bool ok]) wx
set_option maxHeartbeats 4000000 in
theorem level_by (k n : Int) (s : List UInt8) (A : Option Addr) (l c : Nat) (w : World) (F G : FuncId) (m : Int) (hcf : ∀ args w, (callFunc F args).run Tryz.prog w = .ok (.enter F args) w) (hl : Finds k (fn2 F G) true)
    (hF : ∀ w, Calls Tryz.prog F #[nv k n s A l c] w fun e w' => e = .returned (.int .i64 m) ∧ Below w.heap.size w w') : Calls Tryz.prog 176 #[nv k n s A l c] w fun e w' => e = .returned (.int .i64 m) ∧ Below w.heap.size w w' := by
  have hb1 := hid (box_below w (.cells #[.int .i64 k, .int .i64 n, sv s, .slice A l c] 27))
  have hblk := hid (box_blk w k n s A l c 27)
  have hfm := hid (fun w => formatters_any w)
  have hF := hid hF
  have hl := hid hl
  go_enter Tryz.func176, Tryz.ntmps176
  go_wp2_with fail
  generalize (w.alloc (.cells #[.int .i64 k, .int .i64 n, sv s, .slice A l c] 27)) = w1 at *
  obtain ⟨k0, k1, k2, k3⟩ := four hblk.out
  have d1 : w.heap.size ≠ w1.heap.size := by have := hblk.out.lt; omega
  have d1' : w1.heap.size ≠ w.heap.size := by have := hblk.out.lt; omega
  go_region_held3 (fun w' => w'.cell? ⟨w.heap.size, 0, none⟩ = some (.int .i64 k) ∧ w'.cell? ⟨w.heap.size, 1, none⟩ = some (.int .i64 n) ∧ w'.cell? ⟨w.heap.size, 2, none⟩ = some (sv s) ∧ w'.cell? ⟨w.heap.size, 3, none⟩ = some (.slice A l c)) (first | (exact q1) | go_keep)
    (first
     | (go_at_call 94; refine (hfm.out _).mono ?_; rintro e w2 ⟨rfl, hk, hb⟩; have hlk := hl.out w1.heap.size w2 hk; have hlk2 := fun o => hl.out w1.heap.size (w2.alloc o) (KMap.alloc hk o); have B2 := hid ((Below.refl w1.heap.size w1).drew.trans hb); have bx := hid (hblk.out.below B2.out hblk.out.lt); have d2 : w.heap.size ≠ w2.heap.size := (by have := B2.out.size; have := hblk.out.lt; omega); have q1 := four bx.out; clear hb)
     | (go_at_call 94; refine (hfm.out _).mono ?_; rintro e w2 ⟨rfl, hk, hb⟩; have hk' : KMap w2 (w1.heap.size + 1) fmtsL := (size_alloc' w1 (.cells #[.nilFunc, .nilFunc] FMT)) ▸ hk; have hlk := hl.out _ w2 hk'; have B2 := hid ((((Below.refl w1.heap.size w1).alloc (Nat.le_refl _) (.cells #[.nilFunc, .nilFunc] FMT)).drew).trans (hb.mono (by show _ ≤ (w1.alloc _).heap.size; rw [size_alloc']; omega))); have bx := hid (hblk.out.below B2.out hblk.out.lt); have nb := hid ((Blk.new w1 FMT [.nilFunc, .nilFunc]).below ((Below.refl _ _).drew.trans hb) (by show _ < (w1.alloc _).heap.size; rw [size_alloc']; omega)); have d2 : w.heap.size ≠ w2.heap.size := (by have := B2.out.size; have := hblk.out.lt; omega); have q1 := four bx.out; have n0 := nb.out.cell 0; have n1 := nb.out.cell 1; have nf := nb.out.frozen; clear hb))
  all_goals
    obtain ⟨q10, q11, q12, q13⟩ := q1
    replace hk := hid hk
    go_wp2_with fail
    refine (hF.out _).mono ?_
    rintro e w3 ⟨rfl, hb3⟩
    have hB : Below w.heap.size w w3 := by first | exact bl_alloc hb1.out B2.out hb3 | exact bl_set hb1.out B2.out (Nat.le_refl _) (Nat.le_refl _) hb3
    have hB := hid hB
    clear hb3 q10 q11 q12 q13
    go_wp2_with fail
    go_ret
    exact ⟨rfl, hB.out⟩
set_option maxHeartbeats 4000000 in
theorem level_none (k n : Int) (s : List UInt8) (A : Option Addr) (l c : Nat) (w : World) (hl : Finds k (.agg #[.nilFunc, .nilFunc]) false) : Calls Tryz.prog 176 #[nv k n s A l c] w fun e w' => e = .returned (.int .i64 7) ∧ Below w.heap.size w w' := by
  have hb1 := hid (box_below w (.cells #[.int .i64 k, .int .i64 n, sv s, .slice A l c] 27))
  have hblk := hid (box_blk w k n s A l c 27)
  have hfm := hid (fun w => formatters_any w)
  have hl := hid hl
  go_enter Tryz.func176, Tryz.ntmps176
  go_wp2_with fail
  generalize (w.alloc (.cells #[.int .i64 k, .int .i64 n, sv s, .slice A l c] 27)) = w1 at *
  obtain ⟨k0, k1, k2, k3⟩ := four hblk.out
  have d1 : w.heap.size ≠ w1.heap.size := by have := hblk.out.lt; omega
  have d1' : w1.heap.size ≠ w.heap.size := by have := hblk.out.lt; omega
  go_region_held3 (fun w' => w'.cell? ⟨w.heap.size, 0, none⟩ = some (.int .i64 k)) (first | (exact q1) | go_keep)
    (first
     | (go_at_call 94; refine (hfm.out _).mono ?_; rintro e w2 ⟨rfl, hk, hb⟩; have hlk := hl.out w1.heap.size w2 hk; have hlk2 := fun o => hl.out w1.heap.size (w2.alloc o) (KMap.alloc hk o); have B2 := hid ((Below.refl w1.heap.size w1).drew.trans hb); have bx := hid (hblk.out.below B2.out hblk.out.lt); have d2 : w.heap.size ≠ w2.heap.size := (by have := B2.out.size; have := hblk.out.lt; omega); have q1 := (four bx.out).1; clear hb)
     | (go_at_call 94; refine (hfm.out _).mono ?_; rintro e w2 ⟨rfl, hk, hb⟩; have hk' : KMap w2 (w1.heap.size + 1) fmtsL := (size_alloc' w1 (.cells #[.nilFunc, .nilFunc] FMT)) ▸ hk; have hlk := hl.out _ w2 hk'; have B2 := hid ((((Below.refl w1.heap.size w1).alloc (Nat.le_refl _) (.cells #[.nilFunc, .nilFunc] FMT)).drew).trans (hb.mono (by show _ ≤ (w1.alloc _).heap.size; rw [size_alloc']; omega))); have bx := hid (hblk.out.below B2.out hblk.out.lt); have nb := hid ((Blk.new w1 FMT [.nilFunc, .nilFunc]).below ((Below.refl _ _).drew.trans hb) (by show _ < (w1.alloc _).heap.size; rw [size_alloc']; omega)); have d2 : w.heap.size ≠ w2.heap.size := (by have := B2.out.size; have := hblk.out.lt; omega); have q1 := (four bx.out).1; have n0 := nb.out.cell 0; have n1 := nb.out.cell 1; have nf := nb.out.frozen; clear hb))
  all_goals
    replace hk := hid hk
    go_wp2_with fail
    go_ret
    first | exact ⟨rfl, bl_alloc hb1.out B2.out (Below.refl _ _)⟩ | exact ⟨rfl, bl_set hb1.out B2.out (Nat.le_refl _) (Nat.le_refl _) (Below.refl _ _)⟩
theorem ilevel_any (k n : Int) (s : List UInt8) (A : Option Addr) (l c : Nat) (w : World) : Calls Tryz.prog 176 #[nv k n s A l c] w fun e w' => e = .returned (.int .i64 (lvl k n : Nat)) ∧ Below w.heap.size w w' := by
  by_cases h1 : k = 1
  · subst h1; exact level_by 1 n s A l c w _ _ _ (fun _ _ => by kernel_rfl) (fun b wx h => (look1 h).1) (lv_atom 1 n s A l c)
  by_cases h2 : k = 2
  · subst h2; exact level_by 2 n s A l c w _ _ _ (fun _ _ => by kernel_rfl) (fun b wx h => (look2 h).1) (lv_atom 2 n s A l c)
  by_cases h3 : k = 3
  · subst h3; exact level_by 3 n s A l c w _ _ _ (fun _ _ => by kernel_rfl) (fun b wx h => (look3 h).1) (lv_op n 3 s A l c)
  by_cases h4 : k = 4
  · subst h4; exact level_by 4 n s A l c w _ _ _ (fun _ _ => by kernel_rfl) (fun b wx h => (look4 h).1) (lv_not 4 n s A l c)
  have hf : lvl k n = 7 := lvl_oth h3 h4
  rw [hf]
  exact level_none k n s A l c w fun b wx h => lookN h h1 h2 h3 h4
end Go.Proofs.YtklcbagddijkgaaGreatDoor.Tk
