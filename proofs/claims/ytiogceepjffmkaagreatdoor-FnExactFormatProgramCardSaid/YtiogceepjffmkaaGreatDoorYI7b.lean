/- Chapter 7: the program's LevelOf. -/
import Derived.Test.YtiogceepjffmkaaGreatDoorYBk10
import Derived.ProofKit
import Derived.OpenShut
import Derived.Deep.Strs
import Derived.Carry
import Derived.Below
import Derived.ChangeSame
set_option maxHeartbeats 4000000
set_option maxRecDepth 100000
namespace Go.Proofs.YtiogceepjffmkaaGreatDoor.Tk
open Go.RowKit Go.Lib Go.Sort Num Com Mem YtiogceepjffmkaaGreatDoor.Os Tr Ik
theorem bl_alloc {w w1 w2 w3 : World} {o : Obj} (h1 : Below w.heap.size w w1) (h2 : Below w1.heap.size w1 w2) (h3 : Below (w2.alloc o).heap.size (w2.alloc o) w3) : Below w.heap.size w w3 := by
  have e := size_alloc' w2 o
  have h4 := ((Below.refl w2.heap.size w2).alloc (Nat.le_refl _) o).trans (h3.mono (by omega))
  have h5 := h2.trans (h4.mono h2.size)
  exact h1.trans (h5.mono h1.size)
theorem bl_set {w w1 w2 w3 : World} {a b : Addr} {x y : Value} (h1 : Below w.heap.size w w1) (h2 : Below w1.heap.size w1 w2) (ha : w1.heap.size ≤ a.block) (hb : w1.heap.size ≤ b.block) (h3 : Below ((w2.setCell a x).setCell b y).heap.size ((w2.setCell a x).setCell b y) w3) : Below w.heap.size w w3 := by
  have h4 := (h2.setCell ha x).setCell hb y
  have h5 := h4.trans (h3.mono h4.size)
  exact h1.trans (h5.mono h1.size)
abbrev Finds (k : Int) (v : Value) (ok : Bool) : Prop := ∀ (b : Nat) (wx : World), KMap wx b fmtsL → (Instr.lookup MFT (.map (some b)) (.int .i64 k) true).run Tryz.prog wx = .ok (.tuple #[v, .bool ok]) wx
theorem level_by (k n : Int) (s : List UInt8) (A : Option Addr) (l c : Nat) (w : World) (F G : FuncId) (m : Int) (hcf : ∀ args w, (callFunc F args).run Tryz.prog w = .ok (.enter F args) w) (hl : Finds k (fn2 F G) true)
    (hF : ∀ w, Calls Tryz.prog F #[nv k n s A l c] w fun e w' => e = .returned (.int .i64 m) ∧ Below w.heap.size w w') : Calls Tryz.prog 217 #[nv k n s A l c] w fun e w' => e = .returned (.int .i64 m) ∧ Below w.heap.size w w' := by
  have hb1 := hid (box_below w (.cells #[.int .i64 k, .int .i64 n, sv s, .slice A l c] 58))
  have hblk := hid (box_blk w k n s A l c 58)
  have hfm := hid (fun w => formatters_any w)
  have hF := hid hF
  have hl := hid hl
  go_enter Tryz.func217, Tryz.ntmps217
  go_wp2_with fail
  generalize (w.alloc (.cells #[.int .i64 k, .int .i64 n, sv s, .slice A l c] 58)) = w1 at *
  obtain ⟨k0, k1, k2, k3⟩ := four hblk.out
  have d1 : w.heap.size ≠ w1.heap.size := by have := hblk.out.lt; omega
  have d1' : w1.heap.size ≠ w.heap.size := by have := hblk.out.lt; omega
  go_region_held3 (fun w' => w'.cell? ⟨w.heap.size, 0, none⟩ = some (.int .i64 k) ∧ w'.cell? ⟨w.heap.size, 1, none⟩ = some (.int .i64 n) ∧ w'.cell? ⟨w.heap.size, 2, none⟩ = some (sv s) ∧ w'.cell? ⟨w.heap.size, 3, none⟩ = some (.slice A l c)) (first | (exact q1) | go_keep)
    (first
     | (go_at_call 180; refine (hfm.out _).mono ?_; rintro e w2 ⟨rfl, hk, hb⟩; have hlk := hl.out w1.heap.size w2 hk; have hlk2 := fun o => hl.out w1.heap.size (w2.alloc o) (KMap.alloc hk o); have B2 := hid ((Below.refl w1.heap.size w1).drew.trans hb); have bx := hid (hblk.out.below B2.out hblk.out.lt); have d2 : w.heap.size ≠ w2.heap.size := (by have := B2.out.size; have := hblk.out.lt; omega); have q1 := four bx.out; clear hb)
     | (go_at_call 180; refine (hfm.out _).mono ?_; rintro e w2 ⟨rfl, hk, hb⟩; have hk' : KMap w2 (w1.heap.size + 1) fmtsL := (size_alloc' w1 (.cells #[.nilFunc, .nilFunc] FMT)) ▸ hk; have hlk := hl.out _ w2 hk'; have B2 := hid ((((Below.refl w1.heap.size w1).alloc (Nat.le_refl _) (.cells #[.nilFunc, .nilFunc] FMT)).drew).trans (hb.mono (by show _ ≤ (w1.alloc _).heap.size; rw [size_alloc']; omega))); have bx := hid (hblk.out.below B2.out hblk.out.lt); have nb := hid ((Blk.new w1 FMT [.nilFunc, .nilFunc]).below ((Below.refl _ _).drew.trans hb) (by show _ < (w1.alloc _).heap.size; rw [size_alloc']; omega)); have d2 : w.heap.size ≠ w2.heap.size := (by have := B2.out.size; have := hblk.out.lt; omega); have q1 := four bx.out; have n0 := nb.out.cell 0; have n1 := nb.out.cell 1; have nf := nb.out.frozen; clear hb))
  all_goals
    obtain ⟨q10, q11, q12, q13⟩ := q1
    replace hk := hid hk
    go_wp2_with fail
    refine (hF.out _).mono ?_
    rintro e w3 ⟨rfl, hb3⟩
    have hB : Below w.heap.size w w3 := by first | exact bl_alloc hb1.out B2.out hb3 | exact bl_set hb1.out B2.out (Nat.le_refl _) (Nat.le_refl _) hb3
    have hB := hid hB
    clear hb3 q10 q11 q12 q13
    go_wp2_with fail
    go_ret
    exact ⟨rfl, hB.out⟩
theorem level_none (k n : Int) (s : List UInt8) (A : Option Addr) (l c : Nat) (w : World) (hl : Finds k (.agg #[.nilFunc, .nilFunc]) false) : Calls Tryz.prog 217 #[nv k n s A l c] w fun e w' => e = .returned (.int .i64 7) ∧ Below w.heap.size w w' := by
  have hb1 := hid (box_below w (.cells #[.int .i64 k, .int .i64 n, sv s, .slice A l c] 58))
  have hblk := hid (box_blk w k n s A l c 58)
  have hfm := hid (fun w => formatters_any w)
  have hl := hid hl
  go_enter Tryz.func217, Tryz.ntmps217
  go_wp2_with fail
  generalize (w.alloc (.cells #[.int .i64 k, .int .i64 n, sv s, .slice A l c] 58)) = w1 at *
  obtain ⟨k0, k1, k2, k3⟩ := four hblk.out
  have d1 : w.heap.size ≠ w1.heap.size := by have := hblk.out.lt; omega
  have d1' : w1.heap.size ≠ w.heap.size := by have := hblk.out.lt; omega
  go_region_held3 (fun w' => w'.cell? ⟨w.heap.size, 0, none⟩ = some (.int .i64 k)) (first | (exact q1) | go_keep)
    (first
     | (go_at_call 180; refine (hfm.out _).mono ?_; rintro e w2 ⟨rfl, hk, hb⟩; have hlk := hl.out w1.heap.size w2 hk; have hlk2 := fun o => hl.out w1.heap.size (w2.alloc o) (KMap.alloc hk o); have B2 := hid ((Below.refl w1.heap.size w1).drew.trans hb); have bx := hid (hblk.out.below B2.out hblk.out.lt); have d2 : w.heap.size ≠ w2.heap.size := (by have := B2.out.size; have := hblk.out.lt; omega); have q1 := (four bx.out).1; clear hb)
     | (go_at_call 180; refine (hfm.out _).mono ?_; rintro e w2 ⟨rfl, hk, hb⟩; have hk' : KMap w2 (w1.heap.size + 1) fmtsL := (size_alloc' w1 (.cells #[.nilFunc, .nilFunc] FMT)) ▸ hk; have hlk := hl.out _ w2 hk'; have B2 := hid ((((Below.refl w1.heap.size w1).alloc (Nat.le_refl _) (.cells #[.nilFunc, .nilFunc] FMT)).drew).trans (hb.mono (by show _ ≤ (w1.alloc _).heap.size; rw [size_alloc']; omega))); have bx := hid (hblk.out.below B2.out hblk.out.lt); have nb := hid ((Blk.new w1 FMT [.nilFunc, .nilFunc]).below ((Below.refl _ _).drew.trans hb) (by show _ < (w1.alloc _).heap.size; rw [size_alloc']; omega)); have d2 : w.heap.size ≠ w2.heap.size := (by have := B2.out.size; have := hblk.out.lt; omega); have q1 := (four bx.out).1; have n0 := nb.out.cell 0; have n1 := nb.out.cell 1; have nf := nb.out.frozen; clear hb))
  all_goals
    replace hk := hid hk
    go_wp2_with fail
    go_ret
    first | exact ⟨rfl, bl_alloc hb1.out B2.out (Below.refl _ _)⟩ | exact ⟨rfl, bl_set hb1.out B2.out (Nat.le_refl _) (Nat.le_refl _) (Below.refl _ _)⟩
theorem ilevel_any (k n : Int) (s : List UInt8) (A : Option Addr) (l c : Nat) (w : World) : Calls Tryz.prog 217 #[nv k n s A l c] w fun e w' => e = .returned (.int .i64 (lvl k n : Nat)) ∧ Below w.heap.size w w' := by
  by_cases h1 : k = 1
  · subst h1; exact level_by 1 n s A l c w _ _ _ (fun _ _ => by kernel_rfl) (fun b wx h => (look1 h).1) (lv_atom 1 n s A l c)
  by_cases h2 : k = 2
  · subst h2; exact level_by 2 n s A l c w _ _ _ (fun _ _ => by kernel_rfl) (fun b wx h => (look2 h).1) (lv_atom 2 n s A l c)
  by_cases h3 : k = 3
  · subst h3; exact level_by 3 n s A l c w _ _ _ (fun _ _ => by kernel_rfl) (fun b wx h => (look3 h).1) (lv_op n 3 s A l c)
  by_cases h4 : k = 4
  · subst h4; exact level_by 4 n s A l c w _ _ _ (fun _ _ => by kernel_rfl) (fun b wx h => (look4 h).1) (lv_not 4 n s A l c)
  have hf : lvl k n = 7 := lvl_oth h3 h4
  rw [hf]
  exact level_none k n s A l c w fun b wx h => lookN h h1 h2 h3 h4
end Go.Proofs.YtiogceepjffmkaaGreatDoor.Tk
set_option maxRecDepth 100000
namespace Go.Proofs.YtiogceepjffmkaaGreatDoor.Close
open Mem
open Go.ChangeShapes Go.WideShapes Go.ChangeAt Go.RowKit
theorem own : ownKnob Tryz.prog.godebug = none := by kernel_rfl
theorem str_eta (a : ByteArray) : (⟨a.data.toList.toArray⟩ : ByteArray) = a := by cases a; simp
theorem str_len {a : ByteArray} (h : a.size ≤ maxLen) : a.data.toList.length ≤ 9223372036854775807 := by
  have e : a.data.toList.length = a.size := by rw [Array.length_toList]; rfl
  unfold maxLen at h; omega
theorem laidOut : laidOutB Tryz.prog = true := by kernel_rfl
section
variable {H : Type} {enc : TypeId × Value → H} {P : Program}
theorem trodAll_below (hl : laidOutB P = true) {W W' : World} (hb : Below W.heap.size W W') : ∀ {ts : List TypeId} {vs : List Value} {ds : List (DataW H)} {ps : List MemPlace}, (∀ t ∈ ts, P.readableRec t = true ∧ t < P.types.size) →
    DataW.TrodAll enc P W 0 (fun _ => true) true ts vs ds ps → (∀ x ∈ ps, x.block < W.heap.size) → DataW.TrodAll enc P W' 0 (fun b => decide (b < W.heap.size)) true ts vs ds ps
  | [], [], [], _, _, h, _ => h
  | t :: ts, v :: vs, d :: ds, ps, hr, h, hlt => by
    obtain ⟨p, q, h1, h2, rfl⟩ := h
    exact ⟨p, q, Below.trod hl (hr t List.mem_cons_self).1 (hr t List.mem_cons_self).2 h1 hb (fun x hx => hlt x (List.mem_append_left _ hx)),
      trodAll_below hl hb (fun t ht => hr t (List.mem_cons_of_mem _ ht)) h2 (fun x hx => hlt x (List.mem_append_right _ hx)), rfl⟩
  | [], _ :: _, _, _, _, h, _ => h.elim
  | [], [], _ :: _, _, _, h, _ => h.elim
  | _ :: _, [], _, _, _, h, _ => h.elim
  | _ :: _, _ :: _, [], _, _, h, _ => h.elim
theorem law_post {f : Func} {s : ChangeSpec} {W W' : World} {args : Array Value} {ds : List (DataW H)} {before : List MemPlace} {tb : TypeId}
    (hl : laidOutB P = true) (hr : ∀ t ∈ f.params.toList, P.readableRec t = true ∧ t < P.types.size)
    (hW : DataW.Whole enc P f.params.toList s.vars false W args.toList ds [] before) (hv : s.vars = []) (hrt : f.resultTypes = #[tb]) (hbool : P.underlying tb = some .bool)
    (e1 : (s.fn H (ds ++ [])).results = [.lit (.bool true)]) (e2 : (s.fn H (ds ++ [])).args = ds) (e3 : (s.fn H (ds ++ [])).vars = []) (hb : Below W.heap.size W W') :
    s.post enc P f false true false false W args (.bool true) W' := by
  have hlt : ∀ x ∈ before, x.block < W.heap.size := fun x hx => hW.lt x hx
  obtain ⟨p, q, hA, hV, hpq, _, _⟩ := id hW
  refine ⟨ds, [], before, [], p, [], hW, ?_, ?_, ?_, hb.frame _, fun h => by cases h⟩
  · rw [e1, hrt]
    exact trodAll_mk1 (shut_bool hbool _)
  · rw [e2]
    exact trodAll_below hl hb hr hA (fun x hx => hlt x (by rw [hpq]; exact List.mem_append_left _ hx))
  · rw [e3, hv]
    rfl
end
theorem lt_cell {w : World} {a : Addr} {v : Value} (h : w.cell? a = some v) : a.block < w.heap.size := by
  rcases Nat.lt_or_ge a.block w.heap.size with hlt | hge
  · exact hlt
  · unfold World.cell? at h; rw [Array.getElem?_eq_none hge] at h; cases h
end Go.Proofs.YtiogceepjffmkaaGreatDoor.Close
