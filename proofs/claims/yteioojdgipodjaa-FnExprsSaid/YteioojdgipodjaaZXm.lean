/- The program's counts of expressions, by what the walks of trees promise. -/
import Derived.Test.YteioojdgipodjaaZMex
import Derived.Test.YteioojdgipodjaaZXq
import Derived.Test.YteioojdgipodjaaZEx4
set_option maxRecDepth 100000
namespace Go.Proofs.Yteioojdgipodjaa.Tr
open Go.RowKit Go.Lib Go.Sort Go.Proofs.Yteioojdgipodjaa.Com Go.Proofs.Yteioojdgipodjaa.Mem Go.Proofs.Yteioojdgipodjaa.Os Go.Proofs.Yteioojdgipodjaa.Pl Go.Proofs.Yteioojdgipodjaa.Kd Go.Proofs.Yteioojdgipodjaa.Gx

/-- a box, and a row of one beside it -/
theorem two_box (w : World) (k n : Int) (s : List UInt8) (A : Option Addr) (l c : Nat) (t : T) (h : Ex (pln w) w.heap.size (nv k n s A l c) t) :
    Below w.heap.size w ((w.alloc (.cells #[.int .i64 k, .int .i64 n, sv s, .slice A l c] 46)).alloc (.cells #[.int .i64 k, .int .i64 n, sv s, .slice A l c] 46)) ∧
    LA (pln ((w.alloc (.cells #[.int .i64 k, .int .i64 n, sv s, .slice A l c] 46)).alloc (.cells #[.int .i64 k, .int .i64 n, sv s, .slice A l c] 46))) ((w.alloc (.cells #[.int .i64 k, .int .i64 n, sv s, .slice A l c] 46)).alloc (.cells #[.int .i64 k, .int .i64 n, sv s, .slice A l c] 46)).heap.size ⟨some ⟨w.heap.size + 1, 0, none⟩, 1, [t]⟩ := by
  have b1 := box_below w (.cells #[.int .i64 k, .int .i64 n, sv s, .slice A l c] 46)
  have b2 := b1.trans ((box_below _ (.cells #[.int .i64 k, .int .i64 n, sv s, .slice A l c] 46)).mono b1.size)
  have hB := Blk.new (w.alloc (.cells #[.int .i64 k, .int .i64 n, sv s, .slice A l c] 46)) 46 [.int .i64 k, .int .i64 n, sv s, .slice A l c]
  rw [size_alloc'] at hB
  exact ⟨b2, la_one hB (ex_go h b2)⟩
theorem cntL_one (t : T) : kdX.cntL [t] = cntT t := by simp [Kd.cntL]; rfl
theorem depL_one (t : T) : kdX.depL [t] = depT t := by
  show Nat.max (depT t) 0 = depT t
  exact Nat.max_eq_left (Nat.zero_le _)
theorem ext0 (a b : Int) (w : World) : (Instr.field 68 (.agg #[.int .i64 a, .int .i64 b]) 0).run Try.prog w = .ok (.int .i64 a) w := by kernel_rfl
theorem ext1 (a b : Int) (w : World) : (Instr.field 68 (.agg #[.int .i64 a, .int .i64 b]) 1).run Try.prog w = .ok (.int .i64 b) w := by kernel_rfl
set_option maxHeartbeats 1000000 in
theorem icountE (t : T) (v : Value) (w : World) (h : Ex (pln w) w.heap.size v t) (hbd : cntT t ≤ 4000000) : Calls Try.prog 36 #[v] w fun e w' => e = .returned (.int .i64 (cntT t)) ∧ Below w.heap.size w w' := by
  obtain ⟨k, n, s, A, l, c, rfl⟩ : ∃ k n s A l c, v = nv k n s A l c := by
    obtain ⟨k, n, s, ks⟩ := t
    obtain ⟨A, c, vs, e, _⟩ := Ex.kids h
    exact ⟨_, _, _, _, _, _, e⟩
  obtain ⟨hb, hla⟩ := two_box w k n s A l c t h
  have hcl := imeasure _ _ hla (by rw [cntL_one]; exact hbd)
  rw [cntL_one, depL_one] at hcl
  replace hcl : Calls Try.prog 75 #[.slice (some ⟨w.heap.size + 1, 0, none⟩) 1 1, belowF] _ _ := hcl
  replace hcl := hid hcl
  have q0 := fun w => ext0 (cntT t) (depT t) w
  replace hb := hid hb
  have p := (Blk.new w 46 [.int .i64 k, .int .i64 n, sv s, .slice A l c])
  have p0 : (w.alloc (.cells #[.int .i64 k, .int .i64 n, sv s, .slice A l c] 46)).cell? ⟨w.heap.size, 0, none⟩ = some (.int .i64 k) := p.cell 0
  have p1 : (w.alloc (.cells #[.int .i64 k, .int .i64 n, sv s, .slice A l c] 46)).cell? ⟨w.heap.size, 1, none⟩ = some (.int .i64 n) := p.cell 1
  have p2 : (w.alloc (.cells #[.int .i64 k, .int .i64 n, sv s, .slice A l c] 46)).cell? ⟨w.heap.size, 2, none⟩ = some (sv s) := p.cell 2
  have p3 : (w.alloc (.cells #[.int .i64 k, .int .i64 n, sv s, .slice A l c] 46)).cell? ⟨w.heap.size, 3, none⟩ = some (.slice A l c) := p.cell 3
  clear hla h hbd p
  go_enter Try.func36, Try.ntmps36
  go_wp2_with fail
  refine hcl.out.mono ?_
  rintro e w2 ⟨rfl, hb2⟩
  have hb2 := hid (hb.out.trans (hb2.mono hb.out.size))
  go_wp2_with fail
  go_ret
  exact ⟨rfl, hb2.out⟩
theorem icount_c {lo hi : Nat} {v : Value} {t : T} (w : World) (h : OwnX lo hi w v t) (hbd : cntT t ≤ 2000000) : Calls Try.prog 36 #[v] w fun e w' => e = .returned (.int .i64 (cntT t)) ∧ Below w.heap.size w w' := icountE t v w (own_pln h) (by omega)
theorem icount_own {lo hi : Nat} {v : Value} {t : T} (w : World) (h : OwnX lo hi w v t) (hz : szT t ≤ 1048576) : Calls Try.prog 36 #[v] w fun e w' => e = .returned (.int .i64 (cntT t)) ∧ Below w.heap.size w w' := icount_c w h (by have := cnt_sz t; omega)
set_option maxHeartbeats 1000000 in
theorem idepthE (t : T) (v : Value) (w : World) (h : Ex (pln w) w.heap.size v t) (hbd : cntT t ≤ 4000000) : Calls Try.prog 35 #[v] w fun e w' => e = .returned (.int .i64 (depT t)) ∧ Below w.heap.size w w' := by
  obtain ⟨k, n, s, A, l, c, rfl⟩ : ∃ k n s A l c, v = nv k n s A l c := by
    obtain ⟨k, n, s, ks⟩ := t
    obtain ⟨A, c, vs, e, _⟩ := Ex.kids h
    exact ⟨_, _, _, _, _, _, e⟩
  obtain ⟨hb, hla⟩ := two_box w k n s A l c t h
  have hcl := imeasure _ _ hla (by rw [cntL_one]; exact hbd)
  rw [cntL_one, depL_one] at hcl
  replace hcl : Calls Try.prog 75 #[.slice (some ⟨w.heap.size + 1, 0, none⟩) 1 1, belowF] _ _ := hcl
  replace hcl := hid hcl
  have q0 := fun w => ext1 (cntT t) (depT t) w
  replace hb := hid hb
  have p := (Blk.new w 46 [.int .i64 k, .int .i64 n, sv s, .slice A l c])
  have p0 : (w.alloc (.cells #[.int .i64 k, .int .i64 n, sv s, .slice A l c] 46)).cell? ⟨w.heap.size, 0, none⟩ = some (.int .i64 k) := p.cell 0
  have p1 : (w.alloc (.cells #[.int .i64 k, .int .i64 n, sv s, .slice A l c] 46)).cell? ⟨w.heap.size, 1, none⟩ = some (.int .i64 n) := p.cell 1
  have p2 : (w.alloc (.cells #[.int .i64 k, .int .i64 n, sv s, .slice A l c] 46)).cell? ⟨w.heap.size, 2, none⟩ = some (sv s) := p.cell 2
  have p3 : (w.alloc (.cells #[.int .i64 k, .int .i64 n, sv s, .slice A l c] 46)).cell? ⟨w.heap.size, 3, none⟩ = some (.slice A l c) := p.cell 3
  clear hla h hbd p
  go_enter Try.func35, Try.ntmps35
  go_wp2_with fail
  refine hcl.out.mono ?_
  rintro e w2 ⟨rfl, hb2⟩
  have hb2 := hid (hb.out.trans (hb2.mono hb.out.size))
  go_wp2_with fail
  go_ret
  exact ⟨rfl, hb2.out⟩
theorem depth_c {lo hi : Nat} {v : Value} {t : T} (w : World) (h : OwnX lo hi w v t) (hbd : cntT t ≤ 2000000) : Calls Try.prog 35 #[v] w fun e w' => e = .returned (.int .i64 (depT t)) ∧ Below w.heap.size w w' := idepthE t v w (own_pln h) (by omega)
theorem depth_own {lo hi : Nat} {v : Value} {t : T} (w : World) (h : OwnX lo hi w v t) (hz : szT t ≤ 1048576) : Calls Try.prog 35 #[v] w fun e w' => e = .returned (.int .i64 (depT t)) ∧ Below w.heap.size w w' := depth_c w h (by have := cnt_sz t; omega)
end Go.Proofs.Yteioojdgipodjaa.Tr
