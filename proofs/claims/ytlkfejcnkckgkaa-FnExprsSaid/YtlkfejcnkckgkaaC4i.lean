/- Chapter 4: the program's counts. -/
import Derived.Test.YtlkfejcnkckgkaaC4m
set_option maxRecDepth 100000
namespace Go.Proofs.Ytlkfejcnkckgkaa.Tr
open Go.RowKit Go.Lib Go.Proofs.Ytlkfejcnkckgkaa.Com Go.Proofs.Ytlkfejcnkckgkaa.Mem Go.Proofs.Ytlkfejcnkckgkaa.Os

theorem ext0 (a b : Int) (w : World) : (Instr.field XT (.agg #[.int .i64 a, .int .i64 b]) 0).run Try.prog w = .ok (.int .i64 a) w := by kernel_rfl
theorem ext1 (a b : Int) (w : World) : (Instr.field XT (.agg #[.int .i64 a, .int .i64 b]) 1).run Try.prog w = .ok (.int .i64 b) w := by kernel_rfl
set_option maxHeartbeats 1000000 in
theorem icount_c {lo hi : Nat} {v : Value} {t : T} (w : World) (h : OwnX lo hi w v t) (hbd : cntT t ≤ 2000000) : Calls Try.prog 17 #[v] w fun e w' => e = .returned (.int .i64 (cntT t)) ∧ Below w.heap.size w w' := by
  have hs := own_shrink h
  obtain ⟨k, n, s, A, l, c, rfl⟩ := OwnE.form h
  have hb := box_below w (.cells #[.int .i64 k, .int .i64 n, sv s, .slice A l c] 26)
  have hcl := hid (imeasure t _ lo _ _ (hs.same (same_below hb (by omega))) hbd)
  have q0 := fun w => ext0 (cntT t) (depT t) w
  replace hb := hid hb
  clear hs h hbd
  go_enter Try.func17, Try.ntmps17
  go_wp2_with fail
  refine hcl.out.mono ?_
  rintro e w2 ⟨rfl, hb2⟩
  have hb2 := hid (hb.out.trans (hb2.mono hb.out.size))
  go_wp2_with fail
  go_ret
  exact ⟨rfl, hb2.out⟩
theorem icount_own {lo hi : Nat} {v : Value} {t : T} (w : World) (h : OwnX lo hi w v t) (hz : szT t ≤ 1048576) : Calls Try.prog 17 #[v] w fun e w' => e = .returned (.int .i64 (cntT t)) ∧ Below w.heap.size w w' := icount_c w h (by have := cnt_sz t; omega)
set_option maxHeartbeats 1000000 in
theorem depth_c {lo hi : Nat} {v : Value} {t : T} (w : World) (h : OwnX lo hi w v t) (hbd : cntT t ≤ 2000000) : Calls Try.prog 16 #[v] w fun e w' => e = .returned (.int .i64 (depT t)) ∧ Below w.heap.size w w' := by
  have hs := own_shrink h
  obtain ⟨k, n, s, A, l, c, rfl⟩ := OwnE.form h
  have hb := box_below w (.cells #[.int .i64 k, .int .i64 n, sv s, .slice A l c] 26)
  have hcl := hid (imeasure t _ lo _ _ (hs.same (same_below hb (by omega))) hbd)
  have q0 := fun w => ext1 (cntT t) (depT t) w
  replace hb := hid hb
  clear hs h hbd
  go_enter Try.func16, Try.ntmps16
  go_wp2_with fail
  refine hcl.out.mono ?_
  rintro e w2 ⟨rfl, hb2⟩
  have hb2 := hid (hb.out.trans (hb2.mono hb.out.size))
  go_wp2_with fail
  go_ret
  exact ⟨rfl, hb2.out⟩
theorem depth_own {lo hi : Nat} {v : Value} {t : T} (w : World) (h : OwnX lo hi w v t) (hz : szT t ≤ 1048576) : Calls Try.prog 16 #[v] w fun e w' => e = .returned (.int .i64 (depT t)) ∧ Below w.heap.size w w' := depth_c w h (by have := cnt_sz t; omega)
end Go.Proofs.Ytlkfejcnkckgkaa.Tr
