/- Chapter 4's draws: DrawIsValidExpr. -/
import Derived.Test.YtlkfejcnkckgkaaDr4f
set_option maxRecDepth 100000
namespace Go.Proofs.Ytlkfejcnkckgkaa.Dr
open Go.RowKit Go.Lib Go.Proofs.Ytlkfejcnkckgkaa.Com Go.Proofs.Ytlkfejcnkckgkaa.Mem Go.Proofs.Ytlkfejcnkckgkaa.Cur Go.Proofs.Ytlkfejcnkckgkaa.Os Go.Proofs.Ytlkfejcnkckgkaa.Tr
set_option maxHeartbeats 2000000 in
theorem drawIsValid (A : Option Addr) (c : Nat) (xs : List UInt8) (w : World) (hr : Rd w w.heap.size A (xs.map bv)) (hn : xs.length ≤ 1048576) :
    Calls Try.prog 12 #[.slice A xs.length c] w fun e w' => ∃ v t, e = .returned v ∧ OwnX w.heap.size w'.heap.size w' v t ∧ cntT t ≤ 40 ∧ Below w.heap.size w w' := by
  have hb0 := box_below w (.cells #[.int .i64 0, .int .i64 0, .string ⟨#[]⟩, .slice none 0 0] 26)
  have s0 := size_alloc' w (.cells #[.int .i64 0, .int .i64 0, .string ⟨#[]⟩, .slice none 0 0] 26)
  have h1 := hid (new_any A c xs _ ((hr.below hb0).more hb0.size) hn)
  have R0 := hid (Blk.new w 26 [.int .i64 0, .int .i64 0, .string ⟨#[]⟩, .slice none 0 0])
  replace hb0 := hid hb0
  clear hr hn
  go_enter Try.func12, Try.ntmps12
  go_wp2_with fail
  generalize (w.alloc (.cells #[.int .i64 0, .int .i64 0, .string ⟨#[]⟩, .slice none 0 0] 26)) = W0 at *
  refine h1.out.mono ?_
  rintro e w1 ⟨g, hg, rfl, hc, hb⟩
  have R1 := hid (R0.out.below hb (by omega))
  have B1 := hid (hb0.out.trans (hb.mono (by omega)))
  have s1 := hb.size
  clear hb
  go_wp2_with fail
  refine (bent_any g A c xs w1 hc).mono ?_
  rintro e w2 ⟨v, t, rfl, hO, hcn, hd⟩
  obtain ⟨k, n, s, KA, l, kc, rfl⟩ := OwnE.form hO
  have R2 := R1.out.gb hd.2 (by omega)
  have B2 := drew_below (by omega) B1.out hd
  have hcg := setR_chg w2 w.heap.size k n s (.slice KA l kc)
  have f1 := hid (setR_blk R2 k n s (.slice KA l kc))
  have f2 := hid ((hO.chg hcg (Or.inr (by omega))).mono (lo' := w.heap.size) (by omega) hcg.size)
  have f3 := hid (((B2.setCell (p := ⟨w.heap.size, 0, none⟩) (Nat.le_refl _) (.int .i64 k)).setCell (p := ⟨w.heap.size, 1, none⟩) (Nat.le_refl _) (.int .i64 n)).setCell (p := ⟨w.heap.size, 2, none⟩) (Nat.le_refl _) (sv s) |>.setCell (p := ⟨w.heap.size, 3, none⟩) (Nat.le_refl _) (.slice KA l kc))
  obtain ⟨x0, x1, x2, x3⟩ := four R2
  have r0 := R2.frozen 0
  have r1 := R2.frozen 1
  have r2 := R2.frozen 2
  have r3 := R2.frozen 3
  clear hO hd B2 hcg R2 hc
  go_wp2_with fail
  exact bodyPost_ret (results_cell_row Try.results12 _ _ w.heap.size 26 _ (0, 0) _ rfl f1.out Try.underlying26 rfl (by kernel_rfl)) rfl ⟨_, _, rfl, f2.out, hcn, f3.out⟩
end Go.Proofs.Ytlkfejcnkckgkaa.Dr
