/- FnExactIsWordToken: the law's walk. -/
import Derived.Test.YtgjdccibdgedbaaTz
set_option maxRecDepth 100000
namespace Go.Proofs.Ytgjdccibdgedbaa.WExactIsWordToken
open Go.RowKit Go.Lib Go.Proofs.Ytgjdccibdgedbaa.Com Go.Proofs.Ytgjdccibdgedbaa.Mem Go.Proofs.Ytgjdccibdgedbaa.Os Go.Proofs.Ytgjdccibdgedbaa.Tk
set_option maxHeartbeats 8000000 in
theorem walkIsWordToken (w : World) (t : Tok) (hts : t.s.length ≤ 9223372036854775807) (s : List UInt8) (hs : s.length ≤ 9223372036854775807) :
    Calls Try.prog 4 #[tv t, .string ⟨s.toArray⟩] w fun e w' => e = .returned (.bool true) ∧ Below w.heap.size w w' := by
  obtain ⟨k, n, p, x⟩ := t
  have hts : x.length ≤ 9223372036854775807 := hts
  have hB0 := hid (Blk.new w LTK (tcs ⟨k, n, p, x⟩))
  have hZ0 := hid ((Below.refl w.heap.size w).alloc (Nat.le_refl _) (.cells (tcs ⟨k, n, p, x⟩).toArray LTK))
  by_cases hbig : 1048576 < s.length
  · have t1 : decide (1048576 < (s.length : Int)) = true := decide_eq_true (by omega)
    go_enter Try.func4, Try.ntmps4
    go_wp2_with fail
    go_ret
    exact ⟨rfl, hZ0.out⟩
  have t1 : decide (1048576 < (s.length : Int)) = false := decide_eq_false (by omega)
  have hsz := fun w => szTok ⟨k, n, p, x⟩ hts 1048576 (by omega) (by omega) w
  by_cases hfit : ((x.length : Nat) : Int) ≤ 1048576
  · have e1 : Lh.szAns x.length 1048576 = 1048576 - (x.length : Int) := by unfold Lh.szAns; rw [if_pos (by omega)]
    have hsz : ∀ w, Calls Try.prog 10 #[tv ⟨k, n, p, x⟩, .int .i64 1048576] w fun e w' => e = .returned (.int .i64 (1048576 - (x.length : Int))) ∧ Below w.heap.size w w' := fun w => by have := hsz w; rwa [show Lh.szAns (Tok.mk k n p x).s.length 1048576 = 1048576 - (x.length : Int) from e1] at this
    replace hsz := hid hsz
    have t2 : decide (1048576 - (x.length : Int) < 0) = false := decide_eq_false (by omega)
    have hto := hid (fun w => toTok ⟨k, n, p, x⟩ w)
    have hsp := hid (fun w => sword_any ⟨k, n, p, x⟩ s w)
    have him := hid (fun w => iword_any ⟨k, n, p, x⟩ s w)
    generalize isWordB ⟨k, n, p, x⟩ s = b at *
    have cmp : (b != b) = false := bne_self_eq_false _
    clear e1
    go_enter Try.func4, Try.ntmps4
    go_wp2_with fail
    refine (hsz.out _).mono ?_
    rintro e w1 ⟨rfl, hb⟩
    have hB1 := hid (hB0.out.below hb hB0.out.lt)
    have hZ1 := hid (hZ0.out.trans (hb.mono hZ0.out.size))
    obtain ⟨c0, c1, c2, c3⟩ := four hB1.out
    clear hb
    go_wp2_with fail
    refine (hto.out _).mono ?_
    rintro e w2 ⟨rfl, hb⟩
    have hB2 := hid (hB1.out.below hb hB1.out.lt)
    have hZ2 := hid (hZ1.out.trans (hb.mono hZ1.out.size))
    clear hb c0 c1 c2 c3
    obtain ⟨c0, c1, c2, c3⟩ := four hB2.out
    go_wp2_with fail
    refine (hsp.out _).mono ?_
    rintro e w3 ⟨rfl, hb⟩
    have hB3 := hid (hB2.out.below hb hB2.out.lt)
    have hZ3 := hid (hZ2.out.trans (hb.mono hZ2.out.size))
    clear hb c0 c1 c2 c3
    obtain ⟨c0, c1, c2, c3⟩ := four hB3.out
    go_wp2_with fail
    refine (hto.out _).mono ?_
    rintro e w4 ⟨rfl, hb⟩
    have hZ4 := hid (hZ3.out.trans (hb.mono hZ3.out.size))
    clear hb c0 c1 c2 c3
    go_wp2_with fail
    refine (him.out _).mono ?_
    rintro e w5 ⟨rfl, hb⟩
    have hZ5 := hid (hZ4.out.trans (hb.mono hZ4.out.size))
    clear hb
    go_wp2_with fail
    go_ret
    exact ⟨rfl, hZ5.out⟩
  · have e1 : Lh.szAns x.length 1048576 = -1 := by unfold Lh.szAns; rw [if_neg (by omega)]
    have hsz : ∀ w, Calls Try.prog 10 #[tv ⟨k, n, p, x⟩, .int .i64 1048576] w fun e w' => e = .returned (.int .i64 (-1)) ∧ Below w.heap.size w w' := fun w => by have := hsz w; rwa [show Lh.szAns (Tok.mk k n p x).s.length 1048576 = -1 from e1] at this
    replace hsz := hid hsz
    clear e1
    go_enter Try.func4, Try.ntmps4
    go_wp2_with fail
    refine (hsz.out _).mono ?_
    rintro e w1 ⟨rfl, hb⟩
    have hZ1 := hid (hZ0.out.trans (hb.mono hZ0.out.size))
    clear hb
    go_wp2_with fail
    go_ret
    exact ⟨rfl, hZ1.out⟩
end Go.Proofs.Ytgjdccibdgedbaa.WExactIsWordToken
