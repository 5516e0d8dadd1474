/- What FnRuns and FnTerminates ask of runs. -/
import Derived.Test.YtnmomlaimffonaaGreatZRo11
import Derived.Test.YtnmomlaimffonaaGreatZRp11
import Derived.Test.YtnmomlaimffonaaGreatZXi
set_option maxHeartbeats 1000000
set_option maxRecDepth 100000
namespace Go.Proofs.YtnmomlaimffonaaGreat.Rn
open Go.RowKit Go.Lib Go.Sort Com Mem YtnmomlaimffonaaGreat.Os Ow Tr Gd C2 C3 Oc
theorem runO_cases (p : Pg) (S : List Int) (fuel : Int) : runO p S fuel = ⟨0, [], [], 0⟩ ∨ (okP p = true ∧ wB S p.vs.length = true ∧ inB fuel 0 400 = true ∧ ∃ f : Nat, fuel = f ∧ f ≤ 400 ∧ runO p S fuel = ⟨(run p.vs f p.body S).st, (run p.vs f p.body S).sg, (run p.vs f p.body S).ou, ((run p.vs f p.body S).co : Int)⟩) := by
  by_cases h : okP p = true ∧ wB S p.vs.length = true ∧ inB fuel 0 400 = true
  · obtain ⟨h1, h2, h3⟩ := h
    have h4 := h3
    unfold inB at h4
    simp only [Bool.and_eq_true, decide_eq_true_eq] at h4
    obtain ⟨f, rfl⟩ : ∃ f : Nat, fuel = f := ⟨fuel.toNat, by omega⟩
    exact Or.inr ⟨h1, h2, h3, f, rfl, by omega, runO_yes h1 h2 h3⟩
  · unfold runO
    rw [if_neg h]
    exact Or.inl rfl
theorem runO_zero {p : Pg} {S : List Int} {fuel : Int} (h : (runO p S fuel).st = 0) : runO p S fuel = ⟨0, [], [], 0⟩ := by
  rcases runO_cases p S fuel with e | ⟨-, -, -, f, -, -, e⟩
  · exact e
  · rw [e] at h
    exact absurd h (run_st0 _ _ _)
theorem runs_end {p : Pg} {S : List Int} {fuel : Int} (h0 : (runO p S fuel).st ≠ 0) (h4 : fuel ≠ 400) (h3 : (runO p S fuel).st ≠ 3) : runO p S (fuel + 1) = runO p S fuel := by
  rcases runO_cases p S fuel with e | ⟨h1, h2, -, f, rfl, hf, e⟩
  · rw [e] at h0; exact absurd rfl h0
  · rw [e] at h3 ⊢
    dsimp only at h3
    have hf1 : f + 1 ≤ 400 := by omega
    have := runO_yes (p := p) (S := S) (f := f + 1) h1 h2 (by unfold inB; simp only [Bool.and_eq_true, decide_eq_true_eq]; omega)
    rw [run_more f _ _ h3] at this
    exact this
theorem runs_less {p : Pg} {S : List Int} {fuel : Int} (h4 : fuel ≠ 400) (h3 : (runO p S fuel).st = 3) : (runO p S fuel).co = fuel ∧ (runO p S (fuel + 1)).co = fuel + 1 ∧ ∃ t, (runO p S (fuel + 1)).ou = (runO p S fuel).ou ++ t := by
  rcases runO_cases p S fuel with e | ⟨h1, h2, -, f, rfl, hf, e⟩
  · rw [e] at h3; cases h3
  · rw [e] at h3 ⊢
    dsimp only at h3 ⊢
    have hf1 : f + 1 ≤ 400 := by omega
    have := runO_yes (p := p) (S := S) (f := f + 1) h1 h2 (by unfold inB; simp only [Bool.and_eq_true, decide_eq_true_eq]; omega)
    have e2 : runO p S ((f : Int) + 1) = _ := this
    obtain ⟨q1, q2, t, q3⟩ := run_less (V := p.vs) f p.body S h3
    rw [e2]
    dsimp only
    exact ⟨by omega, by omega, t, q3⟩
end Go.Proofs.YtnmomlaimffonaaGreat.Rn
set_option maxRecDepth 100000
namespace Go.Proofs.YtnmomlaimffonaaGreat.Gd
open Go.RowKit Go.Lib Go.Sort Com Mem YtnmomlaimffonaaGreat.Os Tr YtnmomlaimffonaaGreat.Nm
open Ow Pl Gs
theorem PgOut.form {W : World} {lo : Nat} {v : Value} {V : List (List UInt8)} {L : List St} (h : PgOut W lo v V L) : ∃ (VA : Option Addr) (vc : Nat) (B : Option Addr) (bc : Nat), v = .agg #[.slice VA V.length vc, .slice B L.length bc] ∧ V.length ≤ vc ∧ L.length ≤ bc ∧ L.length ≤ maxI ∧ (∀ ad, VA = some ad → ad = ⟨ad.block, 0, none⟩) ∧
    (∀ w, Below W.heap.size W w → Rd w w.heap.size VA (V.map sv) ∧ (∃ rows, Row w w.heap.size 1 B (dl L) rows) ∧ LA (pln w) w.heap.size ⟨B, bc, L⟩) := by
  obtain ⟨VA, vc, B, bc, rows, e, h1, h2, h3, h4, h5, h6⟩ := h
  refine ⟨VA, vc, B, bc, e, h1, h4, h5, h3, fun w hb => ?_⟩
  have hc : Cry (ezb W lo) (pln w) W.heap.size := fun p v hp hv => by
    have := (ezb_cell hv).2
    exact (pln_below hb).cell hp ▸ this
  have hc' : Cry (ezb W lo) w W.heap.size := fun p v hp hv => (pln_cell (hc p v hp hv)).1
  exact ⟨rd_cry h2 hc' hb.size, ⟨rows, h6.cry hc' hb.size⟩, la_row (h6.cry hc hb.size) h5⟩
end Go.Proofs.YtnmomlaimffonaaGreat.Gd
set_option maxRecDepth 100000
namespace Go.Proofs.YtnmomlaimffonaaGreat.Dr
open Go.RowKit Go.Lib Com Mem Cur
def words3 : List Int := [0, 1, 2, 3, 4, -1, 7, -8, 9223372036854775807, -9223372036854775808]
theorem words3_in : ∀ x ∈ words3, -9223372036854775808 ≤ x ∧ x ≤ 9223372036854775807 := by decide
theorem any3 (g : Nat) (A : Option Addr) (c : Nat) (xs : List UInt8) (w : World) (hc : CurAt w g A c xs) :
    Calls Tryz.prog 54 #[.pointer (some ⟨g, 0, none⟩)] w fun e w' => (∃ n : Int, -9223372036854775808 ≤ n ∧ n ≤ 9223372036854775807 ∧ e = .returned (.int .i64 n)) ∧ Drew w g A c xs w' := by
  have hp := hid (pickInt_lit g A c xs words3 w hc (by decide) (by decide))
  clear hc
  go_enter Tryz.func54, Tryz.ntmps54
  go_wp2_with fail
  refine hp.out.mono ?_
  rintro e w1 ⟨⟨s, hs, rfl⟩, hd⟩
  have hs := words3_in s hs
  have hd := hid hd
  go_wp2_with fail
  go_ret
  exact ⟨⟨s, hs.1, hs.2, rfl⟩, hd.out⟩
end Go.Proofs.YtnmomlaimffonaaGreat.Dr
set_option maxRecDepth 100000
namespace Go.Proofs.YtnmomlaimffonaaGreat.Big
open Go.RowKit
theorem big_any (A : Option Addr) (n c : Nat) (w : World) : Calls Tryz.prog 7 #[.slice A n c] w fun e w' => e = .returned (.bool (decide (1048576 < (n : Int)))) ∧ w = w' := by
  go_enter Tryz.func7, Tryz.ntmps7
  go_wp2_with fail
  go_ret
  exact ⟨rfl, rfl⟩
end Go.Proofs.YtnmomlaimffonaaGreat.Big
