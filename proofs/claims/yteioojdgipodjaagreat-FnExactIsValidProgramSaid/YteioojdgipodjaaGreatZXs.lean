/- The program's counts of statements. -/
import Derived.Test.YteioojdgipodjaaGreatZMes
import Derived.Test.YteioojdgipodjaaGreatZXq
import Derived.Test.YteioojdgipodjaaGreatZE8
set_option maxRecDepth 100000
namespace Go.Proofs.YteioojdgipodjaaGreat.Gd
open Go.RowKit Go.Lib Go.Sort Go.Proofs.YteioojdgipodjaaGreat.Com Go.Proofs.YteioojdgipodjaaGreat.Mem Go.Proofs.YteioojdgipodjaaGreat.Os Go.Proofs.YteioojdgipodjaaGreat.Tr Go.Proofs.YteioojdgipodjaaGreat.Pl Go.Proofs.YteioojdgipodjaaGreat.Kd Go.Proofs.YteioojdgipodjaaGreat.Gs

theorem own_rdp {e lo hi : Nat} {w : World} {v : Value} {xs : List Value} (h : Own e lo hi w v xs) : ∃ A c, v = .slice A xs.length c ∧ Rd (pln w) w.heap.size A xs ∧ xs.length ≤ maxI ∧ xs.length ≤ c := by
  obtain ⟨A, c, cs, ev, h1, h2, h3, h4, h5⟩ := h
  refine ⟨A, c, ev, fun hne => ?_, by unfold maxLen at h2; unfold maxI; omega, h1⟩
  cases A with
  | none => exact absurd (h3 rfl).1 hne
  | some ad =>
    obtain ⟨e1, _, _, hB⟩ := h4 ad rfl
    rw [e1]
    refine ⟨_, rfl, hB.lt, fun j u hu => ?_⟩
    rw [pln_in (by rw [add_block]; exact Blk.pl hB), add_zero, hB.cell]
    rw [← h5, List.getElem?_take] at hu
    split at hu
    · exact hu
    · cases hu
/-- what the call itself has made lies in plain blocks -/
theorem own_plnD {w : World} {R : Nat → Prop} {cs : List Value} {ds : List D} (h : OwnD w R cs ds) : Rd8 (pln w) w.heap.size cs ds := by
  induction h with
  | nil => exact .nil
  | i _ ih => exact .i ih
  | b _ ih => exact .b ih
  | s h _ ih => exact .s h ih
  | x h h1 h2 _ ih => exact .x (own_pln h) ih
  | ss h hs h1 h2 _ ih =>
    obtain ⟨A, c, rfl, hr, hl⟩ := own_rdp h
    rw [List.length_map] at *
    exact .ss hr hs hl ih
  | is h h1 h2 _ ih =>
    obtain ⟨A, c, rfl, hr, hl⟩ := own_rdp h
    rw [List.length_map] at *
    exact .is hr hl ih
  | sl rows Rs hl hc h0 hA hk hR' hd h2 r ihk ih =>
    rename_i R1 R2 n A c l cs1 ds1
    refine .sl rows ⟨by unfold maxLen at hc; unfold maxI; omega, hl⟩ (fun j hj => ?_) ihk ih
    cases A with
    | none => have := h0 rfl; omega
    | some ad =>
      obtain ⟨g, cs0, e1, h3, h4, h5, h6, h7⟩ := hA ad rfl
      subst e1
      refine ⟨(h6 j hj).1, _, rfl, h5.lt, fun i u hu => ?_⟩
      rw [pln_in (by rw [add_block, add_block]; exact Blk.pl h5)]
      exact blk_ldN h5 h6 hj i u hu
theorem la_row {W : World} {B : Nat} {A : Option Addr} {c : Nat} {L : List St} {rows : Nat → List Value} (h : Row W B 1 A (dl L) rows) (hl : L.length ≤ maxI) : LA W B ⟨A, c, L⟩ := by
  refine ⟨rows, fun j hj => ?_, fun j t ht => ?_, hl⟩
  · obtain ⟨hw, ad, ea, hB, hld⟩ := h.cell j (by simpa [dl] using hj)
    exact ⟨ad, ea, hB, hw, hld⟩
  · have ht : L[j]? = some t := ht
    exact h.kid j _ (by simp [dl, ht])
theorem own_la {lo hi : Nat} {w : World} {v : Value} {L : List St} (h : OwnL lo hi w v L) : ∃ A c, v = .slice A L.length c ∧ LA (pln w) w.heap.size ⟨A, c, L⟩ := by
  obtain ⟨A, c, r, rows, e, hk, hl, _⟩ := (own_plnD h).sl_
  injection e with e _
  rw [dl_len] at *
  exact ⟨A, c, e, la_row hk hl⟩
theorem dep_max (L : List St) : (depL L : Int) = max 1 ((kdS.depL L : Nat) : Int) := by
  by_cases h : L = []
  · subst h
    have e1 : depL [] = 1 := by simp [depL]
    have e2 : kdS.depL ([] : List St) = 0 := rfl
    rw [e1, e2]; rfl
  · have e : depL L = kdS.depL L := depL_mx h
    have := depL_pos L
    rw [e] at this ⊢
    omega
theorem extS0 (a b : Int) (w : World) : (Instr.field 60 (.agg #[.int .i64 a, .int .i64 b]) 0).run Tryz.prog w = .ok (.int .i64 a) w := by kernel_rfl
theorem extS1 (a b : Int) (w : World) : (Instr.field 60 (.agg #[.int .i64 a, .int .i64 b]) 1).run Tryz.prog w = .ok (.int .i64 b) w := by kernel_rfl
set_option maxHeartbeats 1000000 in
theorem icountL (ln : LN St) (w : World) (h : LA (pln w) w.heap.size ln) (hbd : cntL ln.ks ≤ 4000000) : Calls Tryz.prog 10 #[slv ln] w fun e w' => e = .returned (.int .i64 (cntL ln.ks)) ∧ Below w.heap.size w w' := by
  have hcl := imeasure ln w h (by rw [cntL_S]; exact hbd)
  rw [cntL_S] at hcl
  replace hcl := hid hcl
  have q0 := fun w => extS0 (cntL ln.ks) (kdS.depL ln.ks) w
  clear h hbd
  go_enter Tryz.func10, Tryz.ntmps10
  go_wp2_with fail
  refine hcl.out.mono ?_
  rintro e w2 ⟨rfl, hb2⟩
  have hb2 := hid hb2
  go_wp2_with fail
  go_ret
  exact ⟨rfl, hb2.out⟩
theorem icountL_own {lo hi : Nat} {v : Value} {L : List St} (w : World) (h : OwnL lo hi w v L) (hz : szL8 L ≤ 1048576) : Calls Tryz.prog 10 #[v] w fun e w' => e = .returned (.int .i64 (cntL L)) ∧ Below w.heap.size w w' := by
  obtain ⟨A, c, rfl, hl⟩ := own_la h
  exact icountL _ w hl (by have := cnt_sz8 L; show cntL L ≤ _; omega)
set_option maxHeartbeats 1000000 in
theorem idepthL (ln : LN St) (w : World) (h : LA (pln w) w.heap.size ln) (hbd : cntL ln.ks ≤ 4000000) : Calls Tryz.prog 12 #[slv ln] w fun e w' => e = .returned (.int .i64 (depL ln.ks)) ∧ Below w.heap.size w w' := by
  have hcl := imeasure ln w h (by rw [cntL_S]; exact hbd)
  rw [cntL_S] at hcl
  replace hcl := hid hcl
  have hm := hid (dep_max ln.ks)
  have q0 := fun w => extS1 (cntL ln.ks) (kdS.depL ln.ks) w
  clear h hbd
  go_enter Tryz.func12, Tryz.ntmps12
  go_wp2_with fail
  refine hcl.out.mono ?_
  rintro e w2 ⟨rfl, hb2⟩
  have hb2 := hid hb2
  go_wp2_with fail
  go_ret
  exact ⟨by rw [hm.out]; rfl, hb2.out⟩
theorem idepthL_own {lo hi : Nat} {v : Value} {L : List St} (w : World) (h : OwnL lo hi w v L) (hz : szL8 L ≤ 1048576) : Calls Tryz.prog 12 #[v] w fun e w' => e = .returned (.int .i64 (depL L)) ∧ Below w.heap.size w w' := by
  obtain ⟨A, c, rfl, hl⟩ := own_la h
  exact idepthL _ w hl (by have := cnt_sz8 L; show cntL L ≤ _; omega)
end Go.Proofs.YteioojdgipodjaaGreat.Gd
