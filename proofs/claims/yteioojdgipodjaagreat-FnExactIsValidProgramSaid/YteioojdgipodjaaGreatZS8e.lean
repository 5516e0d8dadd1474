/- The model's IsValidProgram. -/
import Derived.Test.YteioojdgipodjaaGreatZS8c
set_option maxRecDepth 100000
namespace Go.Proofs.YteioojdgipodjaaGreat.Gd
open Go.RowKit Go.Lib Go.Sort Go.Proofs.YteioojdgipodjaaGreat.Com Go.Proofs.YteioojdgipodjaaGreat.Mem Go.Proofs.YteioojdgipodjaaGreat.Os Go.Proofs.YteioojdgipodjaaGreat.Tr Go.Proofs.YteioojdgipodjaaGreat.Nm Go.Proofs.YteioojdgipodjaaGreat.C2

/-- the variables: valid names, at most two, all different -/
def varsB (V : List (List UInt8)) : Bool := V.all validB && (decide (V.length ≤ 2) && distB V)
/-- IsValidProgram -/
def okP (p : Pg) : Bool := varsB p.vs && (decide (cntL p.body ≤ 8) && (decide (depL p.body ≤ 3) && okSts p.vs p.body))
set_option maxHeartbeats 2000000 in
theorem svars8 (V : List (List UInt8)) (hs : ∀ x ∈ V, x.length ≤ maxI) (hV : V.length ≤ maxI) (A : Option Addr) (c : Nat) (hcap : V.length ≤ c) (w : World) (hr : Rd w w.heap.size A (V.map sv)) :
    Calls Tryz.prog 27 #[.slice A V.length c] w fun e w' => e = .returned (.bool (varsB V)) ∧ Below w.heap.size w w' := by
  have hV63 : V.length ≤ 9223372036854775807 := hV
  have cD := hid (fun wx (hb : Below w.heap.size w wx) => sdistinct_any A c V wx ((hr.below hb).more hb.size) hcap hV63)
  generalize hL : V.length = n at *
  go_enter Tryz.func27, Tryz.ntmps27
  go_wp2_with fail
  go_loopw [3] (fun i wr => ∃ m : Nat, m ≤ n ∧ i = .int .i64 m ∧ (∀ j, (hj : j < V.length) → j < m → validB V[j] = true) ∧ Below w.heap.size w wr) (fun i _ => n - (Go.RowKit.intOf i).toNat)
  case atStart => exact ⟨0, Nat.zero_le _, rfl, fun j _ h => absurd h (Nat.not_lt_zero _), Below.refl _ _⟩
  case round =>
    obtain ⟨m, hm, rfl, hall, hb⟩ := hrel
    by_cases hlt : m < n
    · have hml : m < V.length := by omega
      obtain ⟨ad, rfl, _, hcm⟩ := Lh.rd_str (hr.below hb) hml
      have hck := svalid_any V[m] wr (hs _ (List.getElem_mem hml))
      replace hall := hid hall
      replace hb := hid hb
      cases hq : validB V[m] with
      | true =>
        rw [hq] at hck
        have hnx := hid (show ∀ j, (hj : j < V.length) → j < m + 1 → validB V[j] = true from fun j hj h2 => by
          by_cases e : j = m
          · subst e; exact hq
          · exact hall.out j hj (by omega))
        replace hck := hid hck
        clear hq
        generalize V[m] = x at *
        go_wp2_with fail
        refine hck.out.mono ?_
        rintro e2 w2 ⟨rfl, hb2⟩
        have hb2 := hid (hb.out.trans (hb2.mono hb.out.size))
        go_wp2_with fail
        exact ⟨⟨m + 1, hlt, by go_num, hnx.out, hb2.out⟩, by simp [Go.RowKit.intOf]; omega⟩
      | false =>
        rw [hq] at hck
        have hf := hid (show varsB V = false by
          unfold varsB
          have : V.all validB = false := by
            rw [List.all_eq_false]
            exact ⟨V[m], List.getElem_mem hml, by rw [hq]; simp⟩
          rw [this]; rfl)
        replace hck := hid hck
        clear hq
        generalize V[m] = x at *
        go_wp2_with fail
        refine hck.out.mono ?_
        rintro e2 w2 ⟨rfl, hb2⟩
        have hb2 := hid (hb.out.trans (hb2.mono hb.out.size))
        go_wp2_with fail
        go_ret
        exact ⟨by rw [hf.out]; rfl, hb2.out⟩
    · obtain rfl : m = n := by omega
      have hva : V.all validB = true := by
        rw [List.all_eq_true]
        intro x hx
        obtain ⟨j, hj, e⟩ := List.getElem_of_mem hx
        rw [← e]; exact hall j hj (by omega)
      have hcl := hid (cD.out wr hb)
      replace hb := hid hb
      clear hall cD
      by_cases h2 : m ≤ 2
      · have t1 : decide ((m : Int) ≤ 2) = true := decide_eq_true (by omega)
        have hf := hid (show varsB V = distB V by unfold varsB; rw [hva, decide_eq_true (show V.length ≤ 2 by omega)]; rfl)
        clear hva
        go_wp2_with fail
        refine hcl.out.mono ?_
        rintro e2 w2 ⟨rfl, hb2⟩
        have hb2 := hid (hb.out.trans (hb2.mono hb.out.size))
        go_wp2_with fail
        go_ret
        exact ⟨by rw [hf.out]; rfl, hb2.out⟩
      · have t1 : decide ((m : Int) ≤ 2) = false := decide_eq_false (by omega)
        have hf := hid (show varsB V = false by unfold varsB; rw [hva, decide_eq_false (show ¬ V.length ≤ 2 by omega)]; rfl)
        clear hva hcl
        go_wp2_with fail
        go_ret
        exact ⟨by rw [hf.out]; rfl, hb.out⟩
set_option maxHeartbeats 4000000 in
theorem svalidP (p : Pg) (hsz : exL p.body ≤ 1900000) (hcn : cntL p.body ≤ 1900000) (cs : List Value) (w : World) (hv : Rd8 w w.heap.size cs p.d) :
    Calls Tryz.prog 8 #[.agg cs.toArray] w fun e w' => e = .returned (.bool (okP p)) ∧ Below w.heap.size w w' := by
  obtain ⟨A, c, Bb, cb, rows, rfl, hr, hs, hl, hk, hlb⟩ := pg_inv hv
  obtain ⟨V, P⟩ := p
  dsimp only at hr hs hl hk hlb hsz hcn ⊢
  have b1 : Below w.heap.size w (w.alloc (.cells (pc A V.length c Bb P.length cb).toArray 27)) := box8
  have bx := hid (Blk.new w 27 (pc A V.length c Bb P.length cb))
  have cV := hid (svars8 V hs hl.1 A c hl.2 _ ((hr.below b1).more b1.size))
  have cL := hid (fun wx (hb : Below w.heap.size w wx) => sleftS _ P rfl Bb cb rows 8 wx (hk.go hb) hlb (by omega) (by omega))
  have cD := hid (fun wx (hb : Below w.heap.size w wx) => sdepS _ P rfl (by omega) Bb cb rows wx (hk.go hb))
  have cS := hid (fun wx (hb : Below w.heap.size w wx) => sstmts V P (fun a _ => sstmt V hl.1 a) Bb cb rows wx (hk.go hb) hlb hsz A c ((hr.below hb).more hb.size))
  have hok := hid (show okP ⟨V, P⟩ = (varsB V && (decide (cntL P ≤ 8) && (decide (depL P ≤ 3) && okSts V P))) from rfl)
  replace b1 := hid b1
  have hl8 := szAns_low (cntL P) (l := 8) (by omega) (by omega)
  have hq8 : decide (0 ≤ szAns (cntL P) 8) = decide (cntL P ≤ 8) := by
    unfold szAns
    by_cases h : ((cntL P : Nat) : Int) ≤ 8
    · rw [if_pos h, decide_eq_true (show 0 ≤ 8 - ((cntL P : Nat) : Int) by omega), decide_eq_true (show cntL P ≤ 8 by omega)]
    · rw [if_neg h, decide_eq_false (show ¬ (0 : Int) ≤ -1 by omega), decide_eq_false (show ¬ cntL P ≤ 8 by omega)]
  generalize szAns (cntL P) 8 = z8 at *
  generalize okP ⟨V, P⟩ = Q at *
  generalize varsB V = q1 at *
  generalize decide (cntL P ≤ 8) = q2 at *
  generalize okSts V P = q4 at *
  have hd3 : decide ((depL P : Int) ≤ 3) = decide (depL P ≤ 3) := decide_eq_decide.2 (by omega)
  generalize depL P = dp at *
  generalize decide (dp ≤ 3) = q3 at *
  clear hv hr hk hs hl hlb hsz hcn hl8
  go_enter Tryz.func8, Tryz.ntmps8
  obtain ⟨k0, k1⟩ := two bx.out
  go_wp2_with fail
  refine cV.out.mono ?_
  rintro e2 w2 ⟨rfl, hb⟩
  have b2 := hid (b1.out.trans (hb.mono b1.out.size))
  have bx2 := hid (bx.out.below hb bx.out.lt)
  clear hb k0 k1 bx b1 cV
  obtain ⟨k0, k1⟩ := two bx2.out
  cases q1 with
  | false =>
    go_wp2_with fail
    go_ret
    exact ⟨by rw [hok.out]; rfl, b2.out⟩
  | true =>
  go_wp2_with fail
  refine (cL.out w2 b2.out).mono ?_
  rintro e3 w3 ⟨rfl, hb⟩
  have b3 := hid (b2.out.trans (hb.mono b2.out.size))
  have bx3 := hid (bx2.out.below hb bx2.out.lt)
  clear hb k0 k1 bx2 b2 cL
  obtain ⟨k0, k1⟩ := two bx3.out
  cases q2 with
  | false =>
    go_wp2_with fail
    go_ret
    exact ⟨by rw [hok.out]; rfl, b3.out⟩
  | true =>
  go_wp2_with fail
  refine (cD.out w3 b3.out).mono ?_
  rintro e4 w4 ⟨rfl, hb⟩
  have b4 := hid (b3.out.trans (hb.mono b3.out.size))
  have bx4 := hid (bx3.out.below hb bx3.out.lt)
  clear hb k0 k1 bx3 b3 cD
  obtain ⟨k0, k1⟩ := two bx4.out
  cases q3 with
  | false =>
    go_wp2_with fail
    go_ret
    exact ⟨by rw [hok.out]; rfl, b4.out⟩
  | true =>
  go_wp2_with fail
  refine (cS.out w4 b4.out).mono ?_
  rintro e5 w5 ⟨rfl, hb⟩
  have b5 := hid (b4.out.trans (hb.mono b4.out.size))
  clear hb k0 k1 bx4 b4 cS
  go_wp2_with fail
  go_ret
  exact ⟨by rw [hok.out]; rfl, b5.out⟩
end Go.Proofs.YteioojdgipodjaaGreat.Gd
