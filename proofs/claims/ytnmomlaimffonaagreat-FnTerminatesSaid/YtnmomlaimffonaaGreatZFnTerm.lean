/- FnTerminates: a run that is not finished after the maximal fuel is in a configuration for the second time: the walk. -/
import Derived.Test.YtnmomlaimffonaaGreatZDr22
import Derived.Test.YtnmomlaimffonaaGreatZI13
import Derived.ProofKit
import Derived.OpenShut
import Derived.Deep.Strs
import Derived.Carry
import Derived.Below
import Derived.ChangeSame
set_option maxHeartbeats 8000000
set_option maxRecDepth 100000
namespace Go.Proofs.YtnmomlaimffonaaGreat.FnTerm
open Go.RowKit Go.Lib Go.Sort Com Mem YtnmomlaimffonaaGreat.Os Ow Tr Pl Gd Gs Oc Rn
theorem walk (w : World) (A : Option Addr) (k : Nat) (xs : List UInt8) (hr : Rd w w.heap.size A (xs.map bv)) (_ : xs.length ≤ 9223372036854775807) :
    Calls Tryz.prog 4 #[.slice A xs.length k] w fun e w' => e = .returned (.bool true) ∧ Below w.heap.size w w' := by
  have hbig := hid (Big.big_any A xs.length k w)
  by_cases hb : 1048576 < xs.length
  · rw [decide_eq_true (show 1048576 < (xs.length : Int) by omega)] at hbig
    go_enter Tryz.func4, Tryz.ntmps4
    go_wp2_with fail
    refine hbig.out.mono ?_
    rintro e w1 ⟨rfl, rfl⟩
    go_wp2_with fail
    go_ret
    exact ⟨rfl, Below.refl _ _⟩
  rw [decide_eq_false (show ¬ 1048576 < (xs.length : Int) by omega)] at hbig
  have hd1 := hid (drawTerm11 A k xs w hr (by omega))
  clear hb hr
  go_enter Tryz.func4, Tryz.ntmps4
  go_wp2_with fail
  refine hbig.out.mono ?_
  rintro e w1 ⟨rfl, rfl⟩
  go_wp2_with fail
  refine hd1.out.mono ?_
  rintro e w1 ⟨v, V, L, vi, S, rfl, hO, n1, n2, n3, n4, hI, n5, hb1⟩
  obtain ⟨VA, vc, B, bc, rfl, f1, f2, f3, f4, hF⟩ := hO.form
  obtain ⟨AS, cS, rfl, hN, hSr⟩ := hI.rd
  have hVm : V.length ≤ maxI := by unfold maxI; omega
  have hVs : ∀ x ∈ V, x.length ≤ maxI := fun x hx => by have := n2 x hx; unfold maxI; omega
  have hex := ex_nx L
  have hbx := box_below w1 (.cells #[.slice VA V.length vc, .slice B L.length bc] PI)
  have P2 := hid (Blk.new w1 PI [.slice VA V.length vc, .slice B L.length bc])
  have C2 := hid hbx
  have B0 := hid (fun (W : World) (h : Below w1.heap.size w1 W) => hb1.trans (h.mono hb1.size))
  have hSl : S.length ≤ I63 := by unfold I63; omega
  have cI := hid (fun (W : World) (h : Below w1.heap.size w1 W) => iterm_any ⟨V, L⟩ VA vc B bc S AS cS W (hF W h).1 f4 hVm hVs (hF W h).2.2 f3 (by show cntL L ≤ 4000000; omega) (by show exL L ≤ 1048576; omega) (hSr W h) hSl hN)
  have cR := hid (fun (W : World) (h : Below w1.heap.size w1 W) => irun_any ⟨V, L⟩ VA vc B bc S AS cS 400 W (hF W h).1 f4 hVm hVs (hF W h).2.2 f3 (by show cntL L ≤ 4000000; omega) (by show exL L ≤ 1048576; omega) (hSr W h) hSl hN)
  have cS := hid (fun (W : World) (h : Below w1.heap.size w1 W) => show Calls Tryz.prog 16 #[.agg #[.slice VA V.length vc, .slice B L.length bc], .slice AS S.length cS] W _ from by
    obtain ⟨r1, ⟨rows, r2⟩, -⟩ := hF W h
    exact sterm_any ⟨V, L⟩ _ S AS cS W (rd_pg r1 hVs hVm f1 r2 f3 f2) (by show cntL L ≤ 1900000; omega) (by show exL L ≤ 1900000; omega) (hSr W h) hSl hN)
  have hT1 := hid (term_t (p := ⟨V, L⟩) (S := S))
  have hT0 := hid (term_f (p := ⟨V, L⟩) (S := S))
  dsimp only at cI cR cS
  generalize termB ⟨V, L⟩ S = T at *
  generalize runO ⟨V, L⟩ S 400 = RO at *
  have m1 : (T != T) = false := bne_self_eq_false _
  clear hO hI hb1 hbx hbig hd1 hF hSr hVm hVs hex n1 n2 n3 n4 n5 f1 f2 f3 f4 hN hSl
  generalize V.length = vl at *
  generalize L.length = ll at *
  generalize S.length = sl at *
  obtain ⟨x0, x1⟩ := two P2.out
  obtain ⟨rst, rsg, rou, rco⟩ := RO
  dsimp only at hT1 hT0
  go_wp2_with fail
  generalize (w1.alloc (.cells #[.slice VA vl vc, .slice B ll bc] PI)) = w2 at *
  refine (cI.out w2 C2.out).mono ?_
  rintro e w3 ⟨rfl, hb⟩
  have P3 := hid (P2.out.below hb P2.out.lt)
  have C3 := hid (C2.out.trans (hb.mono C2.out.size))
  clear hb P2 C2 cI x0 x1
  obtain ⟨x0, x1⟩ := two P3.out
  go_wp2_with fail
  refine (cS.out w3 C3.out).mono ?_
  rintro e w4 ⟨rfl, hb⟩
  have P4 := hid (P3.out.below hb P3.out.lt)
  have C4 := hid (C3.out.trans (hb.mono C3.out.size))
  clear hb P3 C3 cS x0 x1
  obtain ⟨x0, x1⟩ := two P4.out
  go_wp2_with fail
  refine (cR.out w4 C4.out).mono ?_
  rintro e w5 ⟨r, rfl, hO, hb⟩
  obtain ⟨vS, vO, m, rfl, -, -, oS, oO⟩ := hO
  obtain ⟨A5, c5, rfl, -⟩ := oS.read_
  obtain ⟨A6, c6, rfl, -⟩ := oO.read_
  dsimp only
  have b6 := bxb w5 (.cells #[.int .i64 rst, .slice A5 rsg.length c5, .slice A6 rou.length c6, .int .i64 rco] 32)
  have Q6 := hid (box_blkO w5 rst A5 rsg.length c5 A6 rou.length c6 rco 32)
  have C6 := hid ((C4.out.trans (hb.mono C4.out.size)).trans (b6.mono (C4.out.trans (hb.mono C4.out.size)).size))
  clear hb oS oO b6 P4 C4 cR x0 x1
  obtain ⟨q0, q1, q2, q3⟩ := fourO Q6.out
  cases T with
  | true =>
    obtain ⟨h1, h2⟩ := hT1.out rfl
    have t1 : decide (rco ≤ 128) = true := decide_eq_true h1
    by_cases h3 : rst = 1
    · have t2 : (rst == 1) = true := beq_iff_eq.2 h3
      clear hT0 hT1 h1 h2 h3
      go_wp2_with fail
      go_ret
      exact ⟨rfl, B0.out _ C6.out⟩
    · have t2 : (rst == 1) = false := beq_false_of_ne h3
      rw [t2, Bool.false_or] at h2
      clear hT0 hT1 h1 h3
      go_wp2_with fail
      go_ret
      exact ⟨rfl, B0.out _ C6.out⟩
  | false =>
    rcases hT0.out rfl with h1 | ⟨h1, h2⟩
    · subst h1
      clear hT0 hT1
      go_wp2_with fail
      go_ret
      exact ⟨rfl, B0.out _ C6.out⟩
    · subst h1 h2
      clear hT0 hT1
      go_wp2_with fail
      go_ret
      exact ⟨rfl, B0.out _ C6.out⟩
end Go.Proofs.YtnmomlaimffonaaGreat.FnTerm
set_option maxRecDepth 100000
namespace Go.Proofs.YtnmomlaimffonaaGreat.Close
open Mem
open Go.ChangeShapes Go.WideShapes Go.ChangeAt Go.RowKit
theorem own : ownKnob Tryz.prog.godebug = none := by kernel_rfl
theorem laidOut : laidOutB Tryz.prog = true := by kernel_rfl
section
variable {H : Type} {enc : TypeId × Value → H} {P : Program}
theorem trodAll_below (hl : laidOutB P = true) {W W' : World} (hb : Below W.heap.size W W') : ∀ {ts : List TypeId} {vs : List Value} {ds : List (DataW H)} {ps : List MemPlace}, (∀ t ∈ ts, P.readableRec t = true ∧ t < P.types.size) →
    DataW.TrodAll enc P W 0 (fun _ => true) true ts vs ds ps → (∀ x ∈ ps, x.block < W.heap.size) → DataW.TrodAll enc P W' 0 (fun b => decide (b < W.heap.size)) true ts vs ds ps
  | [], [], [], _, _, h, _ => h
  | t :: ts, v :: vs, d :: ds, ps, hr, h, hlt => by
    obtain ⟨p, q, h1, h2, rfl⟩ := h
    exact ⟨p, q, Below.trod hl (hr t List.mem_cons_self).1 (hr t List.mem_cons_self).2 h1 hb (fun x hx => hlt x (List.mem_append_left _ hx)),
      trodAll_below hl hb (fun t ht => hr t (List.mem_cons_of_mem _ ht)) h2 (fun x hx => hlt x (List.mem_append_right _ hx)), rfl⟩
  | [], _ :: _, _, _, _, h, _ => h.elim
  | [], [], _ :: _, _, _, h, _ => h.elim
  | _ :: _, [], _, _, _, h, _ => h.elim
  | _ :: _, _ :: _, [], _, _, h, _ => h.elim
theorem law_post {f : Func} {s : ChangeSpec} {W W' : World} {args : Array Value} {ds : List (DataW H)} {before : List MemPlace} {tb : TypeId}
    (hl : laidOutB P = true) (hr : ∀ t ∈ f.params.toList, P.readableRec t = true ∧ t < P.types.size)
    (hW : DataW.Whole enc P f.params.toList s.vars false W args.toList ds [] before) (hv : s.vars = []) (hrt : f.resultTypes = #[tb]) (hbool : P.underlying tb = some .bool)
    (e1 : (s.fn H (ds ++ [])).results = [.lit (.bool true)]) (e2 : (s.fn H (ds ++ [])).args = ds) (e3 : (s.fn H (ds ++ [])).vars = []) (hb : Below W.heap.size W W') :
    s.post enc P f false true false false W args (.bool true) W' := by
  have hlt : ∀ x ∈ before, x.block < W.heap.size := fun x hx => hW.lt x hx
  obtain ⟨p, q, hA, hV, hpq, _, _⟩ := id hW
  refine ⟨ds, [], before, [], p, [], hW, ?_, ?_, ?_, hb.frame _, fun h => by cases h⟩
  · rw [e1, hrt]
    exact trodAll_mk1 (shut_bool hbool _)
  · rw [e2]
    exact trodAll_below hl hb hr hA (fun x hx => hlt x (by rw [hpq]; exact List.mem_append_left _ hx))
  · rw [e3, hv]
    rfl
end
theorem lt_cell {w : World} {a : Addr} {v : Value} (h : w.cell? a = some v) : a.block < w.heap.size := by
  rcases Nat.lt_or_ge a.block w.heap.size with hlt | hge
  · exact hlt
  · unfold World.cell? at h; rw [Array.getElem?_eq_none hge] at h; cases h
theorem open_intL {H : Type} {enc : TypeId × Value → H} {P : Program} {W : World} {base : Nat} {sp : Nat → Bool} {v : Value} {d : DataW H} {p : List MemPlace} {t e : TypeId} {k : IntKind}
    (ht : P.underlying t = some (.slice e)) (he : P.underlying e = some (.int k)) (hce : P.cellsOf e = 1)
    (hv : Value.okWide P W .any base t v) (h : DataW.Trod enc P W 0 sp true t v d p) :
    ∃ (A : Option Addr) (c : Nat) (l : List Int), v = .slice A l.length c ∧ Rd W W.heap.size A (l.map (Value.int k)) ∧ (∀ x ∈ l, (Lit.int k x).wf = true) ∧ l.length ≤ 9223372036854775807 := by
  obtain ⟨a0, len, cap, rfl⟩ := okWide_slice ht hv
  obtain ⟨n, hn⟩ := h
  rcases open_ints ht he hce hn with ⟨hcs, hx⟩ | ⟨a, len', cap', ss, hcs, _, hl, hm, hz, hx, hcell, hws⟩
  · simp [Value.cells] at hcs
    obtain ⟨rfl, rfl, rfl⟩ := hcs
    exact ⟨none, 0, [], rfl, Rd.nil_, by simp, by simp⟩
  · simp [Value.cells] at hcs
    obtain ⟨rfl, rfl, rfl⟩ := hcs
    have hlen : (ss.take len).length = len := by rw [List.length_take, hz]; split <;> omega
    refine ⟨some a, cap, ss.take len, by rw [hlen], fun _ => ⟨a, rfl, ?_, ?_⟩, fun x hx => hws x (List.mem_of_mem_take hx), by rw [hlen]; unfold maxLen at hm; omega⟩
    · by_cases h0 : len = 0
      · rename_i hne; subst h0; simp at hne
      · have := lt_cell (hcell 0 (by rw [List.length_take] at hlen; omega))
        rwa [add_block] at this
    · intro j u hu
      rw [List.getElem?_map] at hu
      cases hq : (ss.take len)[j]? with
      | none => rw [hq] at hu; cases hu
      | some y =>
        rw [hq] at hu
        obtain ⟨hj, hy⟩ := List.getElem?_eq_some_iff.1 hq
        have hjl : j < ss.length := by rw [List.length_take] at hj; omega
        rw [hcell j hjl, ← Option.some.inj hu]
        rw [List.getElem_take] at hy
        rw [List.getD_eq_getElem?_getD, List.getElem?_eq_getElem hjl, Option.getD_some, hy]
theorem cellsU8 : Tryz.prog.cellsOf 5 = 1 := by kernel_rfl
set_option maxRecDepth 100000 in
theorem open_bytesL {H : Type} {enc : TypeId × Value → H} {W : World} {base : Nat} {sp : Nat → Bool} {v : Value} {d : DataW H} {p : List MemPlace}
    (hv : Value.okWide Tryz.prog W .any base 22 v) (h : DataW.Trod enc Tryz.prog W 0 sp true 22 v d p) :
    ∃ (A : Option Addr) (c : Nat) (l : List UInt8), v = .slice A l.length c ∧ Rd W W.heap.size A (l.map bv) ∧ l.length ≤ 9223372036854775807 := by
  obtain ⟨A, c, l, rfl, hr, hw, hl⟩ := open_intL Tryz.underlying22 Tryz.underlying5 cellsU8 hv h
  have e : (l.map fun x => UInt8.ofNat x.toNat).map bv = l.map (Value.int .u8) := by
    rw [List.map_map]
    refine List.map_congr_left fun x hx => ?_
    have hwx := hw x hx
    have hb : 0 ≤ x ∧ x ≤ 255 := by simpa [Lit.wf, IntKind.min, IntKind.max, IntKind.signed, IntKind.bits] using hwx
    show Value.int .u8 ((UInt8.ofNat x.toNat).toNat : Int) = Value.int .u8 x
    have e2 : ((UInt8.ofNat x.toNat).toNat : Int) = x := by rw [UInt8.toNat_ofNat']; omega
    rw [e2]
  exact ⟨A, c, l.map fun x => UInt8.ofNat x.toNat, by rw [List.length_map], by rw [e]; exact hr, by rw [List.length_map]; exact hl⟩
end Go.Proofs.YtnmomlaimffonaaGreat.Close
