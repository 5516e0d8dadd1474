/- The program's parser of programs: leaving a statement, the names of the variables, where a statement begins. -/
import Derived.Defers
import Derived.Test.YtiogceepjffmkaaGreatDoorQFn10
set_option maxHeartbeats 4000000
set_option maxRecDepth 100000
namespace Go.Proofs.YtiogceepjffmkaaGreatDoor.Gd
open Go.RowKit Go.Lib Go.Sort Num Com Mem Ow YtiogceepjffmkaaGreatDoor.Os Tr Tk
theorem gb_own {a b d : World} {row o : Option Nat} (h : a.grownBy b row) (k : b.grownBy d o) (ho : ∀ q, o = some q → a.heap.size ≤ q) : a.grownBy d row :=
 ⟨k.os.trans h.os, k.tape.trans h.tape, k.output.trans h.output, Nat.le_trans h.size k.size, fun i hi hr => (k.block i (Nat.lt_of_lt_of_le hi h.size) fun e => by have := ho i e.symm; omega).trans (h.block i hi hr)⟩
theorem own_row {e lo : Nat} {w : World} {v : Value} {xs : List Value} (h : w.ownsRow lo e 1 v xs.length xs) : Os.Own e lo w.heap.size w v xs := by
 rcases h.2 with ⟨hv, hn⟩ | ⟨g, c, cur, hv, hb, hblk, hnc, hcm, _, ht⟩
 ·have hx := List.eq_nil_of_length_eq_zero hn
  subst hx
  exact ⟨none, 0, [], hv, Nat.le_refl _, Nat.zero_le _, fun _ => ⟨rfl, rfl⟩, (fun ad e => by cases e), rfl⟩
 ·refine ⟨some ⟨g, 0, none⟩, c, cur.toList, hv, hnc, hcm, (fun e => by cases e), (fun ad e => ?_), by simpa using ht⟩
  cases e
  exact ⟨rfl, hb, (Array.getElem?_eq_some_iff.1 hblk).1, by unfold Blk; rw [Array.toArray_toList]; exact hblk⟩
theorem results_cell2c {P : Program} {fn : Func} {p q : Tmp} {ty ty2 : TypeId} (h : fn.results = #[.cell p ty, .cell q ty2]) (tmps : Array Value) (w : World) (g b : Nat) (t : TypeId) (cs : Array Value) (fr : Nat × Nat) (d : TypeDesc) (v : Value)
  (hp : tmps.getD p undef = .pointer (some ⟨g, 0, none⟩)) (hg : w.heap[g]? = some (.cells cs t fr))
  (hu : P.underlying ty = some d) (hd : (match d with | .struct _ | .array _ _ => true | _ => false) = true) (hi : (P.info? ty).map (·.size) = some cs.size)
  (hq : tmps.getD q undef = .pointer (some ⟨b, 0, none⟩)) (hv : (loadVar ty2 ⟨b, 0, none⟩).run P w = .ok v w) :
  (results fn tmps).run P w = .ok (.tuple #[.agg cs, v]) w := by
 have hp' : tmps[p]?.getD undef = .pointer (some ⟨g, 0, none⟩) := by simpa using hp
 have hq' : tmps[q]?.getD undef = .pointer (some ⟨b, 0, none⟩) := by simpa using hq
 simp [results, h, hp', hq', asAddr, run_loadVar_row w g t ty cs fr d hg hu hd hi, hv, Sem.run_bind, Result.andThen]
theorem results_tmp_cell {P : Program} {fn : Func} {p q : Tmp} {ty2 : TypeId} (h : fn.results = #[.tmp p, .cell q ty2]) (tmps : Array Value) (w : World) (b : Nat) (v : Value)
  (hq : tmps.getD q undef = .pointer (some ⟨b, 0, none⟩)) (hv : (loadVar ty2 ⟨b, 0, none⟩).run P w = .ok v w) :
  (results fn tmps).run P w = .ok (.tuple #[tmps.getD p undef, v]) w := by
 have hq' : tmps[q]?.getD undef = .pointer (some ⟨b, 0, none⟩) := by simpa using hq
 simp [results, h, hq', asAddr, hv, Result.andThen]
abbrev ErT : TypeId := 93
theorem load_err (w : World) (b : Nat) (v : Value) (h : w.cell? ⟨b, 0, none⟩ = some v) : (loadVar ErT ⟨b, 0, none⟩).run Tryz.prog w = .ok v w := by
 have hagg : (isAgg ErT).run Tryz.prog w = .ok false w := by
  unfold isAgg
  rw [Sem.run_bind, run_underlying Tryz.underlying93 w]
  rfl
 simp [loadVar, Sem.run_bind, hagg, h]
theorem leave_nil (g b c eb : Nat) (us : List Tok) (i : Nat) (s : List UInt8) (u : FrameMode) (w : World) (h : Prs w g b c us i) (hend : EndOk us) (hE : Blk w eb ErT [.nilIface]) (hne : eb ≠ g) :
  CallsD Tryz.prog 186 #[.pointer (some ⟨g, 0, none⟩), .string ⟨s.toArray⟩, .pointer (some ⟨eb, 0, none⟩)] u w fun e u' w' => u' = u ∧ (e = .returned (.tuple #[]) ∧
   ∃ w1, Prs w1 g b c us (nxB (seesB us i s) i) ∧ w.grownBy w1 (some g) ∧ w' = w1.setCell ⟨eb, 0, none⟩ (if seesB us i s = true then .nilIface else errV (us[i]?.getD ⟨0, 0, 0, []⟩).p)) := by
 have ht := hid (expect_any g b c us i s w h hend)
 have c0 := hE.cell 0
 have hE := hid hE
 clear h
 generalize seesB us i s = q at *
 go_enter_d Tryz.func186, Tryz.ntmps186
 go_wp2_with fail
 refine ht.out.mono ?_
 rintro e w1 ⟨rfl, hp, hg⟩
 have B1 := hE.out.gb hg (by omega)
 have hp := hid hp
 have hg := hid hg
 have c1 := B1.cell 0
 have f1 := B1.frozen 0
 clear B1 c0 ht
 cases q
 ·go_wp2_with fail
  go_end0
  exact ⟨rfl, w1, hp.out, hg.out, rfl⟩
 ·go_wp2_with fail
  go_end0
  exact ⟨rfl, w1, hp.out, hg.out, rfl⟩
theorem leave_err (g eb : Nat) (s : List UInt8) (a : Int) (u : FrameMode) (w : World) (hE : Blk w eb ErT [errV a]) :
  CallsD Tryz.prog 186 #[.pointer (some ⟨g, 0, none⟩), .string ⟨s.toArray⟩, .pointer (some ⟨eb, 0, none⟩)] u w fun e u' w' => u' = u ∧ (e = .returned (.tuple #[]) ∧ w' = w) := by
 have c0 := hE.cell 0
 go_enter_d Tryz.func186, Tryz.ntmps186
 go_wp2_with fail
 go_end0
 exact ⟨rfl, rfl⟩
theorem sees_text {ts : List Tok} {en : Int} (hG : ∀ t ∈ ts, GoodT t) {i : Nat} (hi : i < (uz ts en).length) {W : List UInt8} (hW : W ≠ []) : seesB ts i W = decide ((uz ts en)[i].s = W) := by
 rw [uz_len] at hi
 rcases Nat.lt_or_ge i ts.length with h | h
 ·rw [uz_at h]
  unfold seesB
  rw [List.getElem?_eq_getElem h]
  show isWordB ts[i] W = _
  unfold isWordB
  by_cases e : ts[i].s = W
  ·rcases hG _ (List.getElem_mem h) with ⟨hk, _⟩ | ⟨_, _, _, hs⟩ | ⟨hk, _⟩
   ·rw [hk]; simp
   ·exact absurd (e.symm.trans hs) hW
   ·rw [hk]; simp
  ·rw [decide_eq_false e, Bool.and_false]
 ·obtain rfl : i = ts.length := by omega
  rw [uz_end]
  unfold seesB
  rw [List.getElem?_eq_none (Nat.le_refl _)]
  exact (decide_eq_false (fun e => hW e.symm)).symm
theorem nameAt_uz {ts : List Tok} {en : Int} (hG : ∀ t ∈ ts, GoodT t) {i : Nat} (hi : i < (uz ts en).length) : nameAt ts i = if C2.validB (uz ts en)[i].s = true then some (uz ts en)[i].s else none := by
 rw [uz_len] at hi
 rcases Nat.lt_or_ge i ts.length with h | h
 ·rw [uz_at h]
  unfold nameAt
  rw [List.getElem?_eq_getElem h]
  simp only
  by_cases hv : C2.validB ts[i].s = true
  ·rw [if_pos hv, if_pos ⟨good_valid (hG _ (List.getElem_mem h)) hv, hv⟩]
  ·rw [if_neg hv, if_neg (fun hh => hv hh.2)]
 ·obtain rfl : i = ts.length := by omega
  rw [uz_end, valid_nil]
  unfold nameAt
  rw [List.getElem?_eq_none (Nat.le_refl _)]
  simp
theorem beq_of {a b : List UInt8} {q : Bool} (h : decide (a = b) = q) : (a == b) = q := by rw [← h]; by_cases e : a = b <;> simp [e]
theorem isat_any {ts : List Tok} {en g b c : Nat} (hG : ∀ t ∈ ts, GoodT t) (i : Nat) (w : World) (h : Prs w g b c (uz ts en) i) :
  Calls Tryz.prog 115 #[.pointer (some ⟨g, 0, none⟩)] w fun e w' => e = .returned (.bool (atSt ts i)) ∧ Below w.heap.size w w' := by
 have hi := h.ilt
 obtain ⟨k0, k1, k2, k3⟩ := h.at_ hi
 obtain ⟨n, m, hB, hn, hn1, hm⟩ := h.blk
 have c0 : w.cell? ⟨g, 0, none⟩ = some (.slice (some ⟨b, i * 4, none⟩) n m) := hB.cell 0
 have h8 := uz_len8 hG hi
 have hv := hid (C2.valid_any (uz ts en)[i].s w (by omega))
 have e1 := sees_text hG hi (W := emitW) (by decide)
 have e2 := sees_text hG hi (W := whileW) (by decide)
 have e3 := sees_text hG hi (W := ifW) (by decide)
 have e4 : (nameAt ts i).isSome = C2.validB (uz ts en)[i].s := by
  rw [nameAt_uz hG hi]
  cases C2.validB (uz ts en)[i].s <;> rfl
 unfold atSt
 rw [e1, e2, e3, e4]
 clear e1 e2 e3 e4 hB k0 k1 k2 h
 generalize (uz ts en)[i] = t at *
 obtain ⟨tk, tn, tp, tx⟩ := t
 dsimp only at k3 hv ⊢
 generalize hq : C2.validB tx = q at *
 cases e1 : decide (tx = emitW) with
 | true =>
  have t1 := beq_of e1
  clear e1 hv
  go_enter Tryz.func115, Tryz.ntmps115
  go_wp2_with fail
  go_ret
  exact ⟨rfl, Below.refl _ _⟩
 | false =>
  have t1 := beq_of e1
  clear e1
  cases e2 : decide (tx = whileW) with
  | true =>
   have t2 := beq_of e2
   clear e2 hv
   go_enter Tryz.func115, Tryz.ntmps115
   go_wp2_with fail
   go_ret
   exact ⟨rfl, Below.refl _ _⟩
  | false =>
   have t2 := beq_of e2
   clear e2
   cases e3 : decide (tx = ifW) with
   | true =>
    have t3 := beq_of e3
    clear e3 hv
    go_enter Tryz.func115, Tryz.ntmps115
    go_wp2_with fail
    go_ret
    exact ⟨rfl, Below.refl _ _⟩
   | false =>
    have t3 := beq_of e3
    clear e3
    go_enter Tryz.func115, Tryz.ntmps115
    go_wp2_with fail
    refine hv.out.mono ?_
    rintro e w1 ⟨rfl, hb⟩
    have hb := hid hb
    go_wp2_with fail
    go_ret
    exact ⟨rfl, hb.out⟩
def VIs (r : Except Int (List (List UInt8) × Nat)) (V : List (List UInt8)) (x : Value) (j : Nat) : Prop := match r with
 | .ok (V', j') => V = V' ∧ x = .nilIface ∧ j = j'
 | .error a => x = errV a
def varR (ts : List Tok) (en : Nat) : Except Int (List (List UInt8) × Nat) := if seesB ts 0 varsW = true then vz ts en 2000 1 else .error (errAt ts en 0)
def VarsOk (ts : List Tok) (en g b c : Nat) (w : World) (e : Ending) (w' : World) : Prop :=
 ∃ v V x j, e = .returned (.tuple #[v, x]) ∧ OwnS w.heap.size w'.heap.size w' v V ∧ w.grownBy w' (some g) ∧ Prs w' g b c (uz ts en) j ∧ VIs (varR ts en) V x j
theorem vz_snoc {ts : List Tok} {en n i : Nat} {R : Except Int (List (List UInt8) × Nat)} {acc : List (List UInt8)} {x : List UInt8} (h : R = match vz ts en (n + 1) i with
  | .error a => .error a
  | .ok (V, k) => .ok (acc ++ V, k)) (hs : seesB ts i [59] = false) (hx : nameAt ts i = some x) : R = match vz ts en n (i + 1) with
  | .error a => .error a
  | .ok (V, k) => .ok ((acc ++ [x]) ++ V, k) := by
 rw [h, vz, if_neg (by rw [hs]; simp), hx]
 simp only
 cases vz ts en n (i + 1) with
 | error a => rfl
 | ok p => obtain ⟨V, k⟩ := p; simp
theorem vars_any {ts : List Tok} {en g b c : Nat} (hG : ∀ t ∈ ts, GoodT t) (hl : ts.length ≤ 150) (w : World) (h : Prs w g b c (uz ts en) 0) :
  Calls Tryz.prog 71 #[.pointer (some ⟨g, 0, none⟩)] w (VarsOk ts en g b c w) := by
 have hgl := h.lt
 have hbl := h.blt
 have ht := hid (expect_any g b c (uz ts en) 0 varsW w h (end_uz ts en))
 rw [sees_uz, errAt_uz ts en 0 (Nat.zero_le _)] at ht
 have hvR : varR ts en = if seesB ts 0 varsW = true then vz ts en 2000 1 else .error (errAt ts en 0) := rfl
 replace hvR := hid hvR
 clear h
 cases hs : seesB ts 0 varsW with
 | false =>
  rw [hs] at ht hvR
  rw [if_neg (by simp)] at hvR
  generalize errAt ts en 0 = a at *
  clear hs
  go_enter Tryz.func71, Tryz.ntmps71
  go_wp2_with fail
  refine ht.out.mono ?_
  rintro e w1 ⟨rfl, hp, hg⟩
  have hp := hid hp
  have hg := hid hg
  go_wp2_with fail
  exact bodyPost_ret (results_tmp2 (t := 2) (u := 3) rfl _ _ _) rfl ⟨_, [], _, 0, rfl, own_row (World.ownsRow_nil _ _ _ _), hg.out, hp.out, by rw [hvR.out]; rfl⟩
 | true =>
  have h0 := sees_lt hs
  rw [hs] at ht hvR
  rw [if_pos rfl] at hvR
  clear hs
  go_enter Tryz.func71, Tryz.ntmps71
  go_wp2_with fail
  refine ht.out.mono ?_
  rintro e w1 ⟨rfl, hp, hg⟩
  replace hp : Prs w1 g b c (uz ts en) 1 := hp
  have hp := hid hp
  have hg := hid hg
  have z1 := hg.out.size
  go_wp2_with fail
  go_loopw [5] (fun v wr => ∃ (acc : List (List UInt8)) (i m : Nat), (vz ts en 2000 1 = match vz ts en m i with
    | .error a => .error a
    | .ok (V, k) => .ok (acc ++ V, k)) ∧ needQ ts i ≤ m ∧ i ≤ ts.length ∧ acc.length ≤ i ∧ wr.ownsRow w.heap.size 9 1 v (acc.map sv).length (acc.map sv) ∧ w.grownBy wr (some g) ∧ Prs wr g b c (uz ts en) i) (fun _ wr => match wr.cell? ⟨g, 0, none⟩ with
    | some (.slice _ n _) => n
    | _ => 0)
  case atStart =>
   refine ⟨[], 1, 2000, ?_, by unfold needQ; omega, by omega, by simp, World.ownsRow_nil _ _ _ _, hg.out, hp.out⟩
   cases vz ts en 2000 1 with
   | error a => rfl
   | ok p => rfl
  case round =>
   obtain ⟨acc, i, m, hv, hn, hi, hal, ho, hG1, hP⟩ := hrel
   obtain ⟨m, rfl⟩ : ∃ k, m = k + 1 := ⟨m - 1, by unfold needQ at hn; omega⟩
   have htk := take_any g b c (uz ts en) i [59] wr hP (end_uz ts en)
   rw [sees_uz] at htk
   have hmes : (match wr.cell? ⟨g, 0, none⟩ with
    | some (.slice _ n _) => n
    | _ => 0) = ts.length + 1 - i := by
    obtain ⟨n', m', hB, hn', _, _⟩ := hP.blk
    rw [hB.cell 0]
    show n' = _
    rw [uz_len] at hn'
    omega
   have hul : i < (uz ts en).length := by rw [uz_len]; omega
   replace hP := hid hP
   cases hs : seesB ts i [59] with
   | true =>
    have hR := hid (show VIs (vz ts en 2000 1) acc .nilIface (i + 1) by rw [hv, vz, if_pos hs]; exact ⟨by simp, rfl, rfl⟩)
    rw [hs] at htk
    replace htk := hid htk
    replace ho := hid ho
    replace hG1 := hid hG1
    clear hv hmes hs
    go_wp2_with fail
    refine htk.out.mono ?_
    rintro e w2 ⟨rfl, hp2, hg2⟩
    have hp2 : Prs w2 g b c (uz ts en) (i + 1) := hp2
    have hfin := hid (show OwnS w.heap.size w2.heap.size w2 _ acc from own_row (own_keep ho.out fun q hq => hg2.block q (own_ge ho.out hq).2 fun e => by have := (own_ge ho.out hq).1; cases e; omega))
    have hg2 := hid (gb_trans hG1.out hg2)
    replace hp2 := hid hp2
    go_wp2_with fail
    exact bodyPost_ret (results_tmp2 (t := 2) (u := 3) rfl _ _ _) rfl ⟨_, acc, _, _, rfl, hfin.out, hg2.out, hp2.out, by rw [hvR.out]; exact hR.out⟩
   | false =>
    rw [hs] at htk
    have hnm := hid (fun w1 (h1 : Prs w1 g b c (uz ts en) i) => name_any g b c (uz ts en) i w1 h1 hul (by have := uz_len8 hG hul; omega) (uz_valid hul))
    have hna := nameAt_uz hG hul
    have hp8 := uz_len8 hG hul
    have hea := errAt_uz ts en i hi
    rw [List.getElem?_eq_getElem hul, Option.getD_some] at hea
    replace htk := hid htk
    replace ho := hid ho
    replace hG1 := hid hG1
    replace hmes := hid hmes
    generalize (uz ts en)[i] = t at *
    generalize hq : C2.validB t.s = q at *
    cases q with
    | false =>
     have hR := hid (show VIs (vz ts en 2000 1) [] (errV t.p) i by
      rw [hv, vz, if_neg (by rw [hs]; simp), hna, if_neg (by simp), hea]; rfl)
     clear hv hna hea hmes hs
     go_wp2_with fail
     refine htk.out.mono ?_
     rintro e w2 ⟨rfl, hp2, hg2⟩
     have hp2 : Prs w2 g b c (uz ts en) i := hp2
     have hg2 := hid (gb_trans hG1.out hg2)
     replace hp2 := hid hp2
     go_wp2_with fail
     refine (hnm.out w2 hp2.out).mono ?_
     rintro e w3 ⟨rfl, hp3, hg3⟩
     have hg3 := hid (gb_trans hg2.out hg3)
     replace hp3 := hid (show Prs w3 g b c (uz ts en) i from hp3)
     go_wp2_with fail
     exact bodyPost_ret (results_tmp2 (t := 2) (u := 3) rfl _ _ _) rfl ⟨_, [], _, _, rfl, own_row (World.ownsRow_nil _ _ _ _), hg3.out, hp3.out, by rw [hvR.out]; exact hR.out⟩
    | true =>
     rw [if_pos rfl] at hna
     have hilt := nameAt_lt hna
     have hv2 := hid (vz_snoc hv hs hna)
     clear hv hna hea hs
     go_wp2_with fail
     refine htk.out.mono ?_
     rintro e w2 ⟨rfl, hp2, hg2⟩
     have hp2 : Prs w2 g b c (uz ts en) i := hp2
     have ho2 := hid (own_keep ho.out fun q hq => hg2.block q (own_ge ho.out hq).2 fun e => by have := (own_ge ho.out hq).1; cases e; omega)
     have hg2 := hid (gb_trans hG1.out hg2)
     replace hp2 := hid hp2
     go_wp2_with fail
     refine (hnm.out w2 hp2.out).mono ?_
     rintro e w3 ⟨rfl, hp3, hg3⟩
     have ho3 := hid (own_keep ho2.out fun q hq => hg3.block q (own_ge ho2.out hq).2 fun e => by have := (own_ge ho2.out hq).1; cases e; omega)
     have hg3 := hid (gb_trans hg2.out hg3)
     replace hp3 := hid (show Prs w3 g b c (uz ts en) (i + 1) from hp3)
     try simp only [if_true]
     have z3 := hg3.out.size
     clear ho ho2 hG1 hg2 hp2 htk hnm hP
     go_wp2_with (at_builtin; refine own_append strT ho3.out z3 (sv t.s) rfl (by rw [List.length_map]; omega) rfl _ _ rfl rfl rfl ?_; intro v4 w4 ho4 hg4 _)
     go_wp2_with fail
     have hp4 : Prs w4 g b c (uz ts en) (i + 1) := hp3.out.far (hg4.block g hp3.out.lt fun e => by have := (own_ge ho3.out e.symm).1; omega) (hg4.block b hp3.out.blt fun e => by have := (own_ge ho3.out e.symm).1; omega)
     refine ⟨⟨acc ++ [t.s], i + 1, m, hv2.out, by unfold needQ at hn ⊢; omega, by omega, by simp; omega, by simpa using ho4, gb_own hg3.out hg4 (fun q hq => (own_ge ho3.out hq).1), hp4⟩, ?_⟩
     rw [hmes.out]
     obtain ⟨n', m', hB, hn', _, _⟩ := hp4.blk
     rw [hB.cell 0]
     show n' < _
     rw [uz_len] at hn'
     omega
theorem setN_all {cs0 cs : List Value} (h : cs0.length = cs.length) : setN cs0 0 cs = cs := by
 refine List.ext_getElem? fun i => ?_
 rw [setN_at _ _ _ _ (by omega)]
 by_cases hi : i < cs.length
 ·rw [if_pos (by omega)]; rfl
 ·rw [if_neg (by omega), List.getElem?_eq_none (by omega), List.getElem?_eq_none (by omega)]
theorem own_nil8 (w : World) (R : Nat → Prop) (n : Nat) : OwnD w R [.slice none 0 0] [.sl n []] :=
 .sl (R2 := fun _ => False) (A := none) (c := 0) (l := []) (fun _ => []) (fun _ _ => False) (Nat.le_refl _) (Nat.zero_le _) (fun _ => rfl) (fun ad e => by cases e) (fun j e he => by simp at he) (fun j g hj => by simp at hj) (fun i j g _ hj => by simp at hj) (fun _ h => h.elim) .nil
theorem own_zero8 (w : World) (R : Nat → Prop) (k : Int) : OwnD w R (sc k [] 0 0 [] none 0 0 none 0 0 none 0 0) (St.mk k [] (.mk 0 0 [] []) [] []).d :=
 own_st_mk (lo := 0) (hi := 0) (R2 := fun _ => False) (R3 := fun _ => False) (by simp) (OwnE.leaf w 0 0) (own_nil8 w _ 1) (own_nil8 w _ 1) (fun _ hg => by have := hg.1; have := hg.2; omega) (fun _ h => h.elim) (fun _ h => h.elim)
def QIs (r : ResQ) (s : St) (x : Value) (j : Nat) : Prop := match r with
 | .ok (s', j') => s = s' ∧ x = .nilIface ∧ j = j'
 | .error a => x = errV a
def BIs (r : ResB) (L : List St) (x : Value) (j : Nat) : Prop := match r with
 | .ok (L', j') => L = L' ∧ x = .nilIface ∧ j = j'
 | .error a => x = errV a
def QOk (ts : List Tok) (en g b c : Nat) (w : World) (r : ResQ) (e : Ending) (w' : World) : Prop :=
 ∃ k s ek en' es A l c' Bb lb cb C lc cc t x j, e = .returned (.tuple #[.agg (sc k s ek en' es A l c' Bb lb cb C lc cc).toArray, x]) ∧ OwnD w' (Iv w.heap.size w'.heap.size) (sc k s ek en' es A l c' Bb lb cb C lc cc) (St.d t) ∧ w.grownBy w' (some g) ∧ Prs w' g b c (uz ts en) j ∧ QIs r t x j
def BOk (ts : List Tok) (en g b c : Nat) (w : World) (r : ResB) (e : Ending) (w' : World) : Prop :=
 ∃ A l cc L x j, e = .returned (.tuple #[.slice A l cc, x]) ∧ OwnD w' (Iv w.heap.size w'.heap.size) [.slice A l cc] [.sl 1 (dl L)] ∧ w.grownBy w' (some g) ∧ Prs w' g b c (uz ts en) j ∧ BIs r L x j
section
variable {w wx w' : World} {g b c en i j : Nat} {ts : List Tok}
theorem own_iv {lo hi lo' hi' : Nat} {cs : List Value} {ds : List D} (h : OwnD w (Iv lo hi) cs ds) (h1 : lo' ≤ lo) (h2 : hi ≤ hi') : OwnD w (Iv lo' hi') cs ds := h.mono fun _ hg => ⟨Nat.le_trans h1 hg.1, Nat.lt_of_lt_of_le hg.2 h2⟩
theorem fin8 {r : ResQ} {k ek en' : Int} {s es : List UInt8} {A Bb C : Option Addr} {l c' lb cb lc cc lo hi : Nat} {t : St} {x : Value} {cs0 : List Value} (hB : Blk wx w.heap.size SI cs0) (hl : cs0.length = 8)
  (hO : OwnD wx (Iv lo hi) (sc k s ek en' es A l c' Bb lb cb C lc cc) t.d) (hlo : w.heap.size < lo) (hhi : hi ≤ wx.heap.size) (gb : w.grownBy wx (some g)) (hp : Prs wx g b c (uz ts en) j) (hQ : QIs r t x j) (hg : g < w.heap.size) (hb : b < w.heap.size) :
  Blk (putN wx w.heap.size 0 (sc k s ek en' es A l c' Bb lb cb C lc cc)) w.heap.size SI (sc k s ek en' es A l c' Bb lb cb C lc cc) ∧
   QOk ts en g b c w r (.returned (.tuple #[.agg (sc k s ek en' es A l c' Bb lb cb C lc cc).toArray, x])) (putN wx w.heap.size 0 (sc k s ek en' es A l c' Bb lb cb C lc cc)) := by
 have h1 := putN_blk (sc k s ek en' es A l c' Bb lb cb C lc cc) 0 hB
 rw [setN_all (by rw [hl]; rfl)] at h1
 have hz := putN_size (sc k s ek en' es A l c' Bb lb cb C lc cc) wx w.heap.size 0
 have hf := putN_far (sc k s ek en' es A l c' Bb lb cb C lc cc) wx w.heap.size 0
 have hbl := putN_below (sc k s ek en' es A l c' Bb lb cb C lc cc) (B := w.heap.size) 0 (Below.refl w.heap.size wx) (Nat.le_refl _)
 refine ⟨h1, k, s, ek, en', es, A, l, c', Bb, lb, cb, C, lc, cc, t, x, j, rfl, ?_, ?_, hp.far (hf g (by omega)) (hf b (by omega)), hQ⟩
 ·rw [hz]
  exact own_iv (hO.same fun q hq => hf q (by have := hq.1; omega)) (by omega) hhi
 ·exact ⟨hbl.os.trans gb.os, hbl.tape.trans gb.tape, hbl.output.trans gb.output, Nat.le_trans gb.size hbl.size, fun q h1 h2 => (hbl.block q h1).trans (gb.block q h1 h2)⟩
end
def QP (ts : List Tok) (en g b c n : Nat) : Prop := ∀ m, m ≤ n → ∀ i w, Prs w g b c (uz ts en) i → atSt ts i = true → needQ ts i ≤ m → Calls Tryz.prog 116 #[.pointer (some ⟨g, 0, none⟩)] w (QOk ts en g b c w (qz ts en m i))
def GP (ts : List Tok) (en g b c n : Nat) : Prop := ∀ m, m ≤ n → ∀ q i w, Prs w g b c (uz ts en) i → needG ts i ≤ m → Calls Tryz.prog 153 #[.pointer (some ⟨g, 0, none⟩), .int .i64 q] w (QOk ts en g b c w (gz ts en m q i))
def KP (ts : List Tok) (en g b c n : Nat) : Prop := ∀ m, m ≤ n → ∀ i w, Prs w g b c (uz ts en) i → needK ts i ≤ m → Calls Tryz.prog 188 #[.pointer (some ⟨g, 0, none⟩)] w (BOk ts en g b c w (kz ts en m i))
def BP (ts : List Tok) (en g b c n : Nat) : Prop := ∀ m, m ≤ n → ∀ i w, Prs w g b c (uz ts en) i → needB ts i ≤ m → Calls Tryz.prog 72 #[.pointer (some ⟨g, 0, none⟩)] w (BOk ts en g b c w (bz ts en m i))
abbrev sc0 : List Value := sc 0 [] 0 0 [] none 0 0 none 0 0 none 0 0
theorem guarded_any {ts : List Tok} {en g b c n : Nat} (hG : ∀ t ∈ ts, GoodT t) (h150 : ts.length ≤ 150) (hk : KP ts en g b c n) : GP ts en g b c (n + 1) := by
 intro m hm q i w h hn
 obtain ⟨m, rfl⟩ : ∃ k, m = k + 1 := ⟨m - 1, by unfold needG at hn; omega⟩
 have hgl := h.lt
 have hbl := h.blt
 have hb1 := box_below w (.cells sc0.toArray SI)
 have B1 := hid (Blk.new w SI sc0)
 have z1 := size_alloc' w (.cells sc0.toArray SI)
 have G1 := hid (gb_below (gb_refl w (some g)) hb1)
 have hcl := hid ((parse_all (en := en) (g := g) (b := b) (c := c) hG 2000).1 2000 (Nat.le_refl _) i _ (h.below hb1) (by unfold need; omega))
 have hgz : gz ts en (m + 1) q i = match pz ts en 2000 1 i with
  | .error a => .error a
  | .ok (e, j) => match kz ts en m j with
   | .error a => .error a
   | .ok (L, k) => .ok (.mk q [] e L [], k) := by
  rw [gz]
  cases pz ts en 2000 1 i with
  | error a => rfl
  | ok p =>
   obtain ⟨e, j⟩ := p
   simp only
   cases kz ts en m j <;> rfl
 have hadv := fun e j (hp : pz ts en 2000 1 i = .ok (e, j)) => (pz_adv ts en 2000).1 1 i e j hp
 have hk2 := hid (fun j (hj : i < j) (hjl : j ≤ ts.length) w1 h1 => hk m (by omega) j w1 h1 (by unfold needG at hn; unfold needK; omega))
 clear h hb1 hk hn hm
 obtain ⟨R, hR⟩ : ∃ R, R = gz ts en (m + 1) q i := ⟨_, rfl⟩
 rw [← hR] at hgz ⊢
 clear hR
 obtain ⟨r, hr⟩ : ∃ r, r = pz ts en 2000 1 i := ⟨_, rfl⟩
 rw [← hr] at hcl hgz hadv
 clear hr
 replace hgz := hid hgz
 replace hadv := hid hadv
 go_enter Tryz.func153, Tryz.ntmps153
 go_wp2_with fail
 generalize (w.alloc (.cells sc0.toArray SI)) = w1 at *
 refine hcl.out.mono ?_
 rintro e w2 ⟨K, N, s, A, l, cc, t, x, j, rfl, ho, hg, hp, hRe⟩
 have z2 := hg.size
 have b3 := box_below w2 (.cells #[.int .i64 K, .int .i64 N, .string ⟨s.toArray⟩, .slice A l cc] ET)
 have z3 := size_alloc' w2 (.cells #[.int .i64 K, .int .i64 N, .string ⟨s.toArray⟩, .slice A l cc] ET)
 have Q3 := hid (Blk.new w2 ET [.int .i64 K, .int .i64 N, .string ⟨s.toArray⟩, .slice A l cc])
 have B3 := hid ((B1.out.gb hg (by omega)).below b3 (B1.out.gb hg (by omega)).lt)
 have G3 := hid (gb_below (gb_trans G1.out hg) b3)
 have o3 := hid (ho.same (same_below b3 (Nat.le_refl _)))
 have p3 := hid (hp.below b3)
 clear ho hg hp hcl G1 B1 b3
 rcases r with a | ⟨t', j'⟩
 ·obtain rfl : x = errV a := hRe
  have hQ : QIs R (St.mk 0 [] (.mk 0 0 [] []) [] []) (errV a) j := by rw [hgz.out]; rfl
  have hf := fin8 (k := 0) (s := []) (ek := 0) (en' := 0) (es := []) (A := none) (l := 0) (c' := 0) (Bb := none) (lb := 0) (cb := 0) (C := none) (lc := 0) (cc := 0) B3.out rfl (own_zero8 _ (Iv (w.heap.size + 1) (w.heap.size + 1)) 0) (Nat.lt_succ_self _) B3.out.lt G3.out p3.out hQ hgl hbl
  have hf1 := hid hf.1
  have hf2 := hid hf.2
  obtain ⟨r0, r1, r2, r3, r4, r5, r6, r7⟩ := eight B3.out
  have y0 := B3.out.frozen 0
  have y1 := B3.out.frozen 1
  have y2 := B3.out.frozen 2
  have y3 := B3.out.frozen 3
  have y4 := B3.out.frozen 4
  have y5 := B3.out.frozen 5
  have y6 := B3.out.frozen 6
  have y7 := B3.out.frozen 7
  clear hf hQ hgz hadv hk2 Q3 B3 G3 o3 p3
  go_wp2_with fail
  exact bodyPost_ret (results_cell2 Tryz.results153 _ _ w.heap.size 60 _ (0, 0) _ rfl hf1.out Tryz.underlying60 rfl (by kernel_rfl)) rfl hf2.out
 ·obtain ⟨rfl, rfl, rfl⟩ := hRe
  have ha := hadv.out t j rfl
  have hcl := hid (hk2.out j ha.1 ha.2.1 _ p3.out)
  obtain ⟨r, hr⟩ : ∃ r, r = kz ts en m j := ⟨_, rfl⟩
  have hgz := hgz.out
  simp only [← hr] at hgz
  rw [← hr] at hcl
  replace hgz := hid hgz
  clear hr hadv hk2
  go_wp2_with fail
  generalize (w2.alloc (.cells #[.int .i64 K, .int .i64 N, .string ⟨s.toArray⟩, .slice A l cc] ET)) = w3 at *
  refine hcl.out.mono ?_
  rintro e w4 ⟨Bb, lb, cb, L, x, j4, rfl, hO, hg, hp, hB⟩
  have z4 := hg.size
  have B4 := hid (B3.out.gb hg (by omega))
  have Q4 := hid (Q3.out.gb hg (by omega))
  have G4 := hid (gb_trans G3.out hg)
  have o4 : OwnX w1.heap.size w2.heap.size w4 (nv K N s A l cc) t := o3.out.same fun q h1 h2 => hg.block q (by omega) (by simp; omega)
  have hst : OwnD w4 (Iv w1.heap.size w4.heap.size) (sc q [] K N s A l cc Bb lb cb none 0 0) (St.mk q [] t L []).d :=
   own_st_mk (R2 := Iv w3.heap.size w4.heap.size) (R3 := fun _ => False) (by simp) o4 hO (own_nil8 w4 _ 1) (fun _ hg => ⟨⟨hg.1, by have := hg.2; omega⟩, fun h => by have := h.1; have := hg.2; omega, id⟩) (fun _ hg => ⟨⟨by have := hg.1; omega, hg.2⟩, id⟩) (fun _ h => h.elim)
  have hQ : QIs R (St.mk q [] t L []) x j4 := by
   rw [hgz.out]
   rcases r with a | ⟨L', k'⟩
   ·exact hB
   ·obtain ⟨rfl, rfl, rfl⟩ := hB
    exact ⟨rfl, rfl, rfl⟩
  have hf := fin8 B4.out rfl hst (by omega) (Nat.le_refl _) G4.out hp hQ hgl hbl
  have hf1 := hid hf.1
  have hf2 := hid hf.2
  obtain ⟨k0, k1, k2, k3⟩ := Tr.four Q4.out
  obtain ⟨r0, r1, r2, r3, r4, r5, r6, r7⟩ := eight B4.out
  have y0 := B4.out.frozen 0
  have y1 := B4.out.frozen 1
  have y2 := B4.out.frozen 2
  have y3 := B4.out.frozen 3
  have y4 := B4.out.frozen 4
  have y5 := B4.out.frozen 5
  have y6 := B4.out.frozen 6
  have y7 := B4.out.frozen 7
  clear hf hQ hgz hst o4 hO hg hp hB B4 Q4 G4 B3 Q3 G3 o3 p3 hcl
  go_wp2_with fail
  exact bodyPost_ret (results_cell2 Tryz.results153 _ _ w.heap.size 60 _ (0, 0) _ rfl hf1.out Tryz.underlying60 rfl (by kernel_rfl)) rfl hf2.out
theorem door8 {w w4 : World} {g b c i hi : Nat} {us : List Tok} {k ek en' : Int} {s es : List UInt8} {A Bb C : Option Addr} {l c' lb cb lc cc : Nat} {t : St} {x0 : Value} (hB : Blk w4 w.heap.size SI sc0) (hE : Blk w4 (w.heap.size + 1) ErT [x0])
  (hO : OwnD w4 (Iv (w.heap.size + 1 + 1) hi) (sc k s ek en' es A l c' Bb lb cb C lc cc) t.d) (gb : w.grownBy w4 (some g)) (hp : Prs w4 g b c us i) (x : Value) (hg : g < w.heap.size) (hb : b < w.heap.size) :
  Blk (((putN w4 w.heap.size 0 (sc k s ek en' es A l c' Bb lb cb C lc cc)).setCell ⟨w.heap.size + 1, 0, none⟩ x).drew) w.heap.size SI (sc k s ek en' es A l c' Bb lb cb C lc cc) ∧
  Blk (((putN w4 w.heap.size 0 (sc k s ek en' es A l c' Bb lb cb C lc cc)).setCell ⟨w.heap.size + 1, 0, none⟩ x).drew) (w.heap.size + 1) ErT [x] ∧
  OwnD (((putN w4 w.heap.size 0 (sc k s ek en' es A l c' Bb lb cb C lc cc)).setCell ⟨w.heap.size + 1, 0, none⟩ x).drew) (Iv (w.heap.size + 1 + 1) hi) (sc k s ek en' es A l c' Bb lb cb C lc cc) t.d ∧
  w.grownBy (((putN w4 w.heap.size 0 (sc k s ek en' es A l c' Bb lb cb C lc cc)).setCell ⟨w.heap.size + 1, 0, none⟩ x).drew) (some g) ∧
  Prs (((putN w4 w.heap.size 0 (sc k s ek en' es A l c' Bb lb cb C lc cc)).setCell ⟨w.heap.size + 1, 0, none⟩ x).drew) g b c us i ∧
  (((putN w4 w.heap.size 0 (sc k s ek en' es A l c' Bb lb cb C lc cc)).setCell ⟨w.heap.size + 1, 0, none⟩ x).drew).heap.size = w4.heap.size := by
 have h1 := putN_blk (sc k s ek en' es A l c' Bb lb cb C lc cc) 0 hB
 rw [setN_all (cs0 := sc0) (cs := sc k s ek en' es A l c' Bb lb cb C lc cc) rfl] at h1
 have hz := putN_size (sc k s ek en' es A l c' Bb lb cb C lc cc) w4 w.heap.size 0
 have hf := putN_far (sc k s ek en' es A l c' Bb lb cb C lc cc) w4 w.heap.size 0
 have hbl := putN_below (sc k s ek en' es A l c' Bb lb cb C lc cc) (B := w.heap.size) 0 (Below.refl w.heap.size w4) (Nat.le_refl _)
 have hE1 : Blk (putN w4 w.heap.size 0 (sc k s ek en' es A l c' Bb lb cb C lc cc)) (w.heap.size + 1) ErT [x0] := (hf _ (by omega)).trans hE
 generalize putN w4 w.heap.size 0 (sc k s ek en' es A l c' Bb lb cb C lc cc) = w5 at *
 have hb2 : Below w.heap.size w5 (w5.setCell ⟨w.heap.size + 1, 0, none⟩ x).drew := ((Below.refl _ _).setCell (p := ⟨w.heap.size + 1, 0, none⟩) (Nat.le_succ _) _).drew
 have hne : ∀ q, q ≠ w.heap.size + 1 → (w5.setCell ⟨w.heap.size + 1, 0, none⟩ x).drew.heap[q]? = w5.heap[q]? := fun q hq => heap_setCell_other _ _ _ _ hq
 have hall := hbl.trans (hb2.mono (Nat.le_refl _))
 refine ⟨(hne _ (by omega)).trans h1, hE1.set_ 0 x, hO.same fun q hq => (hne q (by have := hq.1; omega)).trans (hf q (by have := hq.1; omega)), ?_, hp.far ((hne _ (by omega)).trans (hf _ (by omega))) ((hne _ (by omega)).trans (hf _ (by omega))), ?_⟩
 ·exact ⟨hall.os.trans gb.os, hall.tape.trans gb.tape, hall.output.trans gb.output, Nat.le_trans gb.size hall.size, fun q h1 h2 => (hall.block q h1).trans (gb.block q h1 h2)⟩
 ·show (w5.setCell ⟨w.heap.size + 1, 0, none⟩ x).heap.size = _
  rw [show (w5.setCell ⟨w.heap.size + 1, 0, none⟩ x).heap.size = w5.heap.size by simp [World.setCell], hz]
theorem left8 {w W w1 : World} {g b c j hi : Nat} {us : List Tok} {cs : List Value} {ds : List D} {x0 : Value} (y : Value) (hB : Blk W w.heap.size SI cs) (hE : Blk W (w.heap.size + 1) ErT [x0]) (hO : OwnD W (Iv (w.heap.size + 1 + 1) hi) cs ds) (hhi : hi ≤ W.heap.size) (gb : w.grownBy W (some g)) (hp : Prs w1 g b c us j)
  (hg1 : W.grownBy w1 (some g)) (hg : g < w.heap.size) (hb : b < w.heap.size) : Blk (w1.setCell ⟨w.heap.size + 1, 0, none⟩ y) w.heap.size SI cs ∧ (w1.setCell ⟨w.heap.size + 1, 0, none⟩ y).cell? ⟨w.heap.size + 1, 0, none⟩ = some y ∧
   OwnD (w1.setCell ⟨w.heap.size + 1, 0, none⟩ y) (Iv w.heap.size (w1.setCell ⟨w.heap.size + 1, 0, none⟩ y).heap.size) cs ds ∧ w.grownBy (w1.setCell ⟨w.heap.size + 1, 0, none⟩ y) (some g) ∧ Prs (w1.setCell ⟨w.heap.size + 1, 0, none⟩ y) g b c us j := by
 have hne : ∀ q, q ≠ w.heap.size + 1 → (w1.setCell ⟨w.heap.size + 1, 0, none⟩ y).heap[q]? = w1.heap[q]? := fun q hq => heap_setCell_other _ _ _ _ hq
 have hs : (w1.setCell ⟨w.heap.size + 1, 0, none⟩ y).heap.size = w1.heap.size := by simp [World.setCell]
 have hz := hg1.size
 have hl := hB.lt
 refine ⟨(hne _ (by omega)).trans (hB.gb hg1 (by omega)), ((hE.gb hg1 (by omega)).set_ 0 y).cell 0, ?_, Dr.gb_new (gb_trans gb hg1) (by omega) 0 y, hp.far (hne _ (by omega)) (hne _ (by omega))⟩
 rw [hs]
 exact own_iv (hO.same fun q hq => (hne q (by have := hq.1; omega)).trans (hg1.block q (by have := hq.2; omega) (by have := hq.1; simp; omega))) (by omega) (by omega)
def semiR (ts : List Tok) (en : Nat) (mk : T → St) (r : Res) : ResQ := match r with
 | .error a => .error a
 | .ok (e, j) => if seesB ts j [59] = true then .ok (mk e, j + 1) else .error (errAt ts en j)
theorem emission_any {ts : List Tok} {en g b c : Nat} (hG : ∀ t ∈ ts, GoodT t) (h150 : ts.length ≤ 150) (i : Nat) (w : World) (h : Prs w g b c (uz ts en) i) :
  Calls Tryz.prog 152 #[.pointer (some ⟨g, 0, none⟩)] w (QOk ts en g b c w (semiR ts en (fun e => .mk 4 [] e [] []) (pz ts en 2000 1 i))) := by
 have hgl := h.lt
 have hbl := h.blt
 have hb0 := box_below w (.cells sc0.toArray SI)
 have z0 := size_alloc' w (.cells sc0.toArray SI)
 have hb1 := hb0.trans ((box_below (w.alloc (.cells sc0.toArray SI)) (.cells #[.nilIface] ErT)).mono hb0.size)
 have z1 : ((w.alloc (.cells sc0.toArray SI)).alloc (.cells #[.nilIface] ErT)).heap.size = w.heap.size + 1 + 1 := by rw [size_alloc', z0]
 have B1 := hid ((Blk.new w SI sc0).alloc (.cells #[.nilIface] ErT))
 have E1 := Blk.new (w.alloc (.cells sc0.toArray SI)) ErT [.nilIface]
 rw [z0] at E1
 replace E1 := hid E1
 have G1 := hid (gb_below (gb_refl w (some g)) hb1)
 have hcl := hid ((parse_all (en := en) (g := g) (b := b) (c := c) hG 2000).1 2000 (Nat.le_refl _) i _ (h.below hb1) (by unfold need; omega))
 have hadv := hid (fun e j (hp : pz ts en 2000 1 i = .ok (e, j)) => (pz_adv ts en 2000).1 1 i e j hp)
 clear h hb0 hb1
 obtain ⟨r, hr⟩ : ∃ r, r = pz ts en 2000 1 i := ⟨_, rfl⟩
 rw [← hr] at hcl hadv ⊢
 clear hr
 go_enter_defers Tryz.func152, Tryz.ntmps152
 go_wp2_with fail
 generalize ((w.alloc (.cells sc0.toArray SI)).alloc (.cells #[.nilIface] ErT)) = w1 at *
 refine hcl.out.mono ?_
 rintro e w2 ⟨K, N, s, A, l, cc, t, x, j, rfl, ho, hg, hp, hRe⟩
 have z2 := hg.size
 have b3 := box_below w2 (.cells #[.int .i64 K, .int .i64 N, .string ⟨s.toArray⟩, .slice A l cc] ET)
 have z3 := size_alloc' w2 (.cells #[.int .i64 K, .int .i64 N, .string ⟨s.toArray⟩, .slice A l cc] ET)
 have Q3 := Blk.new w2 ET [.int .i64 K, .int .i64 N, .string ⟨s.toArray⟩, .slice A l cc]
 have B3 := (B1.out.gb hg (by omega)).below b3 (B1.out.gb hg (by omega)).lt
 have E3 := (E1.out.gb hg (by omega)).below b3 (E1.out.gb hg (by omega)).lt
 have G3 := hid (gb_below (gb_trans G1.out hg) b3)
 have o3 := hid (ho.same (same_below b3 (Nat.le_refl _)))
 have p3 := hid (hp.below b3)
 clear ho hg hp hcl G1 B1 b3
 have e3 := E3.cell 0
 have f3 := E3.frozen 0
 have hx : (∃ a, x = errV a ∧ r = .error a) ∨ (x = .nilIface ∧ r = .ok (t, j)) := by
  rcases r with a | ⟨t', j'⟩
  ·exact Or.inl ⟨a, hRe, rfl⟩
  ·obtain ⟨rfl, rfl, rfl⟩ := hRe
   exact Or.inr ⟨rfl, rfl⟩
 clear hRe
 have hsz : ∀ (W : World) (u : Value), (W.setCell ⟨w.heap.size + 1, 0, none⟩ u).heap.size = W.heap.size := fun W u => by simp [World.setCell]
 have hne : ∀ (W : World) (u : Value) k, k ≠ w.heap.size + 1 → (W.setCell ⟨w.heap.size + 1, 0, none⟩ u).heap[k]? = W.heap[k]? := fun W u k hk => heap_setCell_other _ _ _ _ hk
 have fix4 : ∀ u, Hid (Blk ((w2.alloc (.cells #[.int .i64 K, .int .i64 N, .string ⟨s.toArray⟩, .slice A l cc] ET)).setCell ⟨w.heap.size + 1, 0, none⟩ u) w2.heap.size ET [.int .i64 K, .int .i64 N, .string ⟨s.toArray⟩, .slice A l cc] ∧
   Blk ((w2.alloc (.cells #[.int .i64 K, .int .i64 N, .string ⟨s.toArray⟩, .slice A l cc] ET)).setCell ⟨w.heap.size + 1, 0, none⟩ u) w.heap.size SI sc0 ∧
   Blk ((w2.alloc (.cells #[.int .i64 K, .int .i64 N, .string ⟨s.toArray⟩, .slice A l cc] ET)).setCell ⟨w.heap.size + 1, 0, none⟩ u) (w.heap.size + 1) ErT [u] ∧
   w.grownBy ((w2.alloc (.cells #[.int .i64 K, .int .i64 N, .string ⟨s.toArray⟩, .slice A l cc] ET)).setCell ⟨w.heap.size + 1, 0, none⟩ u) (some g) ∧
   OwnX w1.heap.size w2.heap.size ((w2.alloc (.cells #[.int .i64 K, .int .i64 N, .string ⟨s.toArray⟩, .slice A l cc] ET)).setCell ⟨w.heap.size + 1, 0, none⟩ u) (nv K N s A l cc) t ∧
   Prs ((w2.alloc (.cells #[.int .i64 K, .int .i64 N, .string ⟨s.toArray⟩, .slice A l cc] ET)).setCell ⟨w.heap.size + 1, 0, none⟩ u) g b c (uz ts en) j) := fun u =>
  hid ⟨(hne _ u _ (by omega)).trans Q3, (hne _ u _ (by omega)).trans B3, E3.set_ 0 u, Dr.gb_new G3.out (by omega) 0 u, o3.out.same fun k h1 h2 => hne _ u k (by omega), p3.out.far (hne _ u _ (by omega)) (hne _ u _ (by omega))⟩
 have z4 : ∀ u, ((w2.alloc (.cells #[.int .i64 K, .int .i64 N, .string ⟨s.toArray⟩, .slice A l cc] ET)).setCell ⟨w.heap.size + 1, 0, none⟩ u).heap.size = w2.heap.size + 1 := fun u => by rw [hsz, z3]
 clear Q3 B3 E3 G3 o3 p3
 rcases hx with ⟨a, rfl, rfl⟩ | ⟨rfl, rfl⟩
 ·obtain ⟨Q4, B4, E4, G4, o4, p4⟩ := (fix4 (errV a)).out
  have z4 := z4 (errV a)
  clear fix4 hadv
  go_wp2_with fail
  clear e3 f3
  generalize ((w2.alloc (.cells #[.int .i64 K, .int .i64 N, .string ⟨s.toArray⟩, .slice A l cc] ET)).setCell ⟨w.heap.size + 1, 0, none⟩ (errV a)) = w4 at *
  obtain ⟨k0, k1, k2, k3⟩ := Tr.four Q4
  have e4 := E4.cell 0
  have f4 := E4.frozen 0
  obtain ⟨r0, r1, r2, r3, r4, r5, r6, r7⟩ := eight B4
  have y0 := B4.frozen 0
  have y1 := B4.frozen 1
  have y2 := B4.frozen 2
  have y3 := B4.frozen 3
  have y4 := B4.frozen 4
  have y5 := B4.frozen 5
  have y6 := B4.frozen 6
  have y7 := B4.frozen 7
  replace B4 := hid B4
  replace E4 := hid E4
  replace G4 := hid G4
  replace o4 := hid o4
  replace p4 := hid p4
  clear Q4
  go_region
  have hst : OwnD w4 (Iv (w.heap.size + 1 + 1) w2.heap.size) (sc 4 [] K N s A l cc none 0 0 none 0 0) (St.mk 4 [] t [] []).d :=
   own_st_mk (R2 := fun _ => False) (R3 := fun _ => False) (by simp) o4.out (own_nil8 w4 _ 1) (own_nil8 w4 _ 1) (fun _ hg => ⟨⟨by have := hg.1; omega, hg.2⟩, id, id⟩) (fun _ h => h.elim) (fun _ h => h.elim)
  obtain ⟨D1, D2, D3, D4, D5, D6⟩ := door8 B4.out E4.out hst G4.out p4.out (errV a) hgl hbl
  clear hst e4 f4 r0 r1 r2 r3 r4 r5 r6 r7 y0 y1 y2 y3 y4 y5 y6 y7 k0 k1 k2 k3
  go_wp2_with fail
  refine leaves_cons (f := 186) (args := #[.pointer (some ⟨g, 0, none⟩), .string ⟨#[59]⟩, .pointer (some ⟨w.heap.size + 1, 0, none⟩)]) (by simp) (by simp [go_sem]) ?_
  refine (leave_err g (w.heap.size + 1) [59] a .returning _ D2).mono ?_
  rintro e u' w'' ⟨rfl, rfl, rfl⟩
  exact ⟨_, results_cell2c Tryz.results152 _ _ w.heap.size (w.heap.size + 1) SI _ (0, 0) _ _ rfl D1 Tryz.underlying60 rfl (by kernel_rfl) rfl (load_err _ _ _ (D2.cell 0)),
   _, _, _, _, _, _, _, _, _, _, _, _, _, _, _, _, _, rfl, own_iv D3 (by omega) (by omega), D4, D5, rfl⟩
 ·obtain ⟨Q4, B4, E4, G4, o4, p4⟩ := (fix4 .nilIface).out
  have z4 := z4 .nilIface
  have ha := hadv.out t j rfl
  clear fix4 hadv
  go_wp2_with fail
  clear e3 f3
  generalize ((w2.alloc (.cells #[.int .i64 K, .int .i64 N, .string ⟨s.toArray⟩, .slice A l cc] ET)).setCell ⟨w.heap.size + 1, 0, none⟩ .nilIface) = w4 at *
  obtain ⟨k0, k1, k2, k3⟩ := Tr.four Q4
  have e4 := E4.cell 0
  have f4 := E4.frozen 0
  obtain ⟨r0, r1, r2, r3, r4, r5, r6, r7⟩ := eight B4
  have y0 := B4.frozen 0
  have y1 := B4.frozen 1
  have y2 := B4.frozen 2
  have y3 := B4.frozen 3
  have y4 := B4.frozen 4
  have y5 := B4.frozen 5
  have y6 := B4.frozen 6
  have y7 := B4.frozen 7
  replace B4 := hid B4
  replace E4 := hid E4
  replace G4 := hid G4
  replace o4 := hid o4
  replace p4 := hid p4
  clear Q4
  go_region
  have hst : OwnD w4 (Iv (w.heap.size + 1 + 1) w2.heap.size) (sc 4 [] K N s A l cc none 0 0 none 0 0) (St.mk 4 [] t [] []).d :=
   own_st_mk (R2 := fun _ => False) (R3 := fun _ => False) (by simp) o4.out (own_nil8 w4 _ 1) (own_nil8 w4 _ 1) (fun _ hg => ⟨⟨by have := hg.1; omega, hg.2⟩, id, id⟩) (fun _ h => h.elim) (fun _ h => h.elim)
  obtain ⟨D1, D2, D3, D4, D5, D6⟩ := door8 B4.out E4.out hst G4.out p4.out .nilIface hgl hbl
  clear hst e4 f4 r0 r1 r2 r3 r4 r5 r6 r7 y0 y1 y2 y3 y4 y5 y6 y7 k0 k1 k2 k3
  go_wp2_with fail
  refine leaves_cons (f := 186) (args := #[.pointer (some ⟨g, 0, none⟩), .string ⟨#[59]⟩, .pointer (some ⟨w.heap.size + 1, 0, none⟩)]) (by simp) (by simp [go_sem]) ?_
  refine (leave_nil g b c (w.heap.size + 1) (uz ts en) j [59] .returning _ D5 (end_uz ts en) D2 (by omega)).mono ?_
  rintro e u' w'' ⟨rfl, rfl, w6, hp6, hg6, rfl⟩
  obtain ⟨L1, L2, L3, L4, L5⟩ := left8 (if seesB (uz ts en) j [59] = true then .nilIface else errV ((uz ts en)[j]?.getD ⟨0, 0, 0, []⟩).p) D1 D2 D3 (by omega) D4 hp6 hg6 hgl hbl
  refine ⟨_, results_cell2c Tryz.results152 _ _ w.heap.size (w.heap.size + 1) SI _ (0, 0) _ _ rfl L1 Tryz.underlying60 rfl (by kernel_rfl) rfl (load_err _ _ _ L2),
   _, _, _, _, _, _, _, _, _, _, _, _, _, _, _, _, _, rfl, L3, L4, L5, ?_⟩
  rw [sees_uz, errAt_uz ts en j ha.2.1]
  unfold semiR
  simp only
  cases seesB ts j [59] with
  | true => exact ⟨rfl, rfl, rfl⟩
  | false => exact rfl
end Go.Proofs.YtiogceepjffmkaaGreatDoor.Gd
