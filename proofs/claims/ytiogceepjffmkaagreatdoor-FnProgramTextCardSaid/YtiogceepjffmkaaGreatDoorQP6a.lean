/- The program's parser of expressions: its reader of tokens. -/
import Derived.Test.YtiogceepjffmkaaGreatDoorQXa
set_option maxHeartbeats 4000000
set_option maxRecDepth 100000
namespace Go.Proofs.YtiogceepjffmkaaGreatDoor.Tk
open Go.RowKit Go.Lib Go.Sort Num Com Mem YtiogceepjffmkaaGreatDoor.Os Tr
abbrev PT : TypeId := 171
abbrev errV (a : Int) : Value := .iface 174 (.agg #[.int .i64 a])
def EndOk (us : List Tok) : Prop := ∀ i s, seesB us i s = true → i + 1 < us.length
abbrev uz (ts : List Tok) (en : Int) : List Tok := ts ++ [⟨0, 0, en, []⟩]
theorem sees_uz (ts : List Tok) (en : Int) (i : Nat) (s : List UInt8) : seesB (uz ts en) i s = seesB ts i s := by
 unfold seesB
 rcases Nat.lt_trichotomy i ts.length with h | h | h
 ·rw [List.getElem?_append_left h]
 ·subst h
  rw [List.getElem?_append_right (Nat.le_refl _), Nat.sub_self, List.getElem?_eq_none (Nat.le_refl _)]; rfl
 ·rw [List.getElem?_eq_none (by simp; omega), List.getElem?_eq_none (by omega)]
theorem end_uz (ts : List Tok) (en : Int) : EndOk (uz ts en) := fun i s h => by
 rw [sees_uz] at h
 have := sees_lt h
 simp; omega
def nxB (q : Bool) (i : Nat) : Nat := if q = true then i + 1 else i
theorem nxB_t (i : Nat) : nxB true i = i + 1 := rfl
theorem nxB_f (i : Nat) : nxB false i = i := rfl
def nxI (q : Int) (i : Nat) : Nat := if q = 0 then i else i + 1
theorem nxI_n {q : Int} (h : q ≠ 0) (i : Nat) : nxI q i = i + 1 := if_neg h
structure Prs (w : World) (g b c : Nat) (us : List Tok) (i : Nat) : Prop where
 blk : ∃ n m, Blk w g PT [.slice (some ⟨b, i * 4, none⟩) n m] ∧ i + n = us.length ∧ 1 ≤ n ∧ i + m = c
 cap : us.length ≤ c ∧ c ≤ maxLen
 rd : Rd w (b + 1) (some ⟨b, 0, none⟩) (cellsT us)
 ne : b ≠ g
section
variable {w w' w'' : World} {g b c i j : Nat} {us : List Tok}
theorem Prs.lt (h : Prs w g b c us i) : g < w.heap.size := by obtain ⟨n, m, hb, _⟩ := h.blk; exact hb.lt
theorem Prs.ilt (h : Prs w g b c us i) : i < us.length := by obtain ⟨n, m, _, h1, h2, _⟩ := h.blk; omega
theorem Prs.blt (h : Prs w g b c us i) : b < w.heap.size := by
 have hi := h.ilt
 have h0 := (cellsT_at us i hi).1
 obtain ⟨ad, e, _, hc⟩ := h.rd (fun hn => by rw [hn] at h0; cases h0)
 cases e
 have h1 := hc _ _ h0
 rcases Nat.lt_or_ge b w.heap.size with hl | hge
 ·exact hl
 ·rw [Os.add_zero] at h1
  simp [World.cell?, Array.getElem?_eq_none hge] at h1
theorem Prs.below (h : Prs w g b c us i) (hb : Below w.heap.size w w') : Prs w' g b c us i := by
 have hg := h.lt
 have hbl := h.blt
 obtain ⟨n, m, h1, h2⟩ := h.blk
 exact ⟨⟨n, m, h1.below hb hg, h2⟩, h.cap, h.rd.below (hb.mono (by omega)), h.ne⟩
theorem Prs.at_ (h : Prs w g b c us i) (hi : i < us.length) : w.cell? ⟨b, i * 4, none⟩ = some (.int .i64 us[i].k) ∧ w.cell? ⟨b, i * 4 + 1, none⟩ = some (.int .i64 us[i].n) ∧ w.cell? ⟨b, i * 4 + 2, none⟩ = some (.int .i64 us[i].p) ∧ w.cell? ⟨b, i * 4 + 3, none⟩ = some (sv us[i].s) := by
 obtain ⟨h0, h1, h2, h3⟩ := cellsT_at us i h.ilt
 obtain ⟨ad, e, _, hc⟩ := h.rd (fun hn => by rw [hn] at h0; cases h0)
 cases e
 have k0 := hc _ _ h0
 have k1 := hc _ _ h1
 have k2 := hc _ _ h2
 have k3 := hc _ _ h3
 rw [Os.add_zero] at k0 k1 k2 k3
 exact ⟨k0, k1, k2, k3⟩
theorem rd_far {w w' : World} {B b g : Nat} {xs : List Value} (h : Rd w B (some ⟨b, 0, none⟩) xs) (hne : b ≠ g) (hk : ∀ k, k ≠ g → w'.heap[k]? = w.heap[k]?) : Rd w' B (some ⟨b, 0, none⟩) xs := fun hn => by
 obtain ⟨ad, e, hb, hc⟩ := h hn
 cases e
 exact ⟨_, rfl, hb, fun j u hu => (World.cell?_of_block (hk _ (by rw [add_block]; exact hne))).trans (hc j u hu)⟩
theorem Prs.next (h : Prs w g b c us i) {n m : Nat} (hn : i + n = us.length) (hm : i + m = c) (h1 : 1 < n) : Prs (w.setCell ⟨g, 0, none⟩ (.slice (some ⟨b, i * 4 + 4, none⟩) (n - 1) (m - 1))) g b c us (i + 1) := by
 have hcap := h.cap
 obtain ⟨n', m', h1', h2, h3, h4⟩ := h.blk
 have e : (i + 1) * 4 = i * 4 + 4 := by omega
 refine ⟨⟨n - 1, m - 1, by rw [e]; exact h1'.set_ 0 _, by omega, by omega, by omega⟩, h.cap, rd_far h.rd h.ne fun k hk => heap_setCell_other w _ k _ hk, h.ne⟩
end
theorem skip_any (g b c : Nat) (us : List Tok) (i : Nat) (w : World) (h : Prs w g b c us i) (hl : i + 1 < us.length) :
  Calls Tryz.prog 151 #[.pointer (some ⟨g, 0, none⟩)] w fun e w' => e = .returned (.tuple #[]) ∧ Prs w' g b c us (i + 1) ∧ w.grownBy w' (some g) := by
 obtain ⟨n, m, hB, hn, hn1, hm⟩ := h.blk
 have hcap := h.cap
 have c0 : w.cell? ⟨g, 0, none⟩ = some (.slice (some ⟨b, i * 4, none⟩) n m) := hB.cell 0
 have f0 := hB.frozen 0
 have hx := hid (h.next hn hm (by omega))
 have hg := hid (gb_set (gb_refl w (some g)) 0 (.slice (some ⟨b, i * 4 + 4, none⟩) (n - 1) (m - 1)))
 go_enter Tryz.func151, Tryz.ntmps151
 go_wp2_with fail
 go_end0
 exact ⟨rfl, hx.out, hg.out⟩
theorem here_any (g b c : Nat) (us : List Tok) (i : Nat) (w : World) (h : Prs w g b c us i) :
  Calls Tryz.prog 110 #[.pointer (some ⟨g, 0, none⟩)] w fun e w' => e = .returned (errV (us[i]?.getD ⟨0, 0, 0, []⟩).p) ∧ w' = w := by
 have hi := h.ilt
 obtain ⟨k0, k1, k2, k3⟩ := h.at_ hi
 obtain ⟨n, m, hB, hn, hn1, hm⟩ := h.blk
 have c0 : w.cell? ⟨g, 0, none⟩ = some (.slice (some ⟨b, i * 4, none⟩) n m) := hB.cell 0
 rw [List.getElem?_eq_getElem hi, Option.getD_some]
 generalize us[i] = t at *
 go_enter Tryz.func110, Tryz.ntmps110
 go_wp2_with fail
 go_ret
 exact ⟨rfl, rfl⟩
theorem take_any (g b c : Nat) (us : List Tok) (i : Nat) (s : List UInt8) (w : World) (h : Prs w g b c us i) (hend : EndOk us) :
  Calls Tryz.prog 113 #[.pointer (some ⟨g, 0, none⟩), .string ⟨s.toArray⟩] w fun e w' => e = .returned (.bool (seesB us i s)) ∧ Prs w' g b c us (nxB (seesB us i s) i) ∧ w.grownBy w' (some g) := by
 have hi := h.ilt
 have hs : seesB us i s = isWordB us[i] s := by unfold seesB; rw [List.getElem?_eq_getElem hi]
 obtain ⟨k0, k1, k2, k3⟩ := h.at_ hi
 obtain ⟨n, m, hB, hn, hn1, hm⟩ := h.blk
 have c0 : w.cell? ⟨g, 0, none⟩ = some (.slice (some ⟨b, i * 4, none⟩) n m) := hB.cell 0
 have hiw := hid (iword_any us[i] s w)
 have hnx := hid (fun w1 (h1 : Prs w1 g b c us i) (hl : i + 1 < us.length) => skip_any g b c us i w1 h1 hl)
 have hend := hid (fun h1 : isWordB us[i] s = true => hend i s (hs.trans h1))
 rw [hs]
 have hP := hid h
 clear hs h hB
 generalize us[i] = t at *
 generalize isWordB t s = q at *
 obtain ⟨tk, tn, tp, tx⟩ := t
 dsimp only at k0 k1 k2 k3
 go_enter Tryz.func113, Tryz.ntmps113
 go_wp2_with fail
 refine hiw.out.mono ?_
 rintro e w1 ⟨rfl, hb⟩
 have hP1 := hid (hP.out.below hb)
 have hG := hid (gb_below (gb_refl w (some g)) hb)
 clear hb hP
 cases q
 ·go_wp2_with fail
  go_ret
  exact ⟨rfl, by rw [nxB_f]; exact hP1.out, hG.out⟩
 ·go_wp2_with fail
  refine (hnx.out _ hP1.out (hend.out (by simp))).mono ?_
  rintro e w2 ⟨rfl, hp, hg⟩
  have hp := hid hp
  have hg := hid (gb_trans hG.out hg)
  go_wp2_with fail
  go_ret
  exact ⟨rfl, by rw [nxB_t]; exact hp.out, hg.out⟩
theorem rd_off {w w2 : World} {g B : Nat} {L : Option Addr} {X : List Value} (h : Rd w B L X) (hB : ∀ ad, L = some ad → ad.block ≠ g) (hBw : B ≤ w.heap.size) (hg : w.grownBy w2 (some g)) : Rd w2 B L X := fun hne => by
 obtain ⟨ad, e, hb, hc⟩ := h hne
 exact ⟨ad, e, hb, fun j u hu => (World.cell?_of_block (hg.block (ad.add j).block (by rw [add_block]; omega) (fun e' => hB ad e (by rw [add_block] at e'; exact Option.some.inj e')))).trans (hc j u hu)⟩
def opIn (us : List Tok) (ks : List Int) (i : Nat) : Int := (ks.find? fun op => seesB us i (C3.symL op)).getD 0
theorem opIn_none {us : List Tok} {ks : List Int} {i : Nat} (h : ∀ j (hj : j < ks.length), seesB us i (C3.symL ks[j]) = false) : opIn us ks i = 0 := by
 unfold opIn
 rw [List.find?_eq_none.2 (fun x hx => by
  obtain ⟨j, hj, rfl⟩ := List.getElem_of_mem hx
  simp [h j hj])]
 rfl
theorem opIn_at {us : List Tok} {ks : List Int} {i j : Nat} (hj : j < ks.length) (h : ∀ m (hm : m < j), seesB us i (C3.symL (ks[m]'(by omega))) = false) (hs : seesB us i (C3.symL ks[j]) = true) : opIn us ks i = ks[j] := by
 unfold opIn
 have e : ks = ks.take j ++ (ks[j] :: ks.drop (j + 1)) := by rw [List.getElem_cons_drop, List.take_append_drop]
 have : ks.find? (fun op => seesB us i (C3.symL op)) = some ks[j] := by
  conv => lhs; rw [e]
  rw [List.find?_append, List.find?_eq_none.2 (fun x hx => by
   obtain ⟨m, hm, rfl⟩ := List.getElem_of_mem hx
   rw [List.length_take] at hm
   rw [List.getElem_take]
   simp [h m (by omega)]), List.find?_cons_of_pos (p := fun op => seesB us i (C3.symL op)) hs]
  rfl
 rw [this]; rfl
theorem snoc_no {us : List Tok} {ks : List Int} {i m : Nat} (hm : m < ks.length) (h : ∀ j (hj : j < ks.length), j < m → seesB us i (C3.symL ks[j]) = false) (hs : seesB us i (C3.symL ks[m]) = false) : ∀ j (hj : j < ks.length), j < m + 1 → seesB us i (C3.symL ks[j]) = false := fun j hj h2 => by
 by_cases e : j = m
 ·subst e; exact hs
 ·exact h j hj (by omega)
theorem takeOp_any (g b c : Nat) (us : List Tok) (i : Nat) (ks : List Int) (OA : Option Addr) (oc : Nat) (w : World) (h : Prs w g b c us i) (hend : EndOk us) (hr : Rd w w.heap.size OA (ks.map (Value.int .i64))) (hO : ∀ ad, OA = some ad → ad.block ≠ g) (hk : ∀ k ∈ ks, 1 ≤ k ∧ k ≤ 8) (hl : ks.length ≤ 8) :
  Calls Tryz.prog 221 #[.pointer (some ⟨g, 0, none⟩), .slice OA ks.length oc] w fun e w' => e = .returned (.tuple #[.int .i64 (opIn us ks i), .bool (opIn us ks i != 0)]) ∧ Prs w' g b c us (nxI (opIn us ks i) i) ∧ w.grownBy w' (some g) := by
 have hP := hid h
 have hr := hid hr
 clear h
 go_enter Tryz.func221, Tryz.ntmps221
 go_wp2_with fail
 go_loopw [10] (fun x wr => ∃ m : Nat, m ≤ ks.length ∧ x = .int .i64 m ∧ (∀ j (hj : j < ks.length), j < m → seesB us i (C3.symL ks[j]) = false) ∧ Prs wr g b c us i ∧ w.grownBy wr (some g)) (fun x _ => ks.length - (Go.RowKit.intOf x).toNat)
 case atStart => exact ⟨0, Nat.zero_le _, rfl, fun j _ h => absurd h (Nat.not_lt_zero _), hP.out, gb_refl _ _⟩
 case round =>
  obtain ⟨m, hm, rfl, hno, hp, hg⟩ := hrel
  have hp := hid hp
  have hno := hid hno
  have hrm := rd_off hr.out hO (Nat.le_refl _) hg
  have hg := hid hg
  by_cases hlt : m < ks.length
  ·have t1 : decide ((m : Int) < (ks.length : Int)) = true := decide_eq_true (by omega)
   obtain ⟨ad, rfl, _, hc⟩ := hrm.at_ (k := m) (by simpa using hlt)
   rw [List.getElem_map] at hc
   have hk1 := hk ks[m] (List.getElem_mem hlt)
   have hsy := hid (fun w => C3.symbol_any ks[m] w)
   have htk := hid (fun w1 (h1 : Prs w1 g b c us i) => take_any g b c us i (C3.symL ks[m]) w1 h1 hend)
   have hat := hid (fun hs => opIn_at hlt (fun j hj => hno.out j (by omega) hj) hs)
   have hnx := hid (snoc_no hlt hno.out)
   generalize C3.symL ks[m] = S at *
   generalize hK : ks[m] = K at *
   clear hrm
   go_wp2_with fail
   refine (hsy.out _).mono ?_
   rintro e w1 ⟨rfl, hb⟩
   have hp1 := hid (hp.out.below hb)
   have hg1 := hid (gb_below hg.out hb)
   clear hb
   go_wp2_with fail
   refine (htk.out _ hp1.out).mono ?_
   rintro e w2 ⟨rfl, hp2, hgg⟩
   have hg2 := hid (gb_trans hg1.out hgg)
   have hp2 := hid hp2
   clear hgg
   cases hq : seesB us i S with
   | false =>
    have hn2 := hid (hnx.out hq)
    have hp2 := hid (show Prs w2 g b c us i by have := hp2.out; rw [hq] at this; exact this)
    go_wp2_with fail
    exact ⟨⟨m + 1, hlt, by go_num, hn2.out, hp2.out, hg2.out⟩, by simp [Go.RowKit.intOf]; omega⟩
   | true =>
    have ha := hid (hat.out hq)
    have hne : K ≠ 0 := by omega
    have hbn := hid (bne_iff_ne.2 hne)
    have hp2 := hid (show Prs w2 g b c us (i + 1) by have := hp2.out; rw [hq] at this; exact this)
    go_wp2_with fail
    go_ret2
    rw [ha.out, hbn.out, nxI_n hne]
    exact ⟨rfl, hp2.out, hg2.out⟩
  ·obtain rfl : m = ks.length := by omega
   have t1 : decide ((ks.length : Int) < (ks.length : Int)) = false := decide_eq_false (by omega)
   have ha := hid (opIn_none (fun j hj => hno.out j hj hj))
   go_wp2_with fail
   go_ret2
   rw [ha.out]
   exact ⟨rfl, hp.out, hg.out⟩
theorem oper_res (w : World) (a b c d : Obj) (cs : List Value) (hc : c = .cells cs.toArray 58) : Blk ((((w.alloc a).alloc b).alloc c).alloc d) (w.heap.size + 1 + 1) 58 cs := by
 subst hc
 have h := Blk.new ((w.alloc a).alloc b) 58 cs
 rw [size_alloc', size_alloc'] at h
 exact h.alloc _
theorem oper_row (w : World) (a b c d : Obj) (cs : List Value) (hc : d = .cells cs.toArray 58) : Blk ((((w.alloc a).alloc b).alloc c).alloc d) (w.heap.size + 1 + 1 + 1) 58 cs := by
 subst hc
 have h := Blk.new (((w.alloc a).alloc b).alloc c) 58 cs
 rw [size_alloc', size_alloc', size_alloc'] at h
 exact h
theorem oper_below (w : World) (a b c d : Obj) : Below w.heap.size w ((((w.alloc a).alloc b).alloc c).alloc d) :=
 ((((Below.refl _ _).alloc (Nat.le_refl _) _).alloc (by rw [size_alloc']; omega) _).alloc (by rw [size_alloc', size_alloc']; omega) _).alloc (by rw [size_alloc', size_alloc', size_alloc']; omega) _
theorem oper_any (op k n k' n' : Int) (s s' : List UInt8) (A A' : Option Addr) (l c l' c' : Nat) (w : World) :
  Calls Tryz.prog 222 #[.int .i64 op, nv k n s A l c, nv k' n' s' A' l' c'] w fun e w' => e = .returned (nv 3 op [] (some ⟨w.heap.size + 1 + 1 + 1, 0, none⟩) 2 2) ∧
   Blk w' (w.heap.size + 1 + 1 + 1) 58 [.int .i64 k, .int .i64 n, sv s, .slice A l c, .int .i64 k', .int .i64 n', sv s', .slice A' l' c'] ∧ Below w.heap.size w w' := by
 go_enter Tryz.func222, Tryz.ntmps222
 go_wp2_with fail
 refine bodyPost_ret (results_cell_row Tryz.results222 _ _ (w.heap.size + 1 + 1) 58 _ (0, 0) _ rfl (oper_res w _ _ _ _ [.int .i64 3, .int .i64 op, sv [], .slice (some ⟨w.heap.size + 1 + 1 + 1, 0, none⟩) 2 2] rfl) Tryz.underlying58 rfl (by kernel_rfl)) rfl ⟨rfl, oper_row w _ _ _ _ _ rfl, oper_below w _ _ _ _⟩
theorem expect_any (g b c : Nat) (us : List Tok) (i : Nat) (s : List UInt8) (w : World) (h : Prs w g b c us i) (hend : EndOk us) :
  Calls Tryz.prog 112 #[.pointer (some ⟨g, 0, none⟩), .string ⟨s.toArray⟩] w fun e w' => e = .returned (if seesB us i s = true then .nilIface else errV (us[i]?.getD ⟨0, 0, 0, []⟩).p) ∧ Prs w' g b c us (nxB (seesB us i s) i) ∧ w.grownBy w' (some g) := by
 have ht := hid (take_any g b c us i s w h hend)
 clear h
 generalize seesB us i s = q at *
 go_enter Tryz.func112, Tryz.ntmps112
 go_wp2_with fail
 refine ht.out.mono ?_
 rintro e w1 ⟨rfl, hp, hg⟩
 have hg := hid hg
 have hp := hid hp
 cases q
 ·have hp := hid (show Prs w1 g b c us i from hp.out)
  go_wp2_with fail
  refine (here_any g b c us i w1 hp.out).mono ?_
  rintro e w2 ⟨rfl, rfl⟩
  go_wp2_with fail
  go_ret
  exact ⟨by simp, hp.out, hg.out⟩
 ·have hp := hid (show Prs w1 g b c us (i + 1) from hp.out)
  go_wp2_with fail
  go_ret
  exact ⟨by simp, hp.out, hg.out⟩
theorem name_any (g b c : Nat) (us : List Tok) (i : Nat) (w : World) (h : Prs w g b c us i) (hi : i < us.length) (hsl : us[i].s.length ≤ 400) (hnx : C2.validB us[i].s = true → i + 1 < us.length) :
  Calls Tryz.prog 114 #[.pointer (some ⟨g, 0, none⟩)] w fun e w' => e = .returned (if C2.validB us[i].s = true then .tuple #[sv us[i].s, .nilIface] else .tuple #[sv [], errV us[i].p]) ∧ Prs w' g b c us (nxB (C2.validB us[i].s) i) ∧ w.grownBy w' (some g) := by
 obtain ⟨k0, k1, k2, k3⟩ := h.at_ hi
 obtain ⟨n, m, hB, hn, hn1, hm⟩ := h.blk
 have c0 : w.cell? ⟨g, 0, none⟩ = some (.slice (some ⟨b, i * 4, none⟩) n m) := hB.cell 0
 have hv := hid (C2.valid_any us[i].s w (by omega))
 have hp := hid h
 have hh := hid (fun w1 (h1 : Prs w1 g b c us i) => here_any g b c us i w1 h1)
 rw [List.getElem?_eq_getElem hi, Option.getD_some] at hh
 clear hB k0 k1 k2
 generalize us[i] = t at *
 generalize hq : C2.validB t.s = q at *
 go_enter Tryz.func114, Tryz.ntmps114
 go_wp2_with fail
 refine hv.out.mono ?_
 rintro e w1 ⟨rfl, hb⟩
 have hp1 := hid (hp.out.below hb)
 have hg := hid (gb_below (gb_refl w (some g)) hb)
 clear hb hp
 cases q
 ·go_wp2_with fail
  refine (hh.out w1 hp1.out).mono ?_
  rintro e w2 ⟨rfl, rfl⟩
  go_wp2_with fail
  go_ret2
  exact ⟨by simp, hp1.out, hg.out⟩
 ·go_wp2_with fail
  refine (skip_any g b c us i w1 hp1.out (hnx (by simp))).mono ?_
  rintro e w2 ⟨rfl, hp2, hg2⟩
  have hp2 := hid hp2
  have hg2 := hid (gb_trans hg.out hg2)
  go_wp2_with fail
  go_ret2
  exact ⟨by simp, hp2.out, hg2.out⟩
abbrev ET : TypeId := 58
def ResIs (r : Res) (t : T) (x : Value) (j : Nat) : Prop := match r with
 | .ok (t', j') => t = t' ∧ x = .nilIface ∧ j = j'
 | .error a => x = errV a
def ParOk (ts : List Tok) (en : Int) (g b c : Nat) (w : World) (r : Res) (e : Ending) (w' : World) : Prop :=
 ∃ (k n : Int) (s : List UInt8) (A : Option Addr) (l cc : Nat) (t : T) (x : Value) (j : Nat), e = .returned (.tuple #[nv k n s A l cc, x]) ∧ OwnE ET w' w.heap.size w'.heap.size (nv k n s A l cc) t ∧ w.grownBy w' (some g) ∧ Prs w' g b c (uz ts en) j ∧ ResIs r t x j
def PP (ts : List Tok) (en : Nat) (g b c : Nat) (F : FuncId) (l n : Nat) : Prop := ∀ m, m ≤ n → ∀ i w, Prs w g b c (uz ts en) i → need ts l i ≤ m → Calls Tryz.prog F #[.pointer (some ⟨g, 0, none⟩)] w (ParOk ts en g b c w (pz ts en m l i))
theorem PP.less {ts : List Tok} {en g b c : Nat} {F : FuncId} {l n m : Nat} (h : PP ts en g b c F l n) (hm : m ≤ n) : PP ts en g b c F l m := fun k hk => h k (by omega)
theorem Prs.far {w w' : World} {g b c i : Nat} {us : List Tok} (h : Prs w g b c us i) (hg : w'.heap[g]? = w.heap[g]?) (hb : w'.heap[b]? = w.heap[b]?) : Prs w' g b c us i := by
 obtain ⟨n, m, h1, h2⟩ := h.blk
 refine ⟨⟨n, m, hg.trans h1, h2⟩, h.cap, fun hn => ?_, h.ne⟩
 obtain ⟨ad, e, hlt, hc⟩ := h.rd hn
 cases e
 exact ⟨_, rfl, hlt, fun j u hu => (World.cell?_of_block (by rw [add_block]; exact hb)).trans (hc j u hu)⟩
theorem Prs.setR {w : World} {g b c i h : Nat} {us : List Tok} (hp : Prs w g b c us i) (h1 : h ≠ g) (h2 : h ≠ b) (k n : Int) (s : List UInt8) (S : Value) : Prs (Dr.setR w h k n s S) g b c us i :=
 hp.far (by rw [heap_setCell_other _ _ _ _ (by show g ≠ h; omega), heap_setCell_other _ _ _ _ (by show g ≠ h; omega), heap_setCell_other _ _ _ _ (by show g ≠ h; omega), heap_setCell_other _ _ _ _ (by show g ≠ h; omega)])
  (by rw [heap_setCell_other _ _ _ _ (by show b ≠ h; omega), heap_setCell_other _ _ _ _ (by show b ≠ h; omega), heap_setCell_other _ _ _ _ (by show b ≠ h; omega), heap_setCell_other _ _ _ _ (by show b ≠ h; omega)])
def mes (g : Nat) (x : Value) (w : World) : Nat := match x with
 | .nilIface => (match w.cell? ⟨g, 0, none⟩ with
  | some (.slice _ n _) => n
  | _ => 0)
 | _ => 0
theorem mes_nil {w : World} {g b c i : Nat} {us : List Tok} (h : Prs w g b c us i) : mes g .nilIface w = us.length - i := by
 obtain ⟨n, m, h1, h2, h3, h4⟩ := h.blk
 unfold mes
 rw [show w.cell? ⟨g, 0, none⟩ = some (.slice (some ⟨b, i * 4, none⟩) n m) from h1.cell 0]
 show n = us.length - i
 omega
theorem mes_err (g : Nat) (a : Int) (w : World) : mes g (errV a) w = 0 := rfl
theorem opIn_uz (ts : List Tok) (en : Int) (l i : Nat) : opIn (uz ts en) (opsOf l) i = opAt ts l i := by
 unfold opIn opAt
 have : (fun op => seesB (uz ts en) i (C3.symL op)) = fun op => seesB ts i (C3.symL op) := funext fun op => sees_uz ts en i _
 rw [this]
theorem uz_len (ts : List Tok) (en : Int) : (uz ts en).length = ts.length + 1 := by simp
theorem opsOf_ok (l : Nat) : (∀ k ∈ opsOf l, 1 ≤ k ∧ k ≤ 8) ∧ (opsOf l).length ≤ 8 := by
 unfold opsOf
 split <;> simp
structure Chn (ts : List Tok) (en : Nat) (g b c h : Nat) (w : World) (l n : Nat) (R : Res) (x : Value) (wr : World) (K N : Int) (s : List UInt8) (A : Option Addr) (L cc : Nat) (t : T) (j : Nat) : Prop where
 var : Blk wr h ET [.int .i64 K, .int .i64 N, sv s, .slice A L cc]
 own : OwnE ET (er wr h) (w.heap.size + 1) wr.heap.size (nv K N s A L cc) t
 prs : Prs wr g b c (uz ts en) j
 gb : w.grownBy wr (some g)
 res : Blk wr w.heap.size ET [.int .i64 0, .int .i64 0, sv [], .slice none 0 0]
 hh : w.heap.size < h
 ans : (x = .nilIface ∧ ∃ m, m ≤ n ∧ lz ts en m l t j = R ∧ need ts l j + 1 ≤ m) ∨ ∃ a, x = errV a ∧ R = .error a
theorem Chn.fin {ts : List Tok} {en g b c h : Nat} {w wr : World} {l n : Nat} {R : Res} {x : Value} {K N : Int} {s : List UInt8} {A : Option Addr} {L cc : Nat} {t : T} {j : Nat} (hc : Chn ts en g b c h w l n R x wr K N s A L cc t j) (hR : ResIs R t x j) (hg : g < w.heap.size) (hb : b < w.heap.size) :
  Blk (Dr.setR wr w.heap.size K N s (.slice A L cc)) w.heap.size ET [.int .i64 K, .int .i64 N, sv s, .slice A L cc] ∧ ParOk ts en g b c w R (.returned (.tuple #[nv K N s A L cc, x])) (Dr.setR wr w.heap.size K N s (.slice A L cc)) := by
 have hch := Dr.setR_chg wr w.heap.size K N s (.slice A L cc)
 refine ⟨Dr.setR_blk hc.res K N s _, K, N, s, A, L, cc, t, x, j, rfl, ?_, Dr.setR_gb hc.gb (Nat.le_refl _) K N s _, hc.prs.setR (by omega) (by omega) K N s _, hR⟩
 exact ((hc.own.er_out.chg hch (Or.inr (Nat.le_refl _))).mono (by omega) hch.size)
theorem Chn.more {ts : List Tok} {en g b c h : Nat} {w wr w4 : World} {l n : Nat} {R : Res} {x : Value} {K N : Int} {s : List UInt8} {A : Option Addr} {L cc : Nat} {t : T} {j : Nat} (hc : Chn ts en g b c h w l n R x wr K N s A L cc t j) (hg : g < w.heap.size) (g4 : wr.grownBy w4 (some g)) (p4 : Prs w4 g b c (uz ts en) j) :
  Chn ts en g b c h w l n R x w4 K N s A L cc t j := by
 have hh := hc.hh
 have hv := hc.var.lt
 have h1 := hc.res.lt
 have s4 := g4.size
 exact ⟨hc.var.gb g4 (by omega), (hc.own.er_go hv s4 fun k h1 h2 _ => g4.block k (by omega) (by simp; omega)).mono (Nat.le_refl _) s4, p4, gb_trans hc.gb g4, hc.res.gb g4 (by omega), hc.hh, hc.ans⟩
theorem Chn.step {ts : List Tok} {en g b c h : Nat} {w wr w4 w5 w6 w7 : World} {l n : Nat} {R : Res} {K N K2 N2 : Int} {s s2 : List UInt8} {A A2 : Option Addr} {L cc L2 cc2 : Nat} {t t2 : T} {j j2 m : Nat} {y : Value} {q : Int} {zo : Obj}
  (hc : Chn ts en g b c h w l n R .nilIface wr K N s A L cc t j) (hg : g < w.heap.size) (hb : b < w.heap.size) (hh : h < wr.heap.size)
  (g4 : wr.grownBy w4 (some g)) (e5 : w5 = w4.alloc zo) (g6 : w5.grownBy w6 (some g)) (o2 : OwnE ET w6 w5.heap.size w6.heap.size (nv K2 N2 s2 A2 L2 cc2) t2) (p2 : Prs w6 g b c (uz ts en) j2)
  (w7e : w7 = Dr.setR w6 w4.heap.size K2 N2 s2 (.slice A2 L2 cc2)) {w8 : World} (b8 : Below w7.heap.size w7 w8)
  (r8 : Blk w8 (w7.heap.size + 1 + 1 + 1) ET [.int .i64 K, .int .i64 N, sv s, .slice A L cc, .int .i64 K2, .int .i64 N2, sv s2, .slice A2 L2 cc2])
  (ha : (y = .nilIface ∧ m ≤ n ∧ lz ts en m l (opT q t t2) j2 = R ∧ need ts l j2 + 1 ≤ m) ∨ ∃ a, y = errV a ∧ R = .error a) :
  Chn ts en g b c h w l n R y (Dr.setR w8 h 3 q [] (.slice (some ⟨w7.heap.size + 1 + 1 + 1, 0, none⟩) 2 2)) 3 q [] (some ⟨w7.heap.size + 1 + 1 + 1, 0, none⟩) 2 2 (opT q t t2) j2 := by
 have s4 := g4.size
 have s5 : w5.heap.size = w4.heap.size + 1 := by rw [e5, size_alloc']
 have s6 := g6.size
 have c7 := Dr.setR_chg w6 w4.heap.size K2 N2 s2 (.slice A2 L2 cc2)
 rw [← w7e] at c7
 have s7 : w7.heap.size = w6.heap.size := by rw [w7e]; simp [World.setCell]
 have s8 := b8.size
 have l8 := r8.lt
 have hhr := hc.hh
 have gw := hc.gb
 have szr := gw.size
 have g5 : w.grownBy w5 (some g) := by rw [e5]; exact gb_trans (gb_trans gw g4) (World.grownBy_alloc w4 _ _)
 have g6' := gb_trans g5 g6
 have g7 : w.grownBy w7 (some g) := by rw [w7e]; exact Dr.setR_gb g6' (by omega) _ _ _ _
 have g8 := gb_below g7 b8
 -- blocks of wr, other than g: as they were, up to w8
 have keep : ∀ k, k < wr.heap.size → k ≠ g → w8.heap[k]? = wr.heap[k]? := fun k hk hkg => by
  have a1 := g4.block k hk (by simpa using hkg)
  have a2 : w5.heap[k]? = w4.heap[k]? := by rw [e5]; exact Below.heap_alloc w4 _ k (by omega)
  have a3 := g6.block k (by omega) (by simpa using hkg)
  have a4 := c7.block k (by omega) (by omega)
  have a5 := b8.block k (by omega)
  rw [a5, a4, a3, a2, a1]
 have v8 : Blk w8 h ET [.int .i64 K, .int .i64 N, sv s, .slice A L cc] := (keep h hh (by omega)).trans hc.var
 have own1 : OwnE ET (er w8 h) (w.heap.size + 1) wr.heap.size (nv K N s A L cc) t := hc.own.er_go hh (by omega) fun k h1 h2 _ => keep k h2 (by omega)
 have own2 : OwnE ET (er w8 h) w5.heap.size w6.heap.size (nv K2 N2 s2 A2 L2 cc2) t2 := ((o2.same fun k h1 h2 => (b8.block k (by omega)).trans (c7.block k (by omega) (by omega)))).er_in (Or.inl (by omega))
 have own1' : OwnE ET (er w8 h) (w.heap.size + 1) w5.heap.size (nv K N s A L cc) t := own1.mono (Nat.le_refl _) (by omega)
 have hm := Dr.made_two (w := er w8 h) 3 q own1' own2 (er_new r8 (by omega)) (by omega) (by omega) (by omega)
 have c9 := Dr.setR_chg w8 h 3 q [] (.slice (some ⟨w7.heap.size + 1 + 1 + 1, 0, none⟩) 2 2)
 have s9 : (Dr.setR w8 h 3 q [] (.slice (some ⟨w7.heap.size + 1 + 1 + 1, 0, none⟩) 2 2)).heap.size = w8.heap.size := by simp [World.setCell]
 have p8 : Prs w8 g b c (uz ts en) j2 := by
  have p7 : Prs w7 g b c (uz ts en) j2 := by rw [w7e]; exact p2.setR (by omega) (by omega) _ _ _ _
  exact p7.below b8
 refine ⟨Dr.setR_blk v8 _ _ _ _, ?_, p8.setR (by omega) (by omega) _ _ _ _, Dr.setR_gb g8 (by omega) _ _ _ _, ?_, hhr, ?_⟩
 ·have h1 := hm.1
  rw [er_size] at h1
  rw [s9]
  exact h1.er_go (by omega) (by omega) fun k _ h2 hk => c9.block k (by omega) (by omega)
 ·have h1 : Blk w8 w.heap.size ET [.int .i64 0, .int .i64 0, sv [], .slice none 0 0] := (keep _ (by omega) (by omega)).trans hc.res
  exact blk_chg h1 c9 (by omega)
 ·rcases ha with ⟨h1, h2⟩ | h1
  ·exact Or.inl ⟨h1, m, h2⟩
  ·exact Or.inr h1
theorem chain_any (ts : List Tok) (en g b c : Nat) (F : FuncId) (hF : ∀ args w, (callFunc F args).run Tryz.prog w = .ok (.enter F args) w) (l n : Nat) (hl : l ≤ 5) (hl3 : l ≠ 3) (hl0 : 1 ≤ l) (hop : PP ts en g b c F (l + 1) n) (i : Nat) (OA : Addr) (oc : Nat) (w : World) (h : Prs w g b c (uz ts en) i) (hr : Rd w w.heap.size (some OA) ((opsOf l).map (Value.int .i64))) (hO : OA.block ≠ g) (hn : need ts l i ≤ n + 1) (R : Res) (hRe : R = pz ts en (n + 1) l i) :
  Calls Tryz.prog 208 #[.pointer (some ⟨g, 0, none⟩), .func (.func F) #[.pointer (some ⟨g, 0, none⟩)] #[], .slice (some OA) (opsOf l).length oc] w (ParOk ts en g b c w R) := by
 have hP := hid h
 have hr := hid hr
 clear h
 go_enter Tryz.func208, Tryz.ntmps208
 go_wp2_with fail
 have hlt := hP.out.lt
 have hblt := hP.out.blt
 have hne := hP.out.ne
 have hP1 := hid (hP.out.below (box_below w (.cells #[.int .i64 0, .int .i64 0, .string ⟨#[]⟩, .slice none 0 0] ET)))
 have G1 := hid (World.grownBy_alloc w (.cells #[.int .i64 0, .int .i64 0, .string ⟨#[]⟩, .slice none 0 0] ET) (some g))
 have B1 := hid (Blk.new w ET [.int .i64 0, .int .i64 0, .string ⟨#[]⟩, .slice none 0 0])
 have z1 : (w.alloc (.cells #[.int .i64 0, .int .i64 0, .string ⟨#[]⟩, .slice none 0 0] ET)).heap.size = w.heap.size + 1 := size_alloc' _ _
 generalize (w.alloc (.cells #[.int .i64 0, .int .i64 0, .string ⟨#[]⟩, .slice none 0 0] ET)) = w1 at *
 refine (hop n (Nat.le_refl n) i w1 hP1.out (by unfold need at hn ⊢; omega)).mono ?_
 rintro e w2 ⟨K, N, s, A, L, cc, t, x, j, rfl, ho, hg, hp, hR⟩
 have G2 := hid (gb_trans G1.out hg)
 have B2 := hid (B1.out.gb hg (by omega))
 have z2 := hg.size
 have ho := hid ho
 have hp := hid hp
 have hR := hid hR
 clear hg B1 hP1 G1
 go_wp2_with fail
 have z1' : w1.heap.size = w.heap.size + 1 := z1
 have hC : Chn ts en g b c w2.heap.size w l n R x (w2.alloc (.cells #[.int .i64 K, .int .i64 N, .string ⟨s.toArray⟩, .slice A L cc] ET)) K N s A L cc t j := by
  refine ⟨Blk.new w2 ET _, ?_, hp.out.below (box_below _ _), gb_below G2.out (box_below _ _), B2.out.alloc _, by omega, ?_⟩
  ·rw [size_alloc']
   have h1 := ho.out
   rw [z1] at h1
   exact ((h1.same (same_below (box_below _ _) (Nat.le_refl _))).er_in (Or.inr (Nat.le_refl _))).mono (Nat.le_refl _) (by omega)
  ·have hR := hR.out
   rw [hRe, pz, if_neg (by omega), if_neg (by omega)]
   cases hq : pz ts en n (l + 1) i with
   | error a => rw [hq] at hR; exact Or.inr ⟨a, hR, rfl⟩
   | ok p =>
    obtain ⟨t', j'⟩ := p
    rw [hq] at hR
    obtain ⟨rfl, rfl, rfl⟩ := hR
    have ha := (pz_adv ts en n).1 _ _ _ _ hq
    exact Or.inl ⟨rfl, n, Nat.le_refl n, rfl, by unfold need at hn ⊢; omega⟩
 clear hRe ho hp hR G2 B2 z1
 have hh : w2.heap.size < (w2.alloc (.cells #[.int .i64 K, .int .i64 N, .string ⟨s.toArray⟩, .slice A L cc] ET)).heap.size := by rw [size_alloc']; omega
 have hC := hid hC
 generalize (w2.alloc (.cells #[.int .i64 K, .int .i64 N, .string ⟨s.toArray⟩, .slice A L cc] ET)) = w3 at *
 generalize w2.heap.size = h at *
 generalize Value.tuple #[nv K N s A L cc, x] = V1
 generalize nv K N s A L cc = V2
 have hx0 := x
 go_loopw [9] (fun y wr => ∃ K N s A L cc t j, Chn ts en g b c h w l n R y wr K N s A L cc t j) (fun y wr => mes g y wr)
 case atStart => exact ⟨_, _, _, _, _, _, _, _, hC.out⟩
 case round =>
  obtain ⟨K, N, s, A, L, cc, t, j, hc⟩ := hrel
  have hC := hid hc
  obtain ⟨k0, k1, k2, k3⟩ := four hc.var
  rcases hc.ans with ⟨rfl, m, hm, hlz, hnd⟩ | ⟨a, rfl, hRa⟩
  ·have hm1 := mes_nil hC.out.prs
   have hjl := hC.out.prs.ilt
   rw [uz_len] at hjl
   obtain ⟨m, rfl⟩ : ∃ m', m = m' + 1 := ⟨m - 1, by omega⟩
   rw [lz] at hlz
   have hto := hid (takeOp_any g b c (uz ts en) j (opsOf l) (some OA) oc wr hC.out.prs (end_uz ts en) ((rd_off hr.out (fun ad e => by cases e; exact hO) (Nat.le_refl _) hC.out.gb).more hC.out.gb.size) (fun ad e => by cases e; exact hO) (opsOf_ok l).1 (opsOf_ok l).2)
   rw [opIn_uz] at hto
   have hoa := hid (opAt_lt (ts := ts) (l := l) (j := j))
   clear hc k0 k1 k2 k3
   generalize opAt ts l j = q at *
   by_cases hq : q = 0
   ·subst hq
    rw [if_pos rfl] at hlz
    have hto := hid (show Calls Tryz.prog 221 #[.pointer (some ⟨g, 0, none⟩), .slice (some OA) (opsOf l).length oc] wr fun e w' => e = .returned (.tuple #[.int .i64 0, .bool false]) ∧ Prs w' g b c (uz ts en) j ∧ wr.grownBy w' (some g) from hto.out)
    go_wp2_with fail
    refine hto.out.mono ?_
    rintro e w4 ⟨rfl, hp4, hg4⟩
    have hC4 := hC.out.more hlt hg4 hp4
    have hf := hC4.fin (show ResIs R t .nilIface j by rw [← hlz]; exact ⟨rfl, rfl, rfl⟩) hlt hblt
    have hf1 := hid hf.1
    have hf2 := hid hf.2
    obtain ⟨k0, k1, k2, k3⟩ := four hC4.var
    obtain ⟨r0, r1, r2, r3⟩ := four hC4.res
    have y0 := hC4.res.frozen 0
    have y1 := hC4.res.frozen 1
    have y2 := hC4.res.frozen 2
    have y3 := hC4.res.frozen 3
    clear hf hC4 hp4 hg4
    go_wp2_with fail
    exact bodyPost_ret (results_cell2 Tryz.results208 _ _ w.heap.size 58 _ (0, 0) _ rfl hf1.out Tryz.underlying58 rfl (by kernel_rfl)) rfl hf2.out
   ·rw [if_neg hq] at hlz
    have hjl2 := hoa.out hq
    have hto := hid (show Calls Tryz.prog 221 #[.pointer (some ⟨g, 0, none⟩), .slice (some OA) (opsOf l).length oc] wr fun e w' => e = .returned (.tuple #[.int .i64 q, .bool true]) ∧ Prs w' g b c (uz ts en) (j + 1) ∧ wr.grownBy w' (some g) by
     have := hto.out
     rw [nxI_n hq, bne_iff_ne.2 hq] at this
     exact this)
    have hnm : need ts (l + 1) (j + 1) ≤ m := by unfold need at hnd ⊢; omega
    have hcall := hid (fun w1 h1 => hop m (by omega) (j + 1) w1 h1 hnm)
    have hadv := (pz_adv ts en m).1 (l + 1) (j + 1)
    have hstep : ∃ RR : Res, pz ts en m (l + 1) (j + 1) = RR := ⟨_, rfl⟩
    obtain ⟨RR, hRR⟩ := hstep
    rw [hRR] at hcall hlz hadv
    have hlz := hid hlz
    have hadv := hid hadv
    clear hRR
    go_wp2_with fail
    refine hto.out.mono ?_
    rintro e w4 ⟨rfl, hp4, hg4⟩
    have hC4 := hid (hC.out)
    have hp4 := hid hp4
    have hg4 := hid hg4
    clear hto
    go_wp2_with fail
    obtain ⟨w5, e5⟩ : ∃ w5, w5 = w4.alloc (.cells #[.int .i64 0, .int .i64 0, .string ⟨#[]⟩, .slice none 0 0] ET) := ⟨_, rfl⟩
    rw [← e5]
    have hp5 := hid (hp4.out.below (box_below w4 (.cells #[.int .i64 0, .int .i64 0, .string ⟨#[]⟩, .slice none 0 0] ET)))
    rw [← e5] at hp5
    have z5 : w5.heap.size = w4.heap.size + 1 := by rw [e5, size_alloc']
    have b5 := hid (Blk.new w4 ET [.int .i64 0, .int .i64 0, .string ⟨#[]⟩, .slice none 0 0])
    rw [← e5] at b5
    have z4 := hg4.out.size
    have hvl := hC.out.var.lt
    have hhr := hC.out.hh
    refine (hcall.out _ hp5.out).mono ?_
    rintro e w6 ⟨K2, N2, s2, A2, L2, cc2, t2, x2, j2, rfl, o2, g6, p2, hR2⟩
    have b6 := b5.out.gb g6 (by omega)
    have z6 := g6.size
    have y0 := b6.frozen 0
    have y1 := b6.frozen 1
    have y2 := b6.frozen 2
    have y3 := b6.frozen 3
    obtain ⟨r0, r1, r2, r3⟩ := four b6
    have b7 := Dr.setR_blk b6 K2 N2 s2 (.slice A2 L2 cc2)
    have v6 : Blk w6 h ET [.int .i64 K, .int .i64 N, sv s, .slice A L cc] := by
     have h1 := hC.out.var.gb hg4.out (by omega)
     have h2 := h1.alloc (.cells #[.int .i64 0, .int .i64 0, .string ⟨#[]⟩, .slice none 0 0] ET)
     rw [← e5] at h2
     exact h2.gb g6 (by omega)
    have c7 := Dr.setR_chg w6 w4.heap.size K2 N2 s2 (.slice A2 L2 cc2)
    have v7 := blk_chg v6 c7 (by omega)
    obtain ⟨q0, q1, q2, q3⟩ := four b7
    obtain ⟨k0, k1, k2, k3⟩ := four v7
    have hst := hid (fun (w7 w8 : World) (m : Nat) (y : Value) (hw7 : w7 = Dr.setR w6 w4.heap.size K2 N2 s2 (.slice A2 L2 cc2)) => hC.out.step (y := y) (q := q) (m := m) hlt hblt hvl hg4.out e5 g6 o2 p2 hw7 (w8 := w8))
    have hop7 := hid (oper_any q K N K2 N2 s s2 A A2 L cc L2 cc2 (Dr.setR w6 w4.heap.size K2 N2 s2 (.slice A2 L2 cc2)))
    have hv8 := hid (fun (w7 w8 : World) (hw7 : w7 = Dr.setR w6 w4.heap.size K2 N2 s2 (.slice A2 L2 cc2)) (b8 : Below w7.heap.size w7 w8) => (show Blk w8 h ET [.int .i64 K, .int .i64 N, sv s, .slice A L cc] by subst hw7; exact v7.below b8 v7.lt))
    have p2 := hid p2
    have hR2 := hid hR2
    clear b7 v7 v6 b6 c7 o2 g6 hcall hp5 b5
    dsimp only [Dr.setR] at q0 q1 q2 q3 k0 k1 k2 k3 hop7
    go_wp2_with fail
    refine hop7.out.mono ?_
    rintro e w8 ⟨rfl, r8, b8⟩
    have v8 := hv8.out _ w8 rfl b8
    have f0 := v8.frozen 0
    have f1 := v8.frozen 1
    have f2 := v8.frozen 2
    have f3 := v8.frozen 3
    have hst := hid (fun (m : Nat) (y : Value) => hst.out _ w8 m y rfl b8 r8)
    obtain ⟨d0, d1, d2, d3⟩ := four v8
    clear hop7 hv8 q0 q1 q2 q3 k0 k1 k2 k3 y0 y1 y2 y3 r0 r1 r2 r3 r8 b8
    clear v8
    have hfin : ∃ m', (x2 = .nilIface ∧ m' ≤ n ∧ lz ts en m' l (opT q t t2) j2 = R ∧ need ts l j2 + 1 ≤ m') ∨ ∃ a, x2 = errV a ∧ R = .error a := by
     have hR := hR2.out
     have hz := hlz.out
     cases RR with
     | error a => exact ⟨0, Or.inr ⟨a, hR, hz.symm⟩⟩
     | ok p =>
      obtain ⟨t', j'⟩ := p
      obtain ⟨rfl, rfl, rfl⟩ := hR
      have ha := hadv.out _ _ rfl
      simp only [if_neg hl3] at hz
      exact ⟨m, Or.inl ⟨rfl, by omega, hz, by unfold need at hnd ⊢; omega⟩⟩
    obtain ⟨m', hfin⟩ := hfin
    have hx2 : x2 = .nilIface ∨ ∃ a, x2 = errV a := by
     rcases hfin with h | ⟨a, h, _⟩
     ·exact Or.inl h.1
     ·exact Or.inr ⟨a, h⟩
    have hC9 := hid (hst.out m' x2 hfin)
    have hj2 : x2 = .nilIface → j + 1 < j2 := fun hx => by
     have hR := hR2.out
     cases RR with
     | error a => rw [hx] at hR; cases hR
     | ok p =>
      obtain ⟨t', j'⟩ := p
      obtain ⟨_, _, rfl⟩ := hR
      exact (hadv.out _ _ rfl).1
    have hsz : (Dr.setR w6 w4.heap.size K2 N2 s2 (.slice A2 L2 cc2)).heap.size = w6.heap.size := by simp [World.setCell]
    rw [hsz] at hC9
    clear hst hfin hR2 hlz hadv hsz
    go_wp2_with fail
    refine ⟨⟨_, _, _, _, _, _, _, _, hC9.out⟩, ?_⟩
    rw [hm1]
    rcases hx2 with rfl | ⟨a, rfl⟩
    ·have h1 := hj2 rfl
     rw [mes_nil hC9.out.prs, uz_len]
     omega
    ·rw [mes_err, uz_len]
     omega
  ·have hf := hc.fin (show ResIs R t (errV a) j by rw [hRa]; exact rfl) hlt hblt
   have hf1 := hid hf.1
   have hf2 := hid hf.2
   obtain ⟨r0, r1, r2, r3⟩ := four hc.res
   have y0 := hc.res.frozen 0
   have y1 := hc.res.frozen 1
   have y2 := hc.res.frozen 2
   have y3 := hc.res.frozen 3
   clear hf hc
   go_wp2_with fail
   exact bodyPost_ret (results_cell2 Tryz.results208 _ _ w.heap.size 58 _ (0, 0) _ rfl hf1.out Tryz.underlying58 rfl (by kernel_rfl)) rfl hf2.out
theorem par_fin {ts : List Tok} {en g b c : Nat} {w wx : World} {r : Res} {x : Value} {K N : Int} {s : List UInt8} {A : Option Addr} {L cc : Nat} {t : T} {j lo hi : Nat} {z0 z1 z2 z3 : Value} (hres : Blk wx w.heap.size ET [z0, z1, z2, z3]) (own : OwnE ET wx lo hi (nv K N s A L cc) t) (hlo : w.heap.size < lo) (hhi : hi ≤ wx.heap.size)
  (gb : w.grownBy wx (some g)) (prs : Prs wx g b c (uz ts en) j) (hR : ResIs r t x j) (hg : g < w.heap.size) (hb : b < w.heap.size) :
  Blk (Dr.setR wx w.heap.size K N s (.slice A L cc)) w.heap.size ET [.int .i64 K, .int .i64 N, sv s, .slice A L cc] ∧ ParOk ts en g b c w r (.returned (.tuple #[nv K N s A L cc, x])) (Dr.setR wx w.heap.size K N s (.slice A L cc)) := by
 have hch := Dr.setR_chg wx w.heap.size K N s (.slice A L cc)
 refine ⟨Dr.setR_blk hres K N s _, K, N, s, A, L, cc, t, x, j, rfl, ?_, Dr.setR_gb gb (Nat.le_refl _) K N s _, prs.setR (by omega) (by omega) K N s _, hR⟩
 exact ((own.chg hch (Or.inr (by omega))).mono (by omega) (by have := hch.size; omega))
def andR (r : Res) (f : T → Nat → Res) : Res := match r with
 | .error a => .error a
 | .ok (e, j) => f e j
theorem need_pos {ts : List Tok} {l i n : Nat} (h : need ts l i ≤ n) (hl : l ≤ 7) : ∃ m, n = m + 1 := ⟨n - 1, by unfold need at h; omega⟩
theorem lev_parseExpr {ts : List Tok} {en g b c n : Nat} (hop : PP ts en g b c 209 2 n) : PP ts en g b c 187 1 (n + 1) := by
 intro m hm i w h hn
 obtain ⟨m, rfl⟩ := need_pos hn (by omega)
 have hlt := h.lt
 have hblt := h.blt
 have z1 : ((w.alloc (.cells #[.int .i64 0, .int .i64 0, .string ⟨#[]⟩, .slice none 0 0] ET)).alloc (.cells #[.int .i64 8] 3)).heap.size = w.heap.size + 1 + 1 := by rw [size_alloc', size_alloc']
 have B1 := hid ((Blk.new w ET [.int .i64 0, .int .i64 0, .string ⟨#[]⟩, .slice none 0 0]).alloc (.cells #[.int .i64 8] 3))
 have b1 : Below w.heap.size w ((w.alloc (.cells #[.int .i64 0, .int .i64 0, .string ⟨#[]⟩, .slice none 0 0] ET)).alloc (.cells #[.int .i64 8] 3)) := ((Below.refl _ _).alloc (Nat.le_refl _) _).alloc (by rw [size_alloc']; omega) _
 have hr1 : Rd ((w.alloc (.cells #[.int .i64 0, .int .i64 0, .string ⟨#[]⟩, .slice none 0 0] ET)).alloc (.cells #[.int .i64 8] 3)) (w.heap.size + 1 + 1) (some ⟨w.heap.size + 1, 0, none⟩) ((opsOf 1).map (Value.int .i64)) := by
  have h := (Blk.new (w.alloc (.cells #[.int .i64 0, .int .i64 0, .string ⟨#[]⟩, .slice none 0 0] ET)) 3 [.int .i64 8]).rd
  rw [size_alloc'] at h
  exact h
 have hch := hid (chain_any ts en g b c 209 (enters_of Tryz.func209 (by kernel_rfl) rfl) 1 m (by omega) (by omega) (by omega) (hop.less (by omega)) i ⟨w.heap.size + 1, 0, none⟩ 1 _ (h.below b1) (hr1.more (by omega)) (by show w.heap.size + 1 ≠ g; omega) (by omega) _ rfl)
 have G1 := hid (gb_below (gb_refl w (some g)) b1)
 go_enter Tryz.func187, Tryz.ntmps187
 go_wp2_with fail
 generalize ((w.alloc (.cells #[.int .i64 0, .int .i64 0, .string ⟨#[]⟩, .slice none 0 0] ET)).alloc (.cells #[.int .i64 8] 3)) = w1 at *
 refine hch.out.mono ?_
 rintro e w2 ⟨K, N, s, A, L, cc, t, x, j, rfl, ho, hg, hp, hR⟩
 have B2 := B1.out.gb hg (by omega)
 have z2 := hg.size
 have hf := par_fin B2 ho (by omega) (Nat.le_refl _) (gb_trans G1.out hg) hp hR hlt hblt
 have hf1 := hid hf.1
 have hf2 := hid hf.2
 obtain ⟨r0, r1, r2, r3⟩ := four B2
 have y0 := B2.frozen 0
 have y1 := B2.frozen 1
 have y2 := B2.frozen 2
 have y3 := B2.frozen 3
 clear hf B2 ho hp hR hg hch hr1 b1
 go_wp2_with fail
 exact bodyPost_ret (results_cell2 Tryz.results187 _ _ w.heap.size 58 _ (0, 0) _ rfl hf1.out Tryz.underlying58 rfl (by kernel_rfl)) rfl hf2.out
theorem lev_parseAnd {ts : List Tok} {en g b c n : Nat} (hop : PP ts en g b c 223 3 n) : PP ts en g b c 209 2 (n + 1) := by
 intro m hm i w h hn
 obtain ⟨m, rfl⟩ := need_pos hn (by omega)
 have hlt := h.lt
 have hblt := h.blt
 have z1 : ((w.alloc (.cells #[.int .i64 0, .int .i64 0, .string ⟨#[]⟩, .slice none 0 0] ET)).alloc (.cells #[.int .i64 7] 3)).heap.size = w.heap.size + 1 + 1 := by rw [size_alloc', size_alloc']
 have B1 := hid ((Blk.new w ET [.int .i64 0, .int .i64 0, .string ⟨#[]⟩, .slice none 0 0]).alloc (.cells #[.int .i64 7] 3))
 have b1 : Below w.heap.size w ((w.alloc (.cells #[.int .i64 0, .int .i64 0, .string ⟨#[]⟩, .slice none 0 0] ET)).alloc (.cells #[.int .i64 7] 3)) := ((Below.refl _ _).alloc (Nat.le_refl _) _).alloc (by rw [size_alloc']; omega) _
 have hr1 : Rd ((w.alloc (.cells #[.int .i64 0, .int .i64 0, .string ⟨#[]⟩, .slice none 0 0] ET)).alloc (.cells #[.int .i64 7] 3)) (w.heap.size + 1 + 1) (some ⟨w.heap.size + 1, 0, none⟩) ((opsOf 2).map (Value.int .i64)) := by
  have h := (Blk.new (w.alloc (.cells #[.int .i64 0, .int .i64 0, .string ⟨#[]⟩, .slice none 0 0] ET)) 3 [.int .i64 7]).rd
  rw [size_alloc'] at h
  exact h
 have hch := hid (chain_any ts en g b c 223 (enters_of Tryz.func223 (by kernel_rfl) rfl) 2 m (by omega) (by omega) (by omega) (hop.less (by omega)) i ⟨w.heap.size + 1, 0, none⟩ 1 _ (h.below b1) (hr1.more (by omega)) (by show w.heap.size + 1 ≠ g; omega) (by omega) _ rfl)
 have G1 := hid (gb_below (gb_refl w (some g)) b1)
 go_enter Tryz.func209, Tryz.ntmps209
 go_wp2_with fail
 generalize ((w.alloc (.cells #[.int .i64 0, .int .i64 0, .string ⟨#[]⟩, .slice none 0 0] ET)).alloc (.cells #[.int .i64 7] 3)) = w1 at *
 refine hch.out.mono ?_
 rintro e w2 ⟨K, N, s, A, L, cc, t, x, j, rfl, ho, hg, hp, hR⟩
 have B2 := B1.out.gb hg (by omega)
 have z2 := hg.size
 have hf := par_fin B2 ho (by omega) (Nat.le_refl _) (gb_trans G1.out hg) hp hR hlt hblt
 have hf1 := hid hf.1
 have hf2 := hid hf.2
 obtain ⟨r0, r1, r2, r3⟩ := four B2
 have y0 := B2.frozen 0
 have y1 := B2.frozen 1
 have y2 := B2.frozen 2
 have y3 := B2.frozen 3
 clear hf B2 ho hp hR hg hch hr1 b1
 go_wp2_with fail
 exact bodyPost_ret (results_cell2 Tryz.results209 _ _ w.heap.size 58 _ (0, 0) _ rfl hf1.out Tryz.underlying58 rfl (by kernel_rfl)) rfl hf2.out
theorem lev_parseSum {ts : List Tok} {en g b c n : Nat} (hop : PP ts en g b c 255 5 n) : PP ts en g b c 230 4 (n + 1) := by
 intro m hm i w h hn
 obtain ⟨m, rfl⟩ := need_pos hn (by omega)
 have hlt := h.lt
 have hblt := h.blt
 have z1 : ((w.alloc (.cells #[.int .i64 0, .int .i64 0, .string ⟨#[]⟩, .slice none 0 0] ET)).alloc (.cells #[.int .i64 1, .int .i64 2] 3)).heap.size = w.heap.size + 1 + 1 := by rw [size_alloc', size_alloc']
 have B1 := hid ((Blk.new w ET [.int .i64 0, .int .i64 0, .string ⟨#[]⟩, .slice none 0 0]).alloc (.cells #[.int .i64 1, .int .i64 2] 3))
 have b1 : Below w.heap.size w ((w.alloc (.cells #[.int .i64 0, .int .i64 0, .string ⟨#[]⟩, .slice none 0 0] ET)).alloc (.cells #[.int .i64 1, .int .i64 2] 3)) := ((Below.refl _ _).alloc (Nat.le_refl _) _).alloc (by rw [size_alloc']; omega) _
 have hr1 : Rd ((w.alloc (.cells #[.int .i64 0, .int .i64 0, .string ⟨#[]⟩, .slice none 0 0] ET)).alloc (.cells #[.int .i64 1, .int .i64 2] 3)) (w.heap.size + 1 + 1) (some ⟨w.heap.size + 1, 0, none⟩) ((opsOf 4).map (Value.int .i64)) := by
  have h := (Blk.new (w.alloc (.cells #[.int .i64 0, .int .i64 0, .string ⟨#[]⟩, .slice none 0 0] ET)) 3 [.int .i64 1, .int .i64 2]).rd
  rw [size_alloc'] at h
  exact h
 have hch := hid (chain_any ts en g b c 255 (enters_of Tryz.func255 (by kernel_rfl) rfl) 4 m (by omega) (by omega) (by omega) (hop.less (by omega)) i ⟨w.heap.size + 1, 0, none⟩ 2 _ (h.below b1) (hr1.more (by omega)) (by show w.heap.size + 1 ≠ g; omega) (by omega) _ rfl)
 have G1 := hid (gb_below (gb_refl w (some g)) b1)
 go_enter Tryz.func230, Tryz.ntmps230
 go_wp2_with fail
 generalize ((w.alloc (.cells #[.int .i64 0, .int .i64 0, .string ⟨#[]⟩, .slice none 0 0] ET)).alloc (.cells #[.int .i64 1, .int .i64 2] 3)) = w1 at *
 refine hch.out.mono ?_
 rintro e w2 ⟨K, N, s, A, L, cc, t, x, j, rfl, ho, hg, hp, hR⟩
 have B2 := B1.out.gb hg (by omega)
 have z2 := hg.size
 have hf := par_fin B2 ho (by omega) (Nat.le_refl _) (gb_trans G1.out hg) hp hR hlt hblt
 have hf1 := hid hf.1
 have hf2 := hid hf.2
 obtain ⟨r0, r1, r2, r3⟩ := four B2
 have y0 := B2.frozen 0
 have y1 := B2.frozen 1
 have y2 := B2.frozen 2
 have y3 := B2.frozen 3
 clear hf B2 ho hp hR hg hch hr1 b1
 go_wp2_with fail
 exact bodyPost_ret (results_cell2 Tryz.results230 _ _ w.heap.size 58 _ (0, 0) _ rfl hf1.out Tryz.underlying58 rfl (by kernel_rfl)) rfl hf2.out
theorem lev_parseProduct {ts : List Tok} {en g b c n : Nat} (hop : PP ts en g b c 264 6 n) : PP ts en g b c 255 5 (n + 1) := by
 intro m hm i w h hn
 obtain ⟨m, rfl⟩ := need_pos hn (by omega)
 have hlt := h.lt
 have hblt := h.blt
 have z1 : ((w.alloc (.cells #[.int .i64 0, .int .i64 0, .string ⟨#[]⟩, .slice none 0 0] ET)).alloc (.cells #[.int .i64 3, .int .i64 4] 3)).heap.size = w.heap.size + 1 + 1 := by rw [size_alloc', size_alloc']
 have B1 := hid ((Blk.new w ET [.int .i64 0, .int .i64 0, .string ⟨#[]⟩, .slice none 0 0]).alloc (.cells #[.int .i64 3, .int .i64 4] 3))
 have b1 : Below w.heap.size w ((w.alloc (.cells #[.int .i64 0, .int .i64 0, .string ⟨#[]⟩, .slice none 0 0] ET)).alloc (.cells #[.int .i64 3, .int .i64 4] 3)) := ((Below.refl _ _).alloc (Nat.le_refl _) _).alloc (by rw [size_alloc']; omega) _
 have hr1 : Rd ((w.alloc (.cells #[.int .i64 0, .int .i64 0, .string ⟨#[]⟩, .slice none 0 0] ET)).alloc (.cells #[.int .i64 3, .int .i64 4] 3)) (w.heap.size + 1 + 1) (some ⟨w.heap.size + 1, 0, none⟩) ((opsOf 5).map (Value.int .i64)) := by
  have h := (Blk.new (w.alloc (.cells #[.int .i64 0, .int .i64 0, .string ⟨#[]⟩, .slice none 0 0] ET)) 3 [.int .i64 3, .int .i64 4]).rd
  rw [size_alloc'] at h
  exact h
 have hch := hid (chain_any ts en g b c 264 (enters_of Tryz.func264 (by kernel_rfl) rfl) 5 m (by omega) (by omega) (by omega) (hop.less (by omega)) i ⟨w.heap.size + 1, 0, none⟩ 2 _ (h.below b1) (hr1.more (by omega)) (by show w.heap.size + 1 ≠ g; omega) (by omega) _ rfl)
 have G1 := hid (gb_below (gb_refl w (some g)) b1)
 go_enter Tryz.func255, Tryz.ntmps255
 go_wp2_with fail
 generalize ((w.alloc (.cells #[.int .i64 0, .int .i64 0, .string ⟨#[]⟩, .slice none 0 0] ET)).alloc (.cells #[.int .i64 3, .int .i64 4] 3)) = w1 at *
 refine hch.out.mono ?_
 rintro e w2 ⟨K, N, s, A, L, cc, t, x, j, rfl, ho, hg, hp, hR⟩
 have B2 := B1.out.gb hg (by omega)
 have z2 := hg.size
 have hf := par_fin B2 ho (by omega) (Nat.le_refl _) (gb_trans G1.out hg) hp hR hlt hblt
 have hf1 := hid hf.1
 have hf2 := hid hf.2
 obtain ⟨r0, r1, r2, r3⟩ := four B2
 have y0 := B2.frozen 0
 have y1 := B2.frozen 1
 have y2 := B2.frozen 2
 have y3 := B2.frozen 3
 clear hf B2 ho hp hR hg hch hr1 b1
 go_wp2_with fail
 exact bodyPost_ret (results_cell2 Tryz.results255 _ _ w.heap.size 58 _ (0, 0) _ rfl hf1.out Tryz.underlying58 rfl (by kernel_rfl)) rfl hf2.out
theorem lev_unary {ts : List Tok} {en g b c n : Nat} (hat : PP ts en g b c 270 7 n) (hun : PP ts en g b c 264 6 n) : PP ts en g b c 264 6 (n + 1) := by
 intro m hm i w h hn
 obtain ⟨m, rfl⟩ := need_pos hn (by omega)
 have hlt := h.lt
 have hblt := h.blt
 have hil := h.ilt
 rw [uz_len] at hil
 have b1 : Below w.heap.size w (w.alloc (.cells #[.int .i64 0, .int .i64 0, .string ⟨#[]⟩, .slice none 0 0] ET)) := box_below _ _
 have B1 := hid (Blk.new w ET [.int .i64 0, .int .i64 0, .string ⟨#[]⟩, .slice none 0 0])
 have ht := hid (take_any g b c (uz ts en) i [33] _ (h.below b1) (end_uz ts en))
 rw [sees_uz] at ht
 have G1 := hid (gb_below (gb_refl w (some g)) b1)
 have z1 : (w.alloc (.cells #[.int .i64 0, .int .i64 0, .string ⟨#[]⟩, .slice none 0 0] ET)).heap.size = w.heap.size + 1 := size_alloc' _ _
 have hpz : pz ts en (m + 1) 6 i = if seesB ts i [33] = true then andR (pz ts en m 6 (i + 1)) (fun e j => .ok (notT e, j)) else pz ts en m 7 i := by
  rw [pz, if_neg (by omega), if_pos rfl]
  cases pz ts en m 6 (i + 1) <;> rfl
 rw [hpz]
 have hsl := hid (sees_lt (ts := ts) (i := i) (s := [33]))
 cases hs : seesB ts i [33] with
 | false =>
  rw [hs] at ht
  rw [if_neg (by simp)]
  have ht := hid (show Calls Tryz.prog 113 #[.pointer (some ⟨g, 0, none⟩), .string ⟨#[33]⟩] (w.alloc (.cells #[.int .i64 0, .int .i64 0, .string ⟨#[]⟩, .slice none 0 0] ET)) fun e w' => e = .returned (.bool false) ∧ Prs w' g b c (uz ts en) i ∧ (w.alloc (.cells #[.int .i64 0, .int .i64 0, .string ⟨#[]⟩, .slice none 0 0] ET)).grownBy w' (some g) from ht.out)
  have hcl := hid (fun w1 h1 => hat m (by omega) i w1 h1 (by unfold need at hn ⊢; omega))
  clear hsl hpz hs
  go_enter Tryz.func264, Tryz.ntmps264
  go_wp2_with fail
  generalize (w.alloc (.cells #[.int .i64 0, .int .i64 0, .string ⟨#[]⟩, .slice none 0 0] ET)) = w1 at *
  refine ht.out.mono ?_
  rintro e w2 ⟨rfl, p2, g2⟩
  have p2 := hid p2
  have B2 := hid (B1.out.gb g2 (by omega))
  have G2 := hid (gb_trans G1.out g2)
  have z2 := g2.size
  clear g2 ht
  go_wp2_with fail
  refine (hcl.out w2 p2.out).mono ?_
  rintro e w3 ⟨K, N, s, A, L, cc, t, x, j, rfl, ho, hg, hp, hR⟩
  have B3 := B2.out.gb hg (by omega)
  have z3 := hg.size
  have hf := par_fin B3 ho (by omega) (Nat.le_refl _) (gb_trans G2.out hg) hp hR hlt hblt
  have hf1 := hid hf.1
  have hf2 := hid hf.2
  obtain ⟨r0, r1, r2, r3⟩ := four B3
  have y0 := B3.frozen 0
  have y1 := B3.frozen 1
  have y2 := B3.frozen 2
  have y3 := B3.frozen 3
  clear hf B3 ho hp hR hg hcl
  go_wp2_with fail
  exact bodyPost_ret (results_cell2 Tryz.results264 _ _ w.heap.size 58 _ (0, 0) _ rfl hf1.out Tryz.underlying58 rfl (by kernel_rfl)) rfl hf2.out
 | true =>
  rw [hs] at ht
  rw [if_pos rfl]
  have hil2 := hsl.out hs
  have ht := hid (show Calls Tryz.prog 113 #[.pointer (some ⟨g, 0, none⟩), .string ⟨#[33]⟩] (w.alloc (.cells #[.int .i64 0, .int .i64 0, .string ⟨#[]⟩, .slice none 0 0] ET)) fun e w' => e = .returned (.bool true) ∧ Prs w' g b c (uz ts en) (i + 1) ∧ (w.alloc (.cells #[.int .i64 0, .int .i64 0, .string ⟨#[]⟩, .slice none 0 0] ET)).grownBy w' (some g) from ht.out)
  have hcl := hid (fun w1 h1 => hun m (by omega) (i + 1) w1 h1 (by unfold need at hn ⊢; omega))
  clear hsl hpz hs
  go_enter Tryz.func264, Tryz.ntmps264
  go_wp2_with fail
  generalize (w.alloc (.cells #[.int .i64 0, .int .i64 0, .string ⟨#[]⟩, .slice none 0 0] ET)) = w1 at *
  refine ht.out.mono ?_
  rintro e w2 ⟨rfl, p2, g2⟩
  have p2 := hid p2
  have B2 := hid (B1.out.gb g2 (by omega))
  have G2 := hid (gb_trans G1.out g2)
  have z2 := g2.size
  clear g2 ht
  go_wp2_with fail
  refine (hcl.out w2 p2.out).mono ?_
  rintro e w3 ⟨K, N, s, A, L, cc, t, x, j, rfl, ho, hg, hp, hR⟩
  have B3 := B2.out.gb hg (by omega)
  have z3 := hg.size
  have G3 := gb_trans G2.out hg
  -- the operand's box, the row of kids
  have b5 : Below w3.heap.size w3 ((w3.alloc (.cells #[.int .i64 K, .int .i64 N, .string ⟨s.toArray⟩, .slice A L cc] ET)).alloc (.cells #[.int .i64 K, .int .i64 N, .string ⟨s.toArray⟩, .slice A L cc] ET)) := ((Below.refl _ _).alloc (Nat.le_refl _) _).alloc (by rw [size_alloc']; omega) _
  have z5 : ((w3.alloc (.cells #[.int .i64 K, .int .i64 N, .string ⟨s.toArray⟩, .slice A L cc] ET)).alloc (.cells #[.int .i64 K, .int .i64 N, .string ⟨s.toArray⟩, .slice A L cc] ET)).heap.size = w3.heap.size + 1 + 1 := by rw [size_alloc', size_alloc']
  have k5 := Blk.new (w3.alloc (.cells #[.int .i64 K, .int .i64 N, .string ⟨s.toArray⟩, .slice A L cc] ET)) ET [.int .i64 K, .int .i64 N, sv s, .slice A L cc]
  rw [size_alloc'] at k5
  have q3 : Blk (w3.alloc (.cells #[.int .i64 K, .int .i64 N, .string ⟨s.toArray⟩, .slice A L cc] ET)) w3.heap.size ET [.int .i64 K, .int .i64 N, .string ⟨s.toArray⟩, .slice A L cc] := Blk.new w3 ET _
  have B5 := B3.below b5 B3.lt
  have o5 := (ho.same (same_below b5 (Nat.le_refl _))).mono (Nat.le_refl _) (show w3.heap.size ≤ w3.heap.size + 1 by omega)
  have G5 := gb_below G3 b5
  have p5 := hp.below b5
  obtain ⟨m0, m1, m2, m3⟩ := four q3
  have hm := (Dr.made_one 4 0 o5 k5 (by omega)).1
  have hRR : ResIs (andR (pz ts en m 6 (i + 1)) (fun e j => .ok (notT e, j))) (notT t) x j := by
   cases hq : pz ts en m 6 (i + 1) with
   | error a => rw [hq] at hR; exact hR
   | ok p =>
    obtain ⟨t', j'⟩ := p
    rw [hq] at hR
    obtain ⟨rfl, h2, h3⟩ := hR
    exact ⟨rfl, h2, h3⟩
  have hf := par_fin B5 hm (by omega) (Nat.le_refl _) G5 p5 hRR hlt hblt
  have hf1 := hid hf.1
  have hf2 := hid hf.2
  obtain ⟨r0, r1, r2, r3⟩ := four B5
  have y0 := B5.frozen 0
  have y1 := B5.frozen 1
  have y2 := B5.frozen 2
  have y3 := B5.frozen 3
  clear hf B3 B5 ho hp hR hRR hm hg hcl o5 k5 p5 G5 b5 G3
  go_wp2_with fail
  exact bodyPost_ret (results_cell2 Tryz.results264 _ _ w.heap.size 58 _ (0, 0) _ rfl hf1.out Tryz.underlying58 rfl (by kernel_rfl)) rfl hf2.out
theorem errAt_uz (ts : List Tok) (en j : Nat) (hj : j ≤ ts.length) : ((uz ts en)[j]?.getD ⟨0, 0, 0, []⟩).p = errAt ts en j := by
 unfold errAt
 rcases Nat.lt_or_ge j ts.length with h | h
 ·rw [List.getElem?_append_left h, List.getElem?_eq_getElem h]; rfl
 ·obtain rfl : j = ts.length := by omega
  rw [List.getElem?_append_right (Nat.le_refl _), Nat.sub_self, List.getElem?_eq_none (Nat.le_refl _)]; rfl
def upR (ts : List Tok) (en m i : Nat) : Res := andR (pz ts en m 1 i) fun e j => if seesB ts j [41] = true then .ok (e, j + 1) else .error (errAt ts en j)
def UpP (ts : List Tok) (en g b c : Nat) (F : FuncId) (n : Nat) : Prop := ∀ m, m ≤ n → ∀ i w, Prs w g b c (uz ts en) i → need ts 1 i ≤ m → Calls Tryz.prog F #[.pointer (some ⟨g, 0, none⟩)] w (ParOk ts en g b c w (upR ts en m i))
theorem OwnE.leaf (w : World) (lo hi : Nat) : OwnE ET w lo hi (nv 0 0 [] none 0 0) (.mk 0 0 [] []) :=
 OwnE.mk (ks := []) none 0 (fun _ => .nilFunc) (fun _ => 0) (fun _ => 0) (by simp) (by simp) (fun h => absurd rfl h) (fun j hj => by simp at hj) (fun i j _ hj => by simp at hj) (fun j a ha => by simp at ha)
theorem up_any {ts : List Tok} {en g b c n : Nat} (hex : PP ts en g b c 187 1 n) : UpP ts en g b c 275 n := by
 intro m hm i w h hn
 have hlt := h.lt
 have hblt := h.blt
 have b1 : Below w.heap.size w (w.alloc (.cells #[.int .i64 0, .int .i64 0, .string ⟨#[]⟩, .slice none 0 0] ET)) := box_below _ _
 have B1 := hid (Blk.new w ET [.int .i64 0, .int .i64 0, .string ⟨#[]⟩, .slice none 0 0])
 have G1 := hid (gb_below (gb_refl w (some g)) b1)
 have z1 : (w.alloc (.cells #[.int .i64 0, .int .i64 0, .string ⟨#[]⟩, .slice none 0 0] ET)).heap.size = w.heap.size + 1 := size_alloc' _ _
 have hcl := hid (hex m hm i _ (h.below b1) hn)
 have hRe : ∃ R, R = upR ts en m i := ⟨_, rfl⟩
 obtain ⟨R, hRe⟩ := hRe
 rw [← hRe]
 have hRe := hid hRe
 clear h
 go_enter Tryz.func275, Tryz.ntmps275
 go_wp2_with fail
 generalize (w.alloc (.cells #[.int .i64 0, .int .i64 0, .string ⟨#[]⟩, .slice none 0 0] ET)) = w1 at *
 refine hcl.out.mono ?_
 rintro e w2 ⟨K, N, s, A, L, cc, t, x, j, rfl, ho, hg, hp, hR⟩
 have B2 := B1.out.gb hg (by omega)
 have z2 := hg.size
 have b3 : Below w2.heap.size w2 (w2.alloc (.cells #[.int .i64 K, .int .i64 N, .string ⟨s.toArray⟩, .slice A L cc] ET)) := box_below _ _
 have B3 := B2.below b3 B2.lt
 have G3 := gb_below (gb_trans G1.out hg) b3
 have p3 := hp.below b3
 have z3 : (w2.alloc (.cells #[.int .i64 K, .int .i64 N, .string ⟨s.toArray⟩, .slice A L cc] ET)).heap.size = w2.heap.size + 1 := size_alloc' _ _
 have q3 : Blk (w2.alloc (.cells #[.int .i64 K, .int .i64 N, .string ⟨s.toArray⟩, .slice A L cc] ET)) w2.heap.size ET [.int .i64 K, .int .i64 N, .string ⟨s.toArray⟩, .slice A L cc] := Blk.new w2 ET _
 have o3 := ho.same (same_below b3 (Nat.le_refl _))
 clear hg hp ho hcl
 cases hq : pz ts en m 1 i with
 | error a =>
  rw [hq] at hR
  obtain rfl : x = errV a := hR
  have hRR : ResIs R (.mk 0 0 [] []) (errV a) j := by rw [hRe.out, upR, hq]; exact rfl
  have hf := par_fin B3 (OwnE.leaf _ (w.heap.size + 1) (w.heap.size + 1)) (by omega) (by omega) G3 p3 hRR hlt hblt
  have hf1 := hid hf.1
  have hf2 := hid hf.2
  obtain ⟨r0, r1, r2, r3⟩ := four B3
  have y0 := B3.frozen 0
  have y1 := B3.frozen 1
  have y2 := B3.frozen 2
  have y3 := B3.frozen 3
  clear hf B2 B3 p3 hRR o3 q3 G3 b3
  go_wp2_with fail
  exact bodyPost_ret (results_cell2 Tryz.results275 _ _ w.heap.size 58 _ (0, 0) _ rfl hf1.out Tryz.underlying58 rfl (by kernel_rfl)) rfl hf2.out
 | ok p =>
  obtain ⟨t', j'⟩ := p
  rw [hq] at hR
  obtain ⟨rfl, rfl, rfl⟩ := hR
  have ha := (pz_adv ts en m).1 _ _ _ _ hq
  have hRR : R = if seesB ts j [41] = true then .ok (t, j + 1) else .error (errAt ts en j) := by rw [hRe.out, upR, hq]; rfl
  go_wp2_with fail
  generalize (w2.alloc (.cells #[.int .i64 K, .int .i64 N, .string ⟨s.toArray⟩, .slice A L cc] ET)) = w3 at *
  have hdw : Below w3.heap.size w3 w3.drew := (Below.refl _ _).drew
  have hxc := hid (expect_any g b c (uz ts en) j [41] w3.drew (p3.below hdw) (end_uz ts en))
  rw [sees_uz, errAt_uz ts en j ha.2.1] at hxc
  have e3 : w3.drew.heap.size = w3.heap.size := rfl
  have step : ∀ w9 x9 j9, w3.drew.grownBy w9 (some g) → Prs w9 g b c (uz ts en) j9 → ResIs R t x9 j9 → Hid ((Blk w9 w2.heap.size ET [.int .i64 K, .int .i64 N, .string ⟨s.toArray⟩, .slice A L cc] ∧ Blk w9 w.heap.size ET [.int .i64 0, .int .i64 0, .string ⟨#[]⟩, .slice none 0 0]) ∧ Blk (Dr.setR w9 w.heap.size K N s (.slice A L cc)) w.heap.size ET [.int .i64 K, .int .i64 N, sv s, .slice A L cc] ∧ ParOk ts en g b c w R (.returned (.tuple #[nv K N s A L cc, x9])) (Dr.setR w9 w.heap.size K N s (.slice A L cc))) := fun w9 x9 j9 g9 p9 h9 => by
   have B9 := (B3.below hdw B3.lt).gb g9 (by omega)
   have q9 := (q3.below hdw q3.lt).gb g9 (by omega)
   have s9 := g9.size
   have o9 := (o3.same (same_below hdw (by omega))).same (w' := w9) fun k h1 h2 => g9.block k (by omega) (by simp; omega)
   exact hid ⟨⟨q9, B9⟩, par_fin B9 o9 (by omega) (by omega) (gb_trans (gb_below G3 hdw) g9) p9 h9 hlt hblt⟩
  obtain ⟨k0, k1, k2, k3⟩ := four q3
  clear hRe hq ha B2 o3 q3 p3 hdw
  cases hs : seesB ts j [41] with
  | true =>
   rw [hs] at hxc hRR
   have hxc := hid (show Calls Tryz.prog 112 #[.pointer (some ⟨g, 0, none⟩), .string ⟨#[41]⟩] w3.drew fun e w' => e = .returned .nilIface ∧ Prs w' g b c (uz ts en) (j + 1) ∧ w3.drew.grownBy w' (some g) from hxc.out)
   have step := fun w9 g9 p9 => step w9 .nilIface (j + 1) g9 p9 (by rw [hRR]; exact ⟨rfl, rfl, rfl⟩)
   clear hRR hs
   go_region_with (first
    | (go_at_call 112; refine hxc.out.mono ?_; rintro e w9 ⟨rfl, p9, g9⟩; have st := step w9 g9 p9; obtain ⟨m0, m1, m2, m3⟩ := four st.out.1.1; obtain ⟨r0, r1, r2, r3⟩ := four st.out.1.2; have y0 := st.out.1.2.frozen 0; have y1 := st.out.1.2.frozen 1; have y2 := st.out.1.2.frozen 2; have y3 := st.out.1.2.frozen 3; have hf1 := hid st.out.2.1; have hf2 := hid st.out.2.2; clear st step p9 g9))
   all_goals
    go_wp2_with fail
    exact bodyPost_ret (results_cell2 Tryz.results275 _ _ w.heap.size 58 _ (0, 0) _ rfl hf1.out Tryz.underlying58 rfl (by kernel_rfl)) rfl hf2.out
  | false =>
   rw [hs] at hxc hRR
   have hxc := hid (show Calls Tryz.prog 112 #[.pointer (some ⟨g, 0, none⟩), .string ⟨#[41]⟩] w3.drew fun e w' => e = .returned (errV (errAt ts en j)) ∧ Prs w' g b c (uz ts en) j ∧ w3.drew.grownBy w' (some g) by
    have := hxc.out
    rw [if_neg (by simp)] at this
    exact this)
   have step := fun w9 g9 p9 => step w9 (errV (errAt ts en j)) j g9 p9 (by rw [hRR]; exact rfl)
   clear hRR hs
   go_region_with (first
    | (go_at_call 112; refine hxc.out.mono ?_; rintro e w9 ⟨rfl, p9, g9⟩; have st := step w9 g9 p9; obtain ⟨m0, m1, m2, m3⟩ := four st.out.1.1; obtain ⟨r0, r1, r2, r3⟩ := four st.out.1.2; have y0 := st.out.1.2.frozen 0; have y1 := st.out.1.2.frozen 1; have y2 := st.out.1.2.frozen 2; have y3 := st.out.1.2.frozen 3; have hf1 := hid st.out.2.1; have hf2 := hid st.out.2.2; clear st step p9 g9))
   all_goals
    go_wp2_with fail
    exact bodyPost_ret (results_cell2 Tryz.results275 _ _ w.heap.size 58 _ (0, 0) _ rfl hf1.out Tryz.underlying58 rfl (by kernel_rfl)) rfl hf2.out
def cmpR (ts : List Tok) (en m i : Nat) : Res := andR (pz ts en m 4 i) fun e j => lz ts en m 3 e j
theorem pz_cmp (ts : List Tok) (en m i : Nat) : pz ts en (m + 1) 3 i = cmpR ts en m i := by
 rw [pz, if_neg (by omega), if_neg (by omega)]
 unfold cmpR
 cases pz ts en m 4 i <;> rfl
def tailR (ts : List Tok) (en m : Nat) (t : T) (j : Nat) (q : Int) : Res := if q = 0 then .ok (t, j) else andR (pz ts en m 4 (j + 1)) fun r k => .ok (opT q t r, k)
theorem lz_cmp (ts : List Tok) (en m : Nat) (t : T) (j : Nat) : lz ts en (m + 1) 3 t j = tailR ts en m t j (opAt ts 3 j) := by
 rw [lz]
 unfold tailR
 split
 ·rfl
 ·cases pz ts en m 4 (j + 1) <;> rfl
theorem lev_cmp {ts : List Tok} {en g b c n : Nat} (hsm : PP ts en g b c 230 4 n) : PP ts en g b c 223 3 (n + 1) := by
 intro m hm i w h hn
 obtain ⟨m, rfl⟩ := need_pos hn (by omega)
 have hlt := h.lt
 have hblt := h.blt
 have b1 : Below w.heap.size w (w.alloc (.cells #[.int .i64 0, .int .i64 0, .string ⟨#[]⟩, .slice none 0 0] ET)) := box_below _ _
 have B1 := hid (Blk.new w ET [.int .i64 0, .int .i64 0, .string ⟨#[]⟩, .slice none 0 0])
 have G1 := hid (gb_below (gb_refl w (some g)) b1)
 have z1 : (w.alloc (.cells #[.int .i64 0, .int .i64 0, .string ⟨#[]⟩, .slice none 0 0] ET)).heap.size = w.heap.size + 1 := size_alloc' _ _
 have hcl := hid (hsm m (by omega) i _ (h.below b1) (by unfold need at hn ⊢; omega))
 have hRe : ∃ R, R = pz ts en (m + 1) 3 i := ⟨_, rfl⟩
 obtain ⟨R, hRe⟩ := hRe
 rw [← hRe]
 rw [pz_cmp] at hRe
 replace hRe := hid hRe
 clear h
 go_enter Tryz.func223, Tryz.ntmps223
 go_wp2_with fail
 generalize (w.alloc (.cells #[.int .i64 0, .int .i64 0, .string ⟨#[]⟩, .slice none 0 0] ET)) = w1 at *
 refine hcl.out.mono ?_
 rintro e w2 ⟨K, N, s, A, L, cc, t, x, j, rfl, ho, hg, hp, hR⟩
 have B2 := B1.out.gb hg (by omega)
 have z2 := hg.size
 have b3 : Below w2.heap.size w2 (w2.alloc (.cells #[.int .i64 K, .int .i64 N, .string ⟨s.toArray⟩, .slice A L cc] ET)) := box_below _ _
 have B3 := B2.below b3 B2.lt
 have G3 := gb_below (gb_trans G1.out hg) b3
 have p3 := hp.below b3
 have z3 : (w2.alloc (.cells #[.int .i64 K, .int .i64 N, .string ⟨s.toArray⟩, .slice A L cc] ET)).heap.size = w2.heap.size + 1 := size_alloc' _ _
 have q3 : Blk (w2.alloc (.cells #[.int .i64 K, .int .i64 N, .string ⟨s.toArray⟩, .slice A L cc] ET)) w2.heap.size ET [.int .i64 K, .int .i64 N, .string ⟨s.toArray⟩, .slice A L cc] := Blk.new w2 ET _
 have o3 := ho.same (same_below b3 (Nat.le_refl _))
 clear hg hp ho hcl
 cases hq : pz ts en m 4 i with
 | error a =>
  rw [hq] at hR
  obtain rfl : x = errV a := hR
  have hRR : ResIs R (.mk 0 0 [] []) (errV a) j := by rw [hRe.out, cmpR, hq]; exact rfl
  have hf := par_fin B3 (OwnE.leaf _ (w.heap.size + 1) (w.heap.size + 1)) (by omega) (by omega) G3 p3 hRR hlt hblt
  have hf1 := hid hf.1
  have hf2 := hid hf.2
  obtain ⟨r0, r1, r2, r3⟩ := four B3
  have y0 := B3.frozen 0
  have y1 := B3.frozen 1
  have y2 := B3.frozen 2
  have y3 := B3.frozen 3
  clear hf B2 B3 p3 hRR o3 q3 G3 b3
  go_wp2_with fail
  exact bodyPost_ret (results_cell2 Tryz.results223 _ _ w.heap.size 58 _ (0, 0) _ rfl hf1.out Tryz.underlying58 rfl (by kernel_rfl)) rfl hf2.out
 | ok p =>
  obtain ⟨t', j'⟩ := p
  rw [hq] at hR
  obtain ⟨rfl, rfl, rfl⟩ := hR
  have ha := (pz_adv ts en m).1 _ _ _ _ hq
  obtain ⟨m', rfl⟩ : ∃ m', m = m' + 1 := ⟨m - 1, by unfold need at hn; omega⟩
  have hRR : R = lz ts en (m' + 1) 3 t j := by rw [hRe.out, cmpR, hq]; rfl
  rw [lz_cmp] at hRR
  replace hRR := hid hRR
  replace B3 := hid B3
  replace o3 := hid o3
  replace G3 := hid G3
  replace p3 := hid p3
  have hop4 := hid (opAt_lt (ts := ts) (l := 3) (j := j))
  have hoi := hid (opIn_uz ts en 3 j)
  generalize opAt ts 3 j = q at *
  go_wp2_with fail
  generalize (w2.alloc (.cells #[.int .i64 K, .int .i64 N, .string ⟨s.toArray⟩, .slice A L cc] ET)) = w3 at *
  have b4 : Below w3.heap.size w3 (w3.alloc (.cells #[.int .i64 5, .int .i64 6] 3)) := box_below _ _
  have z4 : (w3.alloc (.cells #[.int .i64 5, .int .i64 6] 3)).heap.size = w3.heap.size + 1 := size_alloc' _ _
  have hr4 : Rd (w3.alloc (.cells #[.int .i64 5, .int .i64 6] 3)) (w3.heap.size + 1) (some ⟨w2.heap.size + 1, 0, none⟩) ((opsOf 3).map (Value.int .i64)) := by
   have h := (Blk.new w3 3 [.int .i64 5, .int .i64 6]).rd
   rw [z3] at h ⊢
   exact h
  have hto := hid (takeOp_any g b c (uz ts en) j (opsOf 3) (some ⟨w2.heap.size + 1, 0, none⟩) 2 _ (p3.out.below b4) (end_uz ts en) (hr4.more (by omega)) (fun ad e => by cases e; show w2.heap.size + 1 ≠ g; omega) (opsOf_ok 3).1 (opsOf_ok 3).2)
  rw [hoi.out] at hto
  have B4 := B3.out.below b4 B3.out.lt
  have G4 := gb_below G3.out b4
  have q4 := q3.below b4 q3.lt
  have o4 := o3.out.same (same_below b4 (by omega))
  clear B3 G3 q3 o3 p3 hr4 hoi hq B2 hRe B1 G1
  by_cases hq0 : q = 0
  ·subst hq0
   replace hRR := hRR.out
   rw [tailR, if_pos rfl] at hRR
   replace hRR := hid hRR
   replace B4 := hid B4
   replace q4 := hid q4
   replace o4 := hid o4
   replace G4 := hid G4
   clear b4
   have hto := hid (show Calls Tryz.prog 221 #[.pointer (some ⟨g, 0, none⟩), .slice (some ⟨w2.heap.size + 1, 0, none⟩) 2 2] (w3.alloc (.cells #[.int .i64 5, .int .i64 6] 3)) fun e w' => e = .returned (.tuple #[.int .i64 0, .bool false]) ∧ Prs w' g b c (uz ts en) j ∧ (w3.alloc (.cells #[.int .i64 5, .int .i64 6] 3)).grownBy w' (some g) from hto.out)
   refine hto.out.mono ?_
   rintro e w5 ⟨rfl, p5, g5⟩
   have B5 := B4.out.gb g5 (by omega)
   have q5 := q4.out.gb g5 (by omega)
   have z5 := g5.size
   have o5 := o4.out.same (w' := w5) fun k h1 h2 => g5.block k (by omega) (by simp; omega)
   have hf := par_fin B5 o5 (by omega) (by omega) (gb_trans G4.out g5) p5 (show ResIs R t .nilIface j by rw [hRR.out]; exact ⟨rfl, rfl, rfl⟩) hlt hblt
   have hf1 := hid hf.1
   have hf2 := hid hf.2
   obtain ⟨k0, k1, k2, k3⟩ := four q5
   obtain ⟨r0, r1, r2, r3⟩ := four B5
   have y0 := B5.frozen 0
   have y1 := B5.frozen 1
   have y2 := B5.frozen 2
   have y3 := B5.frozen 3
   clear hf B4 B5 q4 q5 o4 o5 G4 p5 hto g5 hRR
   go_wp2_with fail
   exact bodyPost_ret (results_cell2 Tryz.results223 _ _ w.heap.size 58 _ (0, 0) _ rfl hf1.out Tryz.underlying58 rfl (by kernel_rfl)) rfl hf2.out
  ·replace hRR := hRR.out
   rw [tailR, if_neg hq0] at hRR
   replace hRR := hid hRR
   replace B4 := hid B4
   replace q4 := hid q4
   replace o4 := hid o4
   replace G4 := hid G4
   clear b4
   have hjl := hop4.out hq0
   have hto := hid (show Calls Tryz.prog 221 #[.pointer (some ⟨g, 0, none⟩), .slice (some ⟨w2.heap.size + 1, 0, none⟩) 2 2] (w3.alloc (.cells #[.int .i64 5, .int .i64 6] 3)) fun e w' => e = .returned (.tuple #[.int .i64 q, .bool true]) ∧ Prs w' g b c (uz ts en) (j + 1) ∧ (w3.alloc (.cells #[.int .i64 5, .int .i64 6] 3)).grownBy w' (some g) by
    have := hto.out
    rw [nxI_n hq0, bne_iff_ne.2 hq0] at this
    exact this)
   have hcl2 := hid (fun w1 h1 => hsm m' (by omega) (j + 1) w1 h1 (by unfold need at hn ⊢; omega))
   refine hto.out.mono ?_
   rintro e w5 ⟨rfl, p5, g5⟩
   replace p5 := hid p5
   have B5 := hid (B4.out.gb g5 (by omega))
   have q5 := hid (q4.out.gb g5 (by omega))
   have z5 := g5.size
   have o5 := hid (o4.out.same (w' := w5) fun k h1 h2 => g5.block k (by omega) (by simp; omega))
   have G5 := hid (gb_trans G4.out g5)
   clear hto g5
   go_wp2_with fail
   refine (hcl2.out w5 p5.out).mono ?_
   rintro e w6 ⟨K2, N2, s2, A2, L2, cc2, t2, x2, j2, rfl, o26, g6, p6, hR2⟩
   have B6 := B5.out.gb g6 (by omega)
   have q6 := q5.out.gb g6 (by omega)
   have z6 := g6.size
   have o6 := o5.out.same (w' := w6) fun k h1 h2 => g6.block k (by omega) (by simp; omega)
   have G6 := gb_trans G5.out g6
   have b7 : Below w6.heap.size w6 (w6.alloc (.cells #[.int .i64 K2, .int .i64 N2, .string ⟨s2.toArray⟩, .slice A2 L2 cc2] ET)) := box_below _ _
   have z7 : (w6.alloc (.cells #[.int .i64 K2, .int .i64 N2, .string ⟨s2.toArray⟩, .slice A2 L2 cc2] ET)).heap.size = w6.heap.size + 1 := size_alloc' _ _
   have B7 := B6.below b7 B6.lt
   have q7 := q6.below b7 q6.lt
   have o7 := o6.same (same_below b7 (by omega))
   have o27 := o26.same (same_below b7 (by omega))
   have G7 := gb_below G6 b7
   have p7 := p6.below b7
   have u7 : Blk (w6.alloc (.cells #[.int .i64 K2, .int .i64 N2, .string ⟨s2.toArray⟩, .slice A2 L2 cc2] ET)) w6.heap.size ET [.int .i64 K2, .int .i64 N2, .string ⟨s2.toArray⟩, .slice A2 L2 cc2] := Blk.new w6 ET _
   have hx : ResIs R (opT q t t2) x2 j2 := by
    rw [hRR.out]
    cases hz : pz ts en m' 4 (j + 1) with
    | error a => rw [hz] at hR2; exact hR2
    | ok p =>
     obtain ⟨t', j'⟩ := p
     rw [hz] at hR2
     obtain ⟨rfl, h2, h3⟩ := hR2
     exact ⟨rfl, h2, h3⟩
   obtain ⟨k0, k1, k2, k3⟩ := four q7
   obtain ⟨v0, v1, v2, v3⟩ := four u7
   have hopr := hid (oper_any q K N K2 N2 s s2 A A2 L cc L2 cc2 (w6.alloc (.cells #[.int .i64 K2, .int .i64 N2, .string ⟨s2.toArray⟩, .slice A2 L2 cc2] ET)))
   replace B7 := hid B7
   replace o7 := hid o7
   replace o27 := hid o27
   replace G7 := hid G7
   replace p7 := hid p7
   replace hx := hid hx
   clear hcl2 B4 B5 B6 q4 q5 q6 o4 o5 o6 G4 G5 G6 p6 p5 g6 o26 hR2 hRR q7 u7 b7
   go_wp2_with fail
   generalize (w6.alloc (.cells #[.int .i64 K2, .int .i64 N2, .string ⟨s2.toArray⟩, .slice A2 L2 cc2] ET)) = w7 at *
   refine hopr.out.mono ?_
   rintro e w8 ⟨rfl, r8, b8⟩
   rw [z7] at r8
   have z8 := b8.size
   have l8 := r8.lt
   have B8 := B7.out.below b8 B7.out.lt
   have own := (Dr.made_two 3 q ((o7.out.same (same_below b8 (by omega))).mono (Nat.le_refl _) (show w2.heap.size ≤ w5.heap.size by omega)) (o27.out.same (same_below b8 (by omega))) r8 (by omega) (by omega) (by omega)).1
   have hf := par_fin B8 own (by omega) (Nat.le_refl _) (gb_below G7.out b8) (p7.out.below b8) hx.out hlt hblt
   have hf1 := hid hf.1
   have hf2 := hid hf.2
   obtain ⟨r0, r1, r2, r3⟩ := four B8
   have y0 := B8.frozen 0
   have y1 := B8.frozen 1
   have y2 := B8.frozen 2
   have y3 := B8.frozen 3
   clear hf own B7 B8 o7 o27 G7 p7 r8 b8 hopr hx k0 k1 k2 k3 v0 v1 v2 v3
   go_wp2_with fail
   exact bodyPost_ret (results_cell2 Tryz.results223 _ _ w.heap.size 58 _ (0, 0) _ rfl hf1.out Tryz.underlying58 rfl (by kernel_rfl)) rfl hf2.out
open Ch
theorem valid_low {b : UInt8} {r : List UInt8} (h : isLow b = false) : C2.validB (b :: r) = false := by
 unfold C2.validB C2.shape
 simp [h]
theorem valid_nil : C2.validB [] = false := by
 unfold C2.validB C2.shape
 simp
theorem good_valid {t : Tok} (h : GoodT t) (hv : C2.validB t.s = true) : t.k = 1 := by
 rcases h with ⟨h, _⟩ | ⟨_, _, _, hs⟩ | ⟨_, _, ⟨b, hs, h1⟩ | ⟨b, hs, h2⟩⟩
 ·exact h
 ·rw [hs, valid_nil] at hv; cases hv
 ·rw [hs, valid_low (ones_cls h1).2.1] at hv; cases hv
 ·rw [hs, valid_low (two_cls h2).2.1] at hv; cases hv
theorem word_k {t : Tok} {s : List UInt8} (h : isWordB t s = true) : t.k ≠ 2 := by
 unfold isWordB at h
 intro e
 rw [e] at h
 simp at h
theorem atom_par {ts : List Tok} {en m i : Nat} (h : seesB ts i [40] = true) : pz ts en (m + 1) 7 i = upR ts en m (i + 1) := by
 have hi := sees_lt h
 have hw : isWordB ts[i] [40] = true := by unfold seesB at h; rw [List.getElem?_eq_getElem hi] at h; exact h
 rw [pz, if_pos (Nat.le_refl 7), List.getElem?_eq_getElem hi]
 simp only [if_neg (word_k hw), if_pos hw]
 unfold upR
 cases pz ts en m 1 (i + 1) <;> rfl
theorem atom_num {ts : List Tok} {en m i : Nat} (hi : i < ts.length) (hk : ts[i].k = 2) : pz ts en (m + 1) 7 i = .ok (constT ts[i].n, i + 1) := by
 rw [pz, if_pos (Nat.le_refl 7), List.getElem?_eq_getElem hi]
 simp only [if_pos hk]
theorem uz_at {ts : List Tok} {en : Int} {i : Nat} (hi : i < ts.length) : (uz ts en)[i]'(by simp; omega) = ts[i] := by
 rw [List.getElem_append_left hi]
theorem uz_end (ts : List Tok) (en : Int) : (uz ts en)[ts.length]'(by simp) = ⟨0, 0, en, []⟩ := by
 rw [List.getElem_append_right (Nat.le_refl _)]; simp
theorem atom_oth {ts : List Tok} {en m i : Nat} (hG : ∀ t ∈ ts, GoodT t) (hi : i < (uz ts en).length) (hs : seesB ts i [40] = false) (hk : (uz ts en)[i].k ≠ 2) :
  pz ts en (m + 1) 7 i = if C2.validB (uz ts en)[i].s = true then .ok (varT (uz ts en)[i].s, i + 1) else .error (uz ts en)[i].p := by
 rw [uz_len] at hi
 rcases Nat.lt_or_ge i ts.length with h | h
 ·rw [uz_at h] at hk ⊢
  have hw : isWordB ts[i] [40] = false := by unfold seesB at hs; rw [List.getElem?_eq_getElem h] at hs; exact hs
  rw [pz, if_pos (Nat.le_refl 7), List.getElem?_eq_getElem h]
  have hg := hG _ (List.getElem_mem h)
  simp only [if_neg hk, hw]
  cases hv : C2.validB ts[i].s with
  | true => simp [good_valid hg hv]
  | false => simp
 ·obtain rfl : i = ts.length := by omega
  rw [uz_end, pz, if_pos (Nat.le_refl 7), List.getElem?_eq_none (Nat.le_refl _)]
  simp [valid_nil]
theorem uz_len8 {ts : List Tok} (hG : ∀ t ∈ ts, GoodT t) {en : Int} {i : Nat} (hi : i < (uz ts en).length) : (uz ts en)[i].s.length ≤ 8 := by
 rw [uz_len] at hi
 rcases Nat.lt_or_ge i ts.length with h | h
 ·rw [uz_at h]; exact good_len (hG _ (List.getElem_mem h))
 ·obtain rfl : i = ts.length := by omega
  rw [uz_end]; simp
theorem uz_valid {ts : List Tok} {en : Int} {i : Nat} (hi : i < (uz ts en).length) (hv : C2.validB (uz ts en)[i].s = true) : i + 1 < (uz ts en).length := by
 rw [uz_len] at hi ⊢
 rcases Nat.lt_or_ge i ts.length with h | h
 ·omega
 ·obtain rfl : i = ts.length := by omega
  rw [uz_end, valid_nil] at hv; cases hv
theorem uz_num {ts : List Tok} {en : Int} {i : Nat} (hi : i < (uz ts en).length) (hk : (uz ts en)[i].k = 2) : i < ts.length := by
 rw [uz_len] at hi
 rcases Nat.lt_or_ge i ts.length with h | h
 ·exact h
 ·obtain rfl : i = ts.length := by omega
  rw [uz_end] at hk; cases hk
theorem OwnE.leaf' (w : World) (lo hi : Nat) (k n : Int) (s : List UInt8) (hs : s.length ≤ 8) : OwnE ET w lo hi (nv k n s none 0 0) (.mk k n s []) :=
 OwnE.mk (ks := []) none 0 (fun _ => .nilFunc) (fun _ => 0) (fun _ => 0) (by omega) (by simp) (fun h => absurd rfl h) (fun j hj => by simp at hj) (fun i j _ hj => by simp at hj) (fun j a ha => by simp at ha)
theorem lev_atom {ts : List Tok} {en g b c n : Nat} (hG : ∀ t ∈ ts, GoodT t) (hup : UpP ts en g b c 275 n) : PP ts en g b c 270 7 (n + 1) := by
 intro m hm i w h hn
 obtain ⟨m, rfl⟩ := need_pos hn (by omega)
 have hlt := h.lt
 have hblt := h.blt
 have hil := h.ilt
 have b1 : Below w.heap.size w (w.alloc (.cells #[.int .i64 0, .int .i64 0, .string ⟨#[]⟩, .slice none 0 0] ET)) := box_below _ _
 have B1 := hid (Blk.new w ET [.int .i64 0, .int .i64 0, .string ⟨#[]⟩, .slice none 0 0])
 have ht := hid (take_any g b c (uz ts en) i [40] _ (h.below b1) (end_uz ts en))
 rw [sees_uz] at ht
 have G1 := hid (gb_below (gb_refl w (some g)) b1)
 have z1 : (w.alloc (.cells #[.int .i64 0, .int .i64 0, .string ⟨#[]⟩, .slice none 0 0] ET)).heap.size = w.heap.size + 1 := size_alloc' _ _
 clear h b1
 cases hs : seesB ts i [40] with
 | true =>
  have hil2 := sees_lt hs
  rw [atom_par hs]
  rw [hs] at ht
  replace ht := hid (show Calls Tryz.prog 113 #[.pointer (some ⟨g, 0, none⟩), .string ⟨#[40]⟩] (w.alloc (.cells #[.int .i64 0, .int .i64 0, .string ⟨#[]⟩, .slice none 0 0] ET)) fun e w' => e = .returned (.bool true) ∧ Prs w' g b c (uz ts en) (i + 1) ∧ (w.alloc (.cells #[.int .i64 0, .int .i64 0, .string ⟨#[]⟩, .slice none 0 0] ET)).grownBy w' (some g) from ht.out)
  have hcl := hid (fun w1 h1 => hup m (by omega) (i + 1) w1 h1 (by unfold need at hn ⊢; omega))
  clear hs hil
  go_enter Tryz.func270, Tryz.ntmps270
  go_wp2_with fail
  generalize (w.alloc (.cells #[.int .i64 0, .int .i64 0, .string ⟨#[]⟩, .slice none 0 0] ET)) = w1 at *
  refine ht.out.mono ?_
  rintro e w2 ⟨rfl, p2, g2⟩
  replace p2 := hid p2
  have B2 := hid (B1.out.gb g2 (by omega))
  have G2 := hid (gb_trans G1.out g2)
  have z2 := g2.size
  clear g2 ht
  go_wp2_with fail
  refine (hcl.out w2 p2.out).mono ?_
  rintro e w3 ⟨K, N, s, A, L, cc, t, x, j, rfl, ho, hg, hp, hR⟩
  have B3 := B2.out.gb hg (by omega)
  have z3 := hg.size
  have hf := par_fin B3 ho (by omega) (Nat.le_refl _) (gb_trans G2.out hg) hp hR hlt hblt
  have hf1 := hid hf.1
  have hf2 := hid hf.2
  obtain ⟨r0, r1, r2, r3⟩ := four B3
  have y0 := B3.frozen 0
  have y1 := B3.frozen 1
  have y2 := B3.frozen 2
  have y3 := B3.frozen 3
  clear hf B3 ho hp hR hg hcl
  go_wp2_with fail
  exact bodyPost_ret (results_cell2 Tryz.results270 _ _ w.heap.size 58 _ (0, 0) _ rfl hf1.out Tryz.underlying58 rfl (by kernel_rfl)) rfl hf2.out
 | false =>
  rw [hs] at ht
  replace ht := hid (show Calls Tryz.prog 113 #[.pointer (some ⟨g, 0, none⟩), .string ⟨#[40]⟩] (w.alloc (.cells #[.int .i64 0, .int .i64 0, .string ⟨#[]⟩, .slice none 0 0] ET)) fun e w' => e = .returned (.bool false) ∧ Prs w' g b c (uz ts en) i ∧ (w.alloc (.cells #[.int .i64 0, .int .i64 0, .string ⟨#[]⟩, .slice none 0 0] ET)).grownBy w' (some g) from ht.out)
  have hatk := hid (fun hk => atom_oth (en := en) (m := m) hG hil hs hk)
  have hnum := hid (fun hi hk => atom_num (ts := ts) (en := en) (m := m) (i := i) hi hk)
  have hul := hid (fun hk => uz_num (ts := ts) (en := en) hil hk)
  have h8 := uz_len8 hG hil
  have hvl := hid (uz_valid (ts := ts) (en := en) hil)
  have hRe : ∃ R, R = pz ts en (m + 1) 7 i := ⟨_, rfl⟩
  obtain ⟨R, hRe⟩ := hRe
  rw [← hRe]
  replace hRe := hid hRe
  have hua := hid (fun hi => uz_at (ts := ts) (en := en) (i := i) hi)
  obtain ⟨u, hu⟩ : ∃ u, u = (uz ts en)[i] := ⟨_, rfl⟩
  replace hu := hid hu
  go_enter Tryz.func270, Tryz.ntmps270
  go_wp2_with fail
  generalize (w.alloc (.cells #[.int .i64 0, .int .i64 0, .string ⟨#[]⟩, .slice none 0 0] ET)) = w1 at *
  refine ht.out.mono ?_
  rintro e w2 ⟨rfl, p2, g2⟩
  have B2 := hid (B1.out.gb g2 (by omega))
  have G2 := hid (gb_trans G1.out g2)
  have z2 := g2.size
  obtain ⟨n', m', hB, hn', hn1, hm'⟩ := p2.blk
  have c0 : w2.cell? ⟨g, 0, none⟩ = some (.slice (some ⟨b, i * 4, none⟩) n' m') := hB.cell 0
  obtain ⟨k0, k1, k2, k3⟩ := p2.at_ hil
  rw [← hu.out] at k0 k1 k2 k3
  replace p2 := hid p2
  clear g2 ht hB
  have b3 : Below w2.heap.size w2 (w2.alloc (.cells #[.int .i64 u.k, .int .i64 u.n, .int .i64 u.p, .string ⟨u.s.toArray⟩] TK)) := box_below _ _
  have f3 := hid (Blk.new w2 TK [.int .i64 u.k, .int .i64 u.n, .int .i64 u.p, .string ⟨u.s.toArray⟩])
  have p3 := hid (p2.out.below b3)
  have B3 := hid (B2.out.below b3 B2.out.lt)
  have G3 := hid (gb_below G2.out b3)
  have z3 : (w2.alloc (.cells #[.int .i64 u.k, .int .i64 u.n, .int .i64 u.p, .string ⟨u.s.toArray⟩] TK)).heap.size = w2.heap.size + 1 := size_alloc' _ _
  clear b3 p2 B2 G2
  by_cases hk : u.k = 2
  ·have hk' : (uz ts en)[i].k = 2 := by rw [← hu.out]; exact hk
   have hi2 := hul.out hk'
   have hun : ts[i] = u := by rw [hu.out]; exact (hua.out hi2).symm
   have hR : R = .ok (constT u.n, i + 1) := by rw [hRe.out, hnum.out hi2 (by rw [hun]; exact hk), hun]
   have hRe2 := hid hR
   clear hR hun hk' hua hnum hatk hvl hul hRe
   rw [hk] at f3 p3 B3 G3 z3 k0
   go_wp2_with fail
   generalize (w2.alloc (.cells #[.int .i64 2, .int .i64 u.n, .int .i64 u.p, .string ⟨u.s.toArray⟩] TK)) = w3 at *
   refine (skip_any g b c (uz ts en) i w3 p3.out (by rw [uz_len]; omega)).mono ?_
   rintro e w4 ⟨rfl, p4, g4⟩
   have f4 := f3.out.gb g4 (by omega)
   have B4 := B3.out.gb g4 (by omega)
   have z4 := g4.size
   obtain ⟨x0, x1, x2, x3⟩ := four f4
   have hf := par_fin B4 (OwnE.leaf' w4 (w.heap.size + 1) w4.heap.size 1 u.n [] (by simp)) (by omega) (Nat.le_refl _) (gb_trans G3.out g4) p4 (show ResIs R (constT u.n) .nilIface (i + 1) by rw [hRe2.out]; exact ⟨rfl, rfl, rfl⟩) hlt hblt
   have hf1 := hid hf.1
   have hf2 := hid hf.2
   obtain ⟨r0, r1, r2, r3⟩ := four B4
   have y0 := B4.frozen 0
   have y1 := B4.frozen 1
   have y2 := B4.frozen 2
   have y3 := B4.frozen 3
   clear hf B4 f4 p4 g4 k0 k1 k2 k3 c0 p3
   go_wp2_with fail
   exact bodyPost_ret (results_cell2 Tryz.results270 _ _ w.heap.size 58 _ (0, 0) _ rfl hf1.out Tryz.underlying58 rfl (by kernel_rfl)) rfl hf2.out
  ·have hk' : (uz ts en)[i].k ≠ 2 := by rw [← hu.out]; exact hk
   have hR := hatk.out hk'
   rw [← hRe.out, ← hu.out] at hR
   rw [← hu.out] at h8 hvl
   have hRe2 := hid hR
   have tk : (u.k == 2) = false := beq_false_of_ne hk
   have hnm := hid (fun w1 h1 => name_any g b c (uz ts en) i w1 h1 hil (by rw [← hu.out]; omega) (by rw [← hu.out]; exact hvl.out))
   rw [← hu.out] at hnm
   clear hR hk' hua hnum hatk hul hRe hvl
   go_wp2_with fail
   generalize (w2.alloc (.cells #[.int .i64 u.k, .int .i64 u.n, .int .i64 u.p, .string ⟨u.s.toArray⟩] TK)) = w3 at *
   refine (hnm.out w3 p3.out).mono ?_
   rintro e w4 ⟨rfl, p4, g4⟩
   have B4 := B3.out.gb g4 (by omega)
   have z4 := g4.size
   obtain ⟨r0, r1, r2, r3⟩ := four B4
   have y0 := B4.frozen 0
   have y1 := B4.frozen 1
   have y2 := B4.frozen 2
   have y3 := B4.frozen 3
   cases hv : C2.validB u.s with
   | true =>
    rw [hv] at p4 hRe2
    have hf := par_fin B4 (OwnE.leaf' w4 (w.heap.size + 1) w4.heap.size 2 0 u.s (by omega)) (by omega) (Nat.le_refl _) (gb_trans G3.out g4) p4 (show ResIs R (varT u.s) .nilIface (i + 1) by rw [hRe2.out, if_pos rfl]; exact ⟨rfl, rfl, rfl⟩) hlt hblt
    have hf1 := hid hf.1
    have hf2 := hid hf.2
    rw [if_pos rfl]
    clear hf B4 p4 g4 k0 k1 k2 k3 c0 p3
    go_wp2_with fail
    exact bodyPost_ret (results_cell2 Tryz.results270 _ _ w.heap.size 58 _ (0, 0) _ rfl hf1.out Tryz.underlying58 rfl (by kernel_rfl)) rfl hf2.out
   | false =>
    rw [hv] at p4 hRe2
    have hf := par_fin B4 (OwnE.leaf' w4 (w.heap.size + 1) w4.heap.size 2 0 [] (by simp)) (by omega) (Nat.le_refl _) (gb_trans G3.out g4) p4 (show ResIs R (varT []) (errV u.p) i by rw [hRe2.out, if_neg (by simp)]; exact rfl) hlt hblt
    have hf1 := hid hf.1
    have hf2 := hid hf.2
    rw [if_neg (by simp)]
    clear hf B4 p4 g4 k0 k1 k2 k3 c0 p3
    go_wp2_with fail
    exact bodyPost_ret (results_cell2 Tryz.results270 _ _ w.heap.size 58 _ (0, 0) _ rfl hf1.out Tryz.underlying58 rfl (by kernel_rfl)) rfl hf2.out
theorem parse_all {ts : List Tok} {en g b c : Nat} (hG : ∀ t ∈ ts, GoodT t) (n : Nat) :
  PP ts en g b c 187 1 n ∧ PP ts en g b c 209 2 n ∧ PP ts en g b c 223 3 n ∧ PP ts en g b c 230 4 n ∧ PP ts en g b c 255 5 n ∧
   PP ts en g b c 264 6 n ∧ PP ts en g b c 270 7 n := by
 induction n with
 | zero =>
  have h0 : ∀ F l, l ≤ 7 → PP ts en g b c F l 0 := fun F l hl m hm i w _ hn => by unfold need at hn; omega
  exact ⟨h0 _ _ (by omega), h0 _ _ (by omega), h0 _ _ (by omega), h0 _ _ (by omega), h0 _ _ (by omega), h0 _ _ (by omega), h0 _ _ (by omega)⟩
 | succ n ih =>
  obtain ⟨h1, h2, h3, h4, h5, h6, h7⟩ := ih
  exact ⟨lev_parseExpr h2, lev_parseAnd h3, lev_cmp h4, lev_parseSum h5, lev_parseProduct h6, lev_unary h7 h6, lev_atom hG (up_any h1)⟩
end Go.Proofs.YtiogceepjffmkaaGreatDoor.Tk
