/- The program's parser of expressions: its reader of tokens. -/
import Derived.Test.YtklcbagddijkgaaGreatDoorZPz
import Derived.Laws.Rows
import Derived.Test.YtklcbagddijkgaaGreatDoorZC3b
import Derived.Test.YtklcbagddijkgaaGreatDoorZTa
set_option maxRecDepth 100000
namespace Go.Proofs.YtklcbagddijkgaaGreatDoor.Tk
open Go.RowKit Go.Lib Go.Sort Go.Proofs.YtklcbagddijkgaaGreatDoor.Num Go.Proofs.YtklcbagddijkgaaGreatDoor.Com Go.Proofs.YtklcbagddijkgaaGreatDoor.Mem Go.Proofs.YtklcbagddijkgaaGreatDoor.Os Go.Proofs.YtklcbagddijkgaaGreatDoor.Tr

abbrev PT : TypeId := 164
/-- a syntax error at an offset -/
abbrev errV (a : Int) : Value := .iface 167 (.agg #[.int .i64 a])
/-- the last token is no word -/
def EndOk (us : List Tok) : Prop := ∀ i s, seesB us i s = true → i + 1 < us.length
/-- the tokens, and an end behind them -/
abbrev uz (ts : List Tok) (en : Int) : List Tok := ts ++ [⟨0, 0, en, []⟩]
theorem sees_uz (ts : List Tok) (en : Int) (i : Nat) (s : List UInt8) : seesB (uz ts en) i s = seesB ts i s := by
  unfold seesB
  rcases Nat.lt_trichotomy i ts.length with h | h | h
  · rw [List.getElem?_append_left h]
  · subst h
    rw [List.getElem?_append_right (Nat.le_refl _), Nat.sub_self, List.getElem?_eq_none (Nat.le_refl _)]; rfl
  · rw [List.getElem?_eq_none (by simp; omega), List.getElem?_eq_none (by omega)]
theorem end_uz (ts : List Tok) (en : Int) : EndOk (uz ts en) := fun i s h => by
  rw [sees_uz] at h
  have := sees_lt h
  simp; omega
/-- the place behind a token that is taken, or not -/
def nxB (q : Bool) (i : Nat) : Nat := if q = true then i + 1 else i
theorem nxB_t (i : Nat) : nxB true i = i + 1 := rfl
theorem nxB_f (i : Nat) : nxB false i = i := rfl
def nxI (q : Int) (i : Nat) : Nat := if q = 0 then i else i + 1
theorem nxI_z (i : Nat) : nxI 0 i = i := rfl
theorem nxI_n {q : Int} (h : q ≠ 0) (i : Nat) : nxI q i = i + 1 := if_neg h
/-- block g is a parser of the tokens us, at place i; they lie in block b -/
structure Prs (w : World) (g b c : Nat) (us : List Tok) (i : Nat) : Prop where
  blk : ∃ n m, Blk w g PT [.slice (some ⟨b, i * 4, none⟩) n m] ∧ i + n = us.length ∧ 1 ≤ n ∧ i + m = c
  cap : us.length ≤ c ∧ c ≤ maxLen
  rd : Rd w (b + 1) (some ⟨b, 0, none⟩) (cellsT us)
  ne : b ≠ g
section
variable {w w' w'' : World} {g b c i j : Nat} {us : List Tok}
theorem Prs.lt (h : Prs w g b c us i) : g < w.heap.size := by obtain ⟨n, m, hb, _⟩ := h.blk; exact hb.lt
theorem Prs.ilt (h : Prs w g b c us i) : i < us.length := by obtain ⟨n, m, _, h1, h2, _⟩ := h.blk; omega
theorem Prs.blt (h : Prs w g b c us i) : b < w.heap.size := by
  have hi := h.ilt
  have h0 := (cellsT_at us i hi).1
  obtain ⟨ad, e, _, hc⟩ := h.rd (fun hn => by rw [hn] at h0; cases h0)
  cases e
  have h1 := hc _ _ h0
  rcases Nat.lt_or_ge b w.heap.size with hl | hge
  · exact hl
  · rw [Os.add_zero] at h1
    simp [World.cell?, Array.getElem?_eq_none hge] at h1
theorem Prs.below (h : Prs w g b c us i) (hb : Below w.heap.size w w') : Prs w' g b c us i := by
  have hg := h.lt
  have hbl := h.blt
  obtain ⟨n, m, h1, h2⟩ := h.blk
  exact ⟨⟨n, m, h1.below hb hg, h2⟩, h.cap, h.rd.below (hb.mono (by omega)), h.ne⟩
theorem Prs.at_ (h : Prs w g b c us i) (hi : i < us.length) : w.cell? ⟨b, i * 4, none⟩ = some (.int .i64 us[i].k) ∧ w.cell? ⟨b, i * 4 + 1, none⟩ = some (.int .i64 us[i].n) ∧ w.cell? ⟨b, i * 4 + 2, none⟩ = some (.int .i64 us[i].p) ∧ w.cell? ⟨b, i * 4 + 3, none⟩ = some (sv us[i].s) := by
  obtain ⟨h0, h1, h2, h3⟩ := cellsT_at us i h.ilt
  obtain ⟨ad, e, _, hc⟩ := h.rd (fun hn => by rw [hn] at h0; cases h0)
  cases e
  have k0 := hc _ _ h0
  have k1 := hc _ _ h1
  have k2 := hc _ _ h2
  have k3 := hc _ _ h3
  rw [Os.add_zero] at k0 k1 k2 k3
  exact ⟨k0, k1, k2, k3⟩
theorem rd_far {w w' : World} {B b g : Nat} {xs : List Value} (h : Rd w B (some ⟨b, 0, none⟩) xs) (hne : b ≠ g) (hk : ∀ k, k ≠ g → w'.heap[k]? = w.heap[k]?) : Rd w' B (some ⟨b, 0, none⟩) xs := fun hn => by
  obtain ⟨ad, e, hb, hc⟩ := h hn
  cases e
  exact ⟨_, rfl, hb, fun j u hu => (World.cell?_of_block (hk _ (by rw [add_block]; exact hne))).trans (hc j u hu)⟩
theorem Prs.next (h : Prs w g b c us i) {n m : Nat} (hn : i + n = us.length) (hm : i + m = c) (h1 : 1 < n) : Prs (w.setCell ⟨g, 0, none⟩ (.slice (some ⟨b, i * 4 + 4, none⟩) (n - 1) (m - 1))) g b c us (i + 1) := by
  have hcap := h.cap
  obtain ⟨n', m', h1', h2, h3, h4⟩ := h.blk
  have e : (i + 1) * 4 = i * 4 + 4 := by omega
  refine ⟨⟨n - 1, m - 1, by rw [e]; exact h1'.set_ 0 _, by omega, by omega, by omega⟩, h.cap, rd_far h.rd h.ne fun k hk => heap_setCell_other w _ k _ hk, h.ne⟩
end
set_option maxHeartbeats 400000 in
theorem skip_any (g b c : Nat) (us : List Tok) (i : Nat) (w : World) (h : Prs w g b c us i) (hl : i + 1 < us.length) :
    Calls Tryz.prog 180 #[.pointer (some ⟨g, 0, none⟩)] w fun e w' => e = .returned (.tuple #[]) ∧ Prs w' g b c us (i + 1) ∧ w.grownBy w' (some g) := by
  obtain ⟨n, m, hB, hn, hn1, hm⟩ := h.blk
  have hcap := h.cap
  have c0 : w.cell? ⟨g, 0, none⟩ = some (.slice (some ⟨b, i * 4, none⟩) n m) := hB.cell 0
  have f0 := hB.frozen 0
  have hx := hid (h.next hn hm (by omega))
  have hg := hid (gb_set (gb_refl w (some g)) 0 (.slice (some ⟨b, i * 4 + 4, none⟩) (n - 1) (m - 1)))
  go_enter Tryz.func180, Tryz.ntmps180
  go_wp2_with fail
  go_end0
  exact ⟨rfl, hx.out, hg.out⟩
set_option maxHeartbeats 400000 in
theorem here_any (g b c : Nat) (us : List Tok) (i : Nat) (w : World) (h : Prs w g b c us i) :
    Calls Tryz.prog 126 #[.pointer (some ⟨g, 0, none⟩)] w fun e w' => e = .returned (errV (us[i]?.getD ⟨0, 0, 0, []⟩).p) ∧ w' = w := by
  have hi := h.ilt
  obtain ⟨k0, k1, k2, k3⟩ := h.at_ hi
  obtain ⟨n, m, hB, hn, hn1, hm⟩ := h.blk
  have c0 : w.cell? ⟨g, 0, none⟩ = some (.slice (some ⟨b, i * 4, none⟩) n m) := hB.cell 0
  rw [List.getElem?_eq_getElem hi, Option.getD_some]
  generalize us[i] = t at *
  go_enter Tryz.func126, Tryz.ntmps126
  go_wp2_with fail
  go_ret
  exact ⟨rfl, rfl⟩
set_option maxHeartbeats 400000 in
theorem take_any (g b c : Nat) (us : List Tok) (i : Nat) (s : List UInt8) (w : World) (h : Prs w g b c us i) (hend : EndOk us) :
    Calls Tryz.prog 151 #[.pointer (some ⟨g, 0, none⟩), .string ⟨s.toArray⟩] w fun e w' => e = .returned (.bool (seesB us i s)) ∧ Prs w' g b c us (nxB (seesB us i s) i) ∧ w.grownBy w' (some g) := by
  have hi := h.ilt
  have hs : seesB us i s = isWordB us[i] s := by unfold seesB; rw [List.getElem?_eq_getElem hi]
  obtain ⟨k0, k1, k2, k3⟩ := h.at_ hi
  obtain ⟨n, m, hB, hn, hn1, hm⟩ := h.blk
  have c0 : w.cell? ⟨g, 0, none⟩ = some (.slice (some ⟨b, i * 4, none⟩) n m) := hB.cell 0
  have hiw := hid (iword_any us[i] s w)
  have hnx := hid (fun w1 (h1 : Prs w1 g b c us i) (hl : i + 1 < us.length) => skip_any g b c us i w1 h1 hl)
  have hend := hid (fun h1 : isWordB us[i] s = true => hend i s (hs.trans h1))
  rw [hs]
  have hP := hid h
  clear hs h hB
  generalize us[i] = t at *
  generalize isWordB t s = q at *
  obtain ⟨tk, tn, tp, tx⟩ := t
  dsimp only at k0 k1 k2 k3
  go_enter Tryz.func151, Tryz.ntmps151
  go_wp2_with fail
  refine hiw.out.mono ?_
  rintro e w1 ⟨rfl, hb⟩
  have hP1 := hid (hP.out.below hb)
  have hG := hid (gb_below (gb_refl w (some g)) hb)
  clear hb hP
  cases q
  · go_wp2_with fail
    go_ret
    exact ⟨rfl, by rw [nxB_f]; exact hP1.out, hG.out⟩
  · go_wp2_with fail
    refine (hnx.out _ hP1.out (hend.out (by simp))).mono ?_
    rintro e w2 ⟨rfl, hp, hg⟩
    have hp := hid hp
    have hg := hid (gb_trans hG.out hg)
    go_wp2_with fail
    go_ret
    exact ⟨rfl, by rw [nxB_t]; exact hp.out, hg.out⟩
end Go.Proofs.YtklcbagddijkgaaGreatDoor.Tk

/- The program's parser: operators, names, what is expected, an operation. -/
set_option maxRecDepth 100000
namespace Go.Proofs.YtklcbagddijkgaaGreatDoor.Tk
open Go.RowKit Go.Lib Go.Sort Go.Proofs.YtklcbagddijkgaaGreatDoor.Num Go.Proofs.YtklcbagddijkgaaGreatDoor.Com Go.Proofs.YtklcbagddijkgaaGreatDoor.Mem Go.Proofs.YtklcbagddijkgaaGreatDoor.Os Go.Proofs.YtklcbagddijkgaaGreatDoor.Tr

theorem rd_off {w w2 : World} {g B : Nat} {L : Option Addr} {X : List Value} (h : Rd w B L X) (hB : ∀ ad, L = some ad → ad.block ≠ g) (hBw : B ≤ w.heap.size) (hg : w.grownBy w2 (some g)) : Rd w2 B L X := fun hne => by
  obtain ⟨ad, e, hb, hc⟩ := h hne
  exact ⟨ad, e, hb, fun j u hu => (World.cell?_of_block (hg.block (ad.add j).block (by rw [add_block]; omega) (fun e' => hB ad e (by rw [add_block] at e'; exact Option.some.inj e')))).trans (hc j u hu)⟩
/-- the first of these operators that stands at place i -/
def opIn (us : List Tok) (ks : List Int) (i : Nat) : Int := (ks.find? fun op => seesB us i (C3.symL op)).getD 0
theorem opIn_none {us : List Tok} {ks : List Int} {i : Nat} (h : ∀ j (hj : j < ks.length), seesB us i (C3.symL ks[j]) = false) : opIn us ks i = 0 := by
  unfold opIn
  rw [List.find?_eq_none.2 (fun x hx => by
    obtain ⟨j, hj, rfl⟩ := List.getElem_of_mem hx
    simp [h j hj])]
  rfl
theorem opIn_at {us : List Tok} {ks : List Int} {i j : Nat} (hj : j < ks.length) (h : ∀ m (hm : m < j), seesB us i (C3.symL (ks[m]'(by omega))) = false) (hs : seesB us i (C3.symL ks[j]) = true) : opIn us ks i = ks[j] := by
  unfold opIn
  have e : ks = ks.take j ++ (ks[j] :: ks.drop (j + 1)) := by rw [List.getElem_cons_drop, List.take_append_drop]
  have : ks.find? (fun op => seesB us i (C3.symL op)) = some ks[j] := by
    conv => lhs; rw [e]
    rw [List.find?_append, List.find?_eq_none.2 (fun x hx => by
      obtain ⟨m, hm, rfl⟩ := List.getElem_of_mem hx
      rw [List.length_take] at hm
      rw [List.getElem_take]
      simp [h m (by omega)]), List.find?_cons_of_pos (p := fun op => seesB us i (C3.symL op)) hs]
    rfl
  rw [this]; rfl
theorem snoc_no {us : List Tok} {ks : List Int} {i m : Nat} (hm : m < ks.length) (h : ∀ j (hj : j < ks.length), j < m → seesB us i (C3.symL ks[j]) = false) (hs : seesB us i (C3.symL ks[m]) = false) : ∀ j (hj : j < ks.length), j < m + 1 → seesB us i (C3.symL ks[j]) = false := fun j hj h2 => by
  by_cases e : j = m
  · subst e; exact hs
  · exact h j hj (by omega)
set_option maxHeartbeats 1000000 in
theorem takeOp_any (g b c : Nat) (us : List Tok) (i : Nat) (ks : List Int) (OA : Option Addr) (oc : Nat) (w : World) (h : Prs w g b c us i) (hend : EndOk us) (hr : Rd w w.heap.size OA (ks.map (Value.int .i64))) (hO : ∀ ad, OA = some ad → ad.block ≠ g) (hk : ∀ k ∈ ks, 1 ≤ k ∧ k ≤ 8) (hl : ks.length ≤ 8) :
    Calls Tryz.prog 128 #[.pointer (some ⟨g, 0, none⟩), .slice OA ks.length oc] w fun e w' => e = .returned (.tuple #[.int .i64 (opIn us ks i), .bool (opIn us ks i != 0)]) ∧ Prs w' g b c us (nxI (opIn us ks i) i) ∧ w.grownBy w' (some g) := by
  have hP := hid h
  have hr := hid hr
  clear h
  go_enter Tryz.func128, Tryz.ntmps128
  go_wp2_with fail
  go_loopw [10] (fun x wr => ∃ m : Nat, m ≤ ks.length ∧ x = .int .i64 m ∧ (∀ j (hj : j < ks.length), j < m → seesB us i (C3.symL ks[j]) = false) ∧ Prs wr g b c us i ∧ w.grownBy wr (some g)) (fun x _ => ks.length - (Go.RowKit.intOf x).toNat)
  case atStart => exact ⟨0, Nat.zero_le _, rfl, fun j _ h => absurd h (Nat.not_lt_zero _), hP.out, gb_refl _ _⟩
  case round =>
    obtain ⟨m, hm, rfl, hno, hp, hg⟩ := hrel
    have hp := hid hp
    have hno := hid hno
    have hrm := rd_off hr.out hO (Nat.le_refl _) hg
    have hg := hid hg
    by_cases hlt : m < ks.length
    · have t1 : decide ((m : Int) < (ks.length : Int)) = true := decide_eq_true (by omega)
      obtain ⟨ad, rfl, _, hc⟩ := hrm.at_ (k := m) (by simpa using hlt)
      rw [List.getElem_map] at hc
      have hk1 := hk ks[m] (List.getElem_mem hlt)
      have hsy := hid (fun w => C3.symbol_any ks[m] w)
      have htk := hid (fun w1 (h1 : Prs w1 g b c us i) => take_any g b c us i (C3.symL ks[m]) w1 h1 hend)
      have hat := hid (fun hs => opIn_at hlt (fun j hj => hno.out j (by omega) hj) hs)
      have hnx := hid (snoc_no hlt hno.out)
      generalize C3.symL ks[m] = S at *
      generalize hK : ks[m] = K at *
      clear hrm
      go_wp2_with fail
      refine (hsy.out _).mono ?_
      rintro e w1 ⟨rfl, hb⟩
      have hp1 := hid (hp.out.below hb)
      have hg1 := hid (gb_below hg.out hb)
      clear hb
      go_wp2_with fail
      refine (htk.out _ hp1.out).mono ?_
      rintro e w2 ⟨rfl, hp2, hgg⟩
      have hg2 := hid (gb_trans hg1.out hgg)
      have hp2 := hid hp2
      clear hgg
      cases hq : seesB us i S with
      | false =>
        have hn2 := hid (hnx.out hq)
        have hp2 := hid (show Prs w2 g b c us i by have := hp2.out; rw [hq] at this; exact this)
        go_wp2_with fail
        exact ⟨⟨m + 1, hlt, by go_num, hn2.out, hp2.out, hg2.out⟩, by simp [Go.RowKit.intOf]; omega⟩
      | true =>
        have ha := hid (hat.out hq)
        have hne : K ≠ 0 := by omega
        have hbn := hid (bne_iff_ne.2 hne)
        have hp2 := hid (show Prs w2 g b c us (i + 1) by have := hp2.out; rw [hq] at this; exact this)
        go_wp2_with fail
        go_ret2
        rw [ha.out, hbn.out, nxI_n hne]
        exact ⟨rfl, hp2.out, hg2.out⟩
    · obtain rfl : m = ks.length := by omega
      have t1 : decide ((ks.length : Int) < (ks.length : Int)) = false := decide_eq_false (by omega)
      have ha := hid (opIn_none (fun j hj => hno.out j hj hj))
      go_wp2_with fail
      go_ret2
      rw [ha.out]
      exact ⟨rfl, hp.out, hg.out⟩
theorem oper_res (w : World) (a b c d : Obj) (cs : List Value) (hc : c = .cells cs.toArray 27) : Blk ((((w.alloc a).alloc b).alloc c).alloc d) (w.heap.size + 1 + 1) 27 cs := by
  subst hc
  have h := Blk.new ((w.alloc a).alloc b) 27 cs
  rw [size_alloc', size_alloc'] at h
  exact h.alloc _
theorem oper_row (w : World) (a b c d : Obj) (cs : List Value) (hc : d = .cells cs.toArray 27) : Blk ((((w.alloc a).alloc b).alloc c).alloc d) (w.heap.size + 1 + 1 + 1) 27 cs := by
  subst hc
  have h := Blk.new (((w.alloc a).alloc b).alloc c) 27 cs
  rw [size_alloc', size_alloc', size_alloc'] at h
  exact h
theorem oper_below (w : World) (a b c d : Obj) : Below w.heap.size w ((((w.alloc a).alloc b).alloc c).alloc d) :=
  ((((Below.refl _ _).alloc (Nat.le_refl _) _).alloc (by rw [size_alloc']; omega) _).alloc (by rw [size_alloc', size_alloc']; omega) _).alloc (by rw [size_alloc', size_alloc', size_alloc']; omega) _
set_option maxHeartbeats 2000000 in
theorem oper_any (op k n k' n' : Int) (s s' : List UInt8) (A A' : Option Addr) (l c l' c' : Nat) (w : World) :
    Calls Tryz.prog 129 #[.int .i64 op, nv k n s A l c, nv k' n' s' A' l' c'] w fun e w' => e = .returned (nv 3 op [] (some ⟨w.heap.size + 1 + 1 + 1, 0, none⟩) 2 2) ∧
      Blk w' (w.heap.size + 1 + 1 + 1) 27 [.int .i64 k, .int .i64 n, sv s, .slice A l c, .int .i64 k', .int .i64 n', sv s', .slice A' l' c'] ∧ Below w.heap.size w w' := by
  go_enter Tryz.func129, Tryz.ntmps129
  go_wp2_with fail
  refine bodyPost_ret (results_cell_row Tryz.results129 _ _ (w.heap.size + 1 + 1) 27 _ (0, 0) _ rfl (oper_res w _ _ _ _ [.int .i64 3, .int .i64 op, sv [], .slice (some ⟨w.heap.size + 1 + 1 + 1, 0, none⟩) 2 2] rfl) Tryz.underlying27 rfl (by kernel_rfl)) rfl ⟨rfl, oper_row w _ _ _ _ _ rfl, oper_below w _ _ _ _⟩
set_option maxHeartbeats 400000 in
theorem expect_any (g b c : Nat) (us : List Tok) (i : Nat) (s : List UInt8) (w : World) (h : Prs w g b c us i) (hend : EndOk us) :
    Calls Tryz.prog 150 #[.pointer (some ⟨g, 0, none⟩), .string ⟨s.toArray⟩] w fun e w' => e = .returned (if seesB us i s = true then .nilIface else errV (us[i]?.getD ⟨0, 0, 0, []⟩).p) ∧ Prs w' g b c us (nxB (seesB us i s) i) ∧ w.grownBy w' (some g) := by
  have ht := hid (take_any g b c us i s w h hend)
  clear h
  generalize seesB us i s = q at *
  go_enter Tryz.func150, Tryz.ntmps150
  go_wp2_with fail
  refine ht.out.mono ?_
  rintro e w1 ⟨rfl, hp, hg⟩
  have hg := hid hg
  have hp := hid hp
  cases q
  · have hp := hid (show Prs w1 g b c us i from hp.out)
    go_wp2_with fail
    refine (here_any g b c us i w1 hp.out).mono ?_
    rintro e w2 ⟨rfl, rfl⟩
    go_wp2_with fail
    go_ret
    exact ⟨by simp, hp.out, hg.out⟩
  · have hp := hid (show Prs w1 g b c us (i + 1) from hp.out)
    go_wp2_with fail
    go_ret
    exact ⟨by simp, hp.out, hg.out⟩
set_option maxHeartbeats 400000 in
theorem name_any (g b c : Nat) (us : List Tok) (i : Nat) (w : World) (h : Prs w g b c us i) (hi : i < us.length) (hsl : us[i].s.length ≤ 400) (hnx : C2.validB us[i].s = true → i + 1 < us.length) :
    Calls Tryz.prog 152 #[.pointer (some ⟨g, 0, none⟩)] w fun e w' => e = .returned (if C2.validB us[i].s = true then .tuple #[sv us[i].s, .nilIface] else .tuple #[sv [], errV us[i].p]) ∧ Prs w' g b c us (nxB (C2.validB us[i].s) i) ∧ w.grownBy w' (some g) := by
  obtain ⟨k0, k1, k2, k3⟩ := h.at_ hi
  obtain ⟨n, m, hB, hn, hn1, hm⟩ := h.blk
  have c0 : w.cell? ⟨g, 0, none⟩ = some (.slice (some ⟨b, i * 4, none⟩) n m) := hB.cell 0
  have hv := hid (C2.valid_any us[i].s w (by omega))
  have hp := hid h
  have hh := hid (fun w1 (h1 : Prs w1 g b c us i) => here_any g b c us i w1 h1)
  rw [List.getElem?_eq_getElem hi, Option.getD_some] at hh
  clear hB k0 k1 k2
  generalize us[i] = t at *
  generalize hq : C2.validB t.s = q at *
  go_enter Tryz.func152, Tryz.ntmps152
  go_wp2_with fail
  refine hv.out.mono ?_
  rintro e w1 ⟨rfl, hb⟩
  have hp1 := hid (hp.out.below hb)
  have hg := hid (gb_below (gb_refl w (some g)) hb)
  clear hb hp
  cases q
  · go_wp2_with fail
    refine (hh.out w1 hp1.out).mono ?_
    rintro e w2 ⟨rfl, rfl⟩
    go_wp2_with fail
    go_ret2
    exact ⟨by simp, hp1.out, hg.out⟩
  · go_wp2_with fail
    refine (skip_any g b c us i w1 hp1.out (hnx (by simp))).mono ?_
    rintro e w2 ⟨rfl, hp2, hg2⟩
    have hp2 := hid hp2
    have hg2 := hid (gb_trans hg.out hg2)
    go_wp2_with fail
    go_ret2
    exact ⟨by simp, hp2.out, hg2.out⟩
end Go.Proofs.YtklcbagddijkgaaGreatDoor.Tk
