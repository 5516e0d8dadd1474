/- The program's reading of statements. -/
import Derived.Test.YtnmomlaimffonaaGreatZNvx
import Derived.Test.YtnmomlaimffonaaGreatZC4a
import Derived.Test.YtnmomlaimffonaaGreatZNis
set_option maxHeartbeats 16000000
set_option maxRecDepth 100000
namespace Go.Proofs.YtnmomlaimffonaaGreat.Sr
open Go.RowKit Go.Lib Go.Sort Com Mem YtnmomlaimffonaaGreat.Os Tr Pl Gd YtnmomlaimffonaaGreat.Nm C2
def kB (k : Int) (s : List UInt8) (nb ne : Bool) : Bool :=
  if k = 1 then nb && ne else if k = 2 then (s == []) else if k = 3 then (s == []) && ne else if k = 4 then ((s == []) && nb) && ne else false
mutual
def kOk : St → Bool
  | .mk k s _ bs es => kOks bs && (kOks es && kB k s ((bs.length : Int) == 0) ((es.length : Int) == 0))
def kOks : List St → Bool
  | [] => true
  | a :: r => kOk a && kOks r
end
theorem kOk_mk (k : Int) (s : List UInt8) (e : T) (bs es : List St) : kOk (.mk k s e bs es) = (kOks bs && (kOks es && kB k s ((bs.length : Int) == 0) ((es.length : Int) == 0))) := by rw [kOk]
theorem kOks_not {L : List St} {m : Nat} (h : m < L.length) (hf : kOk L[m] = false) : kOks L = false := by
  induction L generalizing m with
  | nil => simp at h
  | cons a r ih =>
    rw [kOks]
    cases m with
    | zero => rw [List.getElem_cons_zero] at hf; rw [hf]; rfl
    | succ m => rw [ih (by simpa using h) (by simpa using hf), Bool.and_false]
theorem kOks_all {L : List St} (h : ∀ j, (hj : j < L.length) → kOk L[j] = true) : kOks L = true := by
  induction L with
  | nil => rfl
  | cons a r ih =>
    rw [kOks, show kOk a = true from h 0 (by simp), Bool.true_and]
    exact ih fun j hj => h (j + 1) (by simpa using hj)
theorem ok_k (V : List (List UInt8)) (t : St) : okSt V t = true → kOk t = true := by
  induction t using St.ind with
  | h k s e bs es h1 h2 =>
    intro h
    rw [okSt_mk] at h
    simp only [Bool.and_eq_true] at h
    obtain ⟨_, hb, he, hk⟩ := h
    have sub : ∀ L : List St, (∀ a ∈ L, okSt V a = true → kOk a = true) → okSts V L = true → kOks L = true := fun L hL hh => by
      refine kOks_all fun j hj => hL _ (List.getElem_mem _) ?_
      cases hq : okSt V L[j]
      · rw [okSts_not hj hq] at hh; cases hh
      · rfl
    rw [kOk_mk, sub bs h1 hb, sub es h2 he, Bool.true_and, Bool.true_and]
    unfold kindB at hk
    unfold kB
    by_cases e1 : k = 1
    · rw [if_pos e1] at hk ⊢; simp only [Bool.and_eq_true] at hk ⊢; exact ⟨hk.2.1, hk.2.2⟩
    · rw [if_neg e1] at hk ⊢
      by_cases e2 : k = 2
      · rw [if_pos e2] at hk ⊢; exact hk
      · rw [if_neg e2] at hk ⊢
        by_cases e3 : k = 3
        · rw [if_pos e3] at hk ⊢; exact hk
        · rw [if_neg e3] at hk ⊢
          by_cases e4 : k = 4
          · rw [if_pos e4] at hk ⊢; simp only [Bool.and_eq_true] at hk ⊢; exact ⟨⟨hk.1, hk.2.1⟩, hk.2.2⟩
          · rw [if_neg e4] at hk; cases hk
theorem oks_k {V : List (List UInt8)} {L : List St} (h : kOks L = false) : okSts V L = false := by
  cases hq : okSts V L
  · rfl
  · have : kOks L = true := kOks_all fun j hj => ok_k V _ (by
      cases hj' : okSt V L[j]
      · rw [okSts_not hj hj'] at hq; cases hq
      · rfl)
    rw [this] at h; cases h
def RSt (t : St) : Prop := ∀ (B : Nat) (cs : List Value) (w : World), B ≤ w.heap.size → Rd8 (pln w) B cs t.d → cntSt t ≤ 4000000 → Calls Tryz.prog 83 #[.agg cs.toArray] w fun e w' => ∃ X, e = .returned (.tuple #[X, .bool (kOk t)]) ∧ OneI X ∧ (kOk t = true → StR (plz w' (ivb B w.heap.size)) w'.heap.size X t) ∧ Below w.heap.size w w'
theorem rstmts (L : List St) (ih : ∀ a ∈ L, RSt a) (B : Nat) (A : Option Addr) (c : Nat) (rows : Nat → List Value) (w : World) (hB : B ≤ w.heap.size) (hk : Row (pln w) B 1 A (dl L) rows) (hl : L.length ≤ 4000000) (hsz : cntL L ≤ 4000000) :
    Calls Tryz.prog 59 #[.slice A L.length c] w fun e w' => ∃ A' n' c', e = .returned (.tuple #[.slice A' n' c', .bool (kOks L)]) ∧ (kOks L = true → n' = L.length ∧ ∃ rows', RowR (plz w' (ivb B w.heap.size)) w'.heap.size A' L rows') ∧ Below w.heap.size w w' := by
  have hl63 : L.length ≤ 9223372036854775807 := by omega
  have hn := hid (show L.length = L.length from rfl)
  generalize hL : L.length = n at *
  go_enter Tryz.func59, Tryz.ntmps59
  go_wp2_with fail
  go_loopw [4, 11] (fun v i wr => ∃ m : Nat, i = .int .i64 (m : Nat) ∧ m ≤ n ∧ Below w.heap.size w wr ∧ GrowR wr w.heap.size (ivb B w.heap.size) v (L.take m) ∧ (∀ j, (hj : j < L.length) → j < m → kOk L[j] = true)) (fun _ i _ => n - (Go.RowKit.intOf i).toNat)
  case atStart => exact ⟨0, rfl, Nat.zero_le _, Below.refl _ _, by rw [List.take_zero]; exact GrowR.nil _ _ _, fun j hj h => absurd h (Nat.not_lt_zero _)⟩
  case round =>
    obtain ⟨m, rfl, hm, hb, hG, hall⟩ := hrel
    replace hall := hid hall
    by_cases hlt : m < n
    · have t0 : decide ((m : Int) < (n : Int)) = true := decide_eq_true (by omega)
      have t1 : (m : Int) < (n : Int) := by omega
      have hml : m < L.length := by omega
      obtain ⟨hw8, ad, hA, hBd, hld⟩ := hk.cell m (by simpa [dl] using hml)
      have hkr := hk.kid m L[m].d (by simp [dl, List.getElem?_eq_getElem hml])
      subst hA
      have hld2 : LdN wr (ad.add (m * 8)) (rows m) := fun i u hu => by
        rw [show wr.cell? ((ad.add (m * 8)).add i) = w.cell? ((ad.add (m * 8)).add i) from hb.cell (by rw [add_block, add_block]; omega)]
        exact (pln_cell (hld i u hu)).1
      have hszm : cntSt L[m] ≤ 4000000 := Nat.le_trans (cntSt_mem (List.getElem_mem _)) hsz
      have hck := hid (fun (W : World) (hW : Below w.heap.size w W) => ih _ (List.getElem_mem hml) B _ W (Nat.le_trans hB hW.size) (hkr.cry (cry_pb (hW.mono hB)) (Nat.le_refl _)) hszm)
      have htk : L.take (m + 1) = L.take m ++ [L[m]] := List.take_succ_eq_append_getElem hml
      have hno := hid (fun (h : kOk L[m] = false) => kOks_not hml h)
      have hnx := hid (fun (h : kOk L[m] = true) (j : Nat) (hj : j < L.length) (hjm : j < m + 1) => show kOk L[j] = true by
        by_cases e : j = m
        · subst e; exact h
        · exact hall.out j hj (by omega))
      generalize hT : L[m] = t at *
      replace htk := hid htk
      obtain ⟨k, s, e, bs, es⟩ := t
      rw [St.d_mk] at hkr
      obtain ⟨ek, en, en', A1, l1, c1, Bb, cb, C1, cc, rb, rc, e8, -⟩ := st_inv hkr
      rw [e8] at hck hld2
      obtain ⟨k0, k1, k2, k3, k4, k5, k6, k7⟩ := ld8 hld2
      clear hld2 hkr e8 hld hw8 hT
      have hbA := box_below wr (.cells (sc k s ek en en' A1 l1 c1 Bb (dl bs).length cb C1 (dl es).length cc).toArray 94)
      have hBn := hid (Blk.new wr 94 (sc k s ek en en' A1 l1 c1 Bb (dl bs).length cb C1 (dl es).length cc))
      have hbT := hid (hb.trans (hbA.mono hb.size))
      have hcall := hid (hck.out _ hbT.out)
      have hGA := hid (hG.below hbA)
      have hown := hid (fun b (h : u4.ownBlock = some b) => hG.own h)
      have hwr := hb.size
      clear hck hG hbA
      generalize (dl bs).length = lb at *
      generalize (dl es).length = le at *
      generalize hTT : St.mk k s e bs es = tt at *
      generalize hok : kOk tt = ok at *
      obtain ⟨b0, b1, b2, b3, b4, b5, b6, b7⟩ := eight hBn.out
      cases ok with
      | false =>
        have hf := hid (hno.out rfl)
        clear hno hnx
        go_wp2_with fail
        refine hcall.out.mono ?_
        rintro e2 w2 ⟨X, rfl, hX, -, hb2⟩
        have hb3 := hid (hbT.out.trans (hb2.mono hbT.out.size))
        clear hb2 hcall hGA b0 b1 b2 b3 b4 b5 b6 b7 k0 k1 k2 k3 k4 k5 k6 k7
        rcases hX with rfl | ⟨tX, yX, rfl⟩
        all_goals
          go_wp2_with fail
          go_ret2
          exact ⟨none, 0, 0, by rw [hf.out]; rfl, (fun h => by rw [hf.out] at h; cases h), hb3.out⟩
      | true =>
        have hnx2 := hid (hnx.out rfl)
        clear hno hnx
        go_wp2_with fail
        refine hcall.out.mono ?_
        rintro e2 w2 ⟨X, rfl, hX, hSt, hb2⟩
        have hb3 := hid (hbT.out.trans (hb2.mono hbT.out.size))
        have hG2 := hid (hGA.out.below hb2)
        have hs2 := hb2.size
        rw [size_alloc'] at hs2
        have hSt2 := hid ((hSt trivial).cry (cry_z (w' := w2) (S' := wow (ivb B w.heap.size) u4.ownBlock) fun k hk hS => by
          rw [size_alloc'] at hS
          refine ⟨wow_no (ivb_no ?_) fun e => ?_, rfl⟩
          · have := ivb_of hS; omega
          · have h1 := hown.out k e
            have := ivb_of hS; omega) (Nat.le_refl _))
        obtain ⟨tX, yX, rfl⟩ := hSt2.out.form
        have hlo : w.heap.size ≤ w2.heap.size := by omega
        have hnb : (L.take m).length < 1000000000 := by rw [List.length_take]; omega
        clear hb2 hcall hGA hSt b0 b1 b2 b3 b4 b5 b6 b7 k0 k1 k2 k3 k4 k5 k6 k7 hs2 hwr hok hBn
        go_wp2_with (at_builtin; refine GrowR.app hG2.out hlo (.iface tX yX) tt rfl hSt2.out hnb rfl _ _ rfl rfl w2.heap.size rfl rfl ?_; intro v7 w7 hG7 hg7; rw [← htk.out] at hG7; have hG7 := hid hG7; have hb7 := hid (hb3.out.grown hg7 hb3.out.size fun k hk => (hG2.out.own hk).1); clear hg7)
        exact ⟨⟨m + 1, by go_num, by omega, hb7.out, hG7.out, hnx2.out⟩, by simp [Go.RowKit.intOf]; omega⟩
    · obtain rfl : m = n := by omega
      have t0 : decide ((m : Int) < (m : Int)) = false := decide_eq_false (by omega)
      rw [List.take_of_length_le (by omega)] at hG
      obtain ⟨A', c', rows', e', hr, _⟩ := hG.rd fun k hk => ivb_no (Or.inr hk)
      rw [hL] at e'
      subst e'
      have hf := hid (kOks_all fun j hj => hall.out j hj (by omega))
      replace hb := hid hb
      replace hr := hid hr
      go_wp2_with fail
      go_ret2
      exact ⟨A', _, c', by rw [hf.out]; rfl, fun _ => ⟨rfl, rows', hr.out⟩, hb.out⟩
theorem emp {L : List St} {q : Bool} (h : ((L.length : Int) == 0) = q) (hq : q = true) : L = [] := by
  subst hq
  have := beq_iff_eq.1 h
  exact List.eq_nil_of_length_eq_zero (by omega)
theorem emps {s : List UInt8} {q : Bool} (h : (s == []) = q) (hq : q = true) : s = [] := by
  subst hq; exact beq_iff_eq.1 h
theorem rstmt (t : St) : RSt t := by
  induction t using St.ind with
  | h k s e bs es ihb ihe =>
    intro B cs w hB hv hsz
    rw [St.d_mk] at hv
    simp only [cntSt] at hsz
    have hlb0 := len_cntL bs
    have hlc0 := len_cntL es
    obtain ⟨ek, en, en', A1, l1, c1, Bb, cb, C1, cc, rb, rc, rfl, hs, hx, hrb, hlb, hrc, hlc⟩ := st_inv hv
    rw [dl_len] at hlb hlc ⊢
    rw [dl_len]
    have hb1 := box_below w (.cells (sc k s ek en en' A1 l1 c1 Bb bs.length cb C1 es.length cc).toArray 94)
    have hBn := hid (Blk.new w 94 (sc k s ek en en' A1 l1 c1 Bb bs.length cb C1 es.length cc))
    have hc1 := hid (rstmts bs ihb B Bb cb rb _ (Nat.le_trans hB hb1.size) (hrb.cry (cry_pb (hb1.mono hB)) (Nat.le_refl _)) (by omega) (by omega))
    have hc2 := hid (fun (W : World) (hW : Below w.heap.size w W) => rstmts es ihe B C1 cc rc W (Nat.le_trans hB hW.size) (hrc.cry (cry_pb (hW.mono hB)) (Nat.le_refl _)) (by omega) (by omega))
    have hxx := hid (fun (W : World) (hW : Below w.heap.size w W) => Ex.cry hx (cry_pz (w := w) (w' := W) (S := ivb B w.heap.size) fun k hk => ⟨ivb_no (Or.inl hk), hW.block k (by omega)⟩) (Nat.le_trans hB hW.size))
    replace hb1 := hid hb1
    have hK := hid (kOk_mk k s e bs es)
    have hlb' : bs.length ≤ maxI := hlb
    have hlc' : es.length ≤ maxI := hlc
    clear hv hx hrb hrc ihb ihe hsz hlb0 hlc0
    have z : (w.alloc (.cells (sc k s ek en en' A1 l1 c1 Bb bs.length cb C1 es.length cc).toArray 94)).heap.size = w.heap.size + 1 := size_alloc' _ _
    obtain ⟨b0, b1, b2, b3, b4, b5, b6, b7⟩ := eight hBn.out
    generalize hOB : kOks bs = ob at *
    generalize hOE : kOks es = oe at *
    generalize hNB : ((bs.length : Int) == 0) = nb at *
    generalize hNE : ((es.length : Int) == 0) = ne at *
    go_enter Tryz.func83, Tryz.ntmps83
    go_wp2_with fail
    refine hc1.out.mono ?_
    rintro e2 w2 ⟨PA, pn, pc, rfl, hp, hb2⟩
    have hB2 := hid (hBn.out.below hb2 hBn.out.lt)
    have hw2 := hid (hb1.out.trans (hb2.mono hb1.out.size))
    have hs2 := hb2.size
    replace hp := hid hp
    clear hb2 hc1 b0 b1 b2 b3 b4 b5 b6 b7
    obtain ⟨b0, b1, b2, b3, b4, b5, b6, b7⟩ := eight hB2.out
    go_wp2_with fail
    refine (hc2.out _ hw2.out).mono ?_
    rintro e3 w3 ⟨QA, qn, qc, rfl, hq, hb3⟩
    have hB3 := hid (hB2.out.below hb3 hB2.out.lt)
    have hw3 := hid (hw2.out.trans (hb3.mono hw2.out.size))
    have hs3 := hb3.size
    have hbe := hid hb3
    replace hq := hid hq
    clear hb3 hc2 b0 b1 b2 b3 b4 b5 b6 b7
    obtain ⟨b0, b1, b2, b3, b4, b5, b6, b7⟩ := eight hB3.out
    cases ob with
    | false =>
      have hf := hid (hK.out.trans (Bool.false_and _))
      go_wp2_with fail
      go_ret2
      exact ⟨.nilIface, by rw [hf.out]; rfl, Or.inl rfl, (fun h => by rw [hf.out] at h; cases h), hw3.out⟩
    | true =>
      cases oe with
      | false =>
        have hf := hid (hK.out.trans (by rw [Bool.true_and, Bool.false_and]))
        go_wp2_with fail
        go_ret2
        exact ⟨.nilIface, by rw [hf.out]; rfl, Or.inl rfl, (fun h => by rw [hf.out] at h; cases h), hw3.out⟩
      | true =>
        obtain ⟨rfl, rows1, hr1⟩ := hp.out rfl
        obtain ⟨rfl, rows2, hr2⟩ := hq.out rfl
        have hK2 := hid (hK.out.trans (by rw [Bool.true_and, Bool.true_and]))
        have hbx := box_below w3 (.cells #[.int .i64 ek, .int .i64 en, sv en', .slice A1 l1 c1] 148)
        have hBh := hid (Blk.new w3 148 [.int .i64 ek, .int .i64 en, sv en', .slice A1 l1 c1])
        have hB4 := hid (hB3.out.below hbx hB3.out.lt)
        have hw4 := hid (hw3.out.trans (hbx.mono hw3.out.size))
        rw [z] at hs2 hr1
        have hR1 := hid (fun (W : World) (hW : Below (w3.alloc (.cells #[.int .i64 ek, .int .i64 en, sv en', .slice A1 l1 c1] 148)).heap.size (w3.alloc (.cells #[.int .i64 ek, .int .i64 en, sv en', .slice A1 l1 c1] 148)) W) =>
          show RowR (plz W (ivb B w.heap.size)) W.heap.size PA bs rows1 from hr1.cry (cry_z fun k hk hS => ⟨ivb_no (by have := ivb_of hS; omega), by
            rw [hW.block k (by rw [size_alloc']; omega), hbx.block k (by omega), hbe.out.block k hk]⟩) (by have := hW.size; rw [size_alloc'] at this; omega))
        have hR2 := hid (fun (W : World) (hW : Below (w3.alloc (.cells #[.int .i64 ek, .int .i64 en, sv en', .slice A1 l1 c1] 148)).heap.size (w3.alloc (.cells #[.int .i64 ek, .int .i64 en, sv en', .slice A1 l1 c1] 148)) W) =>
          show RowR (plz W (ivb B w.heap.size)) W.heap.size QA es rows2 from hr2.cry (cry_z fun k hk hS => ⟨ivb_no (by have := ivb_of hS; omega), by
            rw [hW.block k (by rw [size_alloc']; omega), hbx.block k (by omega)]⟩) (by have := hW.size; rw [size_alloc'] at this; omega))
        clear hr1 hr2 hp hq hbx hbe hK hB3 hB2 hBn hs2 hs3 z hOB hOE
        obtain ⟨d0, d1, d2, d3, d4, d5, d6, d7⟩ := eight hB4.out
        obtain ⟨x0, x1, x2, x3⟩ := four hBh.out
        by_cases h1 : k = 1
        · subst h1
          have hK3 := hid (hK2.out.trans (show kB 1 s nb ne = (nb && ne) from rfl))
          cases nb with
          | false =>
            have hf := hid (hK3.out)
            go_wp2_with fail
            go_ret2
            exact ⟨_, by rw [hf.out]; rfl, Or.inr ⟨_, _, rfl⟩, (fun h => by rw [hf.out] at h; cases h), hw4.out⟩
          | true =>
            cases ne with
            | false =>
              have hf := hid (hK3.out)
              go_wp2_with fail
              go_ret2
              exact ⟨_, by rw [hf.out]; rfl, Or.inr ⟨_, _, rfl⟩, (fun h => by rw [hf.out] at h; cases h), hw4.out⟩
            | true =>
              have hf := hid hK3.out
              have e1 := hid (emp hNB rfl)
              have e2 := hid (emp hNE rfl)
              go_wp2_with fail
              go_ret2
              exact ⟨_, by rw [hf.out]; rfl, Or.inr ⟨_, _, rfl⟩, (fun _ => by rw [e1.out, e2.out]; exact .asg (hxx.out _ hw4.out)), hw4.out⟩
        by_cases h2 : k = 2
        · subst h2
          have hK3 := hid (hK2.out.trans (show kB 2 s nb ne = (s == []) from rfl))
          cases hS : (s == []) with
          | false =>
            rw [hS] at hK3
            have hf := hid (hK3.out)
            go_wp2_with fail
            go_quiet (fail)
            go_wp2_with fail
            go_ret2
            exact ⟨_, by rw [hf.out]; rfl, Or.inr ⟨_, _, rfl⟩, (fun h => by rw [hf.out] at h; cases h), bdr hw4.out nq⟩
          | true =>
            rw [hS] at hK3
            have hf := hid hK3.out
            have e1 := hid (emps hS rfl)
            go_wp2_with fail
            go_quiet (fail)
            go_wp2_with fail
            go_ret2
            have r1 := hR1.out _ (bdr (Below.refl _ _) nq)
            have r2 := hR2.out _ (bdr (Below.refl _ _) nq)
            exact ⟨_, by rw [hf.out]; rfl, Or.inr ⟨_, _, rfl⟩, (fun _ => by rw [e1.out]; exact .chc (hxx.out _ (bdr hw4.out nq)) PA QA pc qc rows1 rows2 hlb' hlc' r1.cell r1.kid r2.cell r2.kid), bdr hw4.out nq⟩
        by_cases h3 : k = 3
        · subst h3
          have hK3 := hid (hK2.out.trans (show kB 3 s nb ne = ((s == []) && ne) from rfl))
          cases hS : (s == []) with
          | false =>
            rw [hS] at hK3
            have hf := hid (hK3.out)
            go_wp2_with fail
            go_ret2
            exact ⟨_, by rw [hf.out]; rfl, Or.inr ⟨_, _, rfl⟩, (fun h => by rw [hf.out] at h; cases h), hw4.out⟩
          | true =>
            rw [hS, Bool.true_and] at hK3
            cases ne with
            | false =>
              have hf := hid (hK3.out)
              go_wp2_with fail
              go_ret2
              exact ⟨_, by rw [hf.out]; rfl, Or.inr ⟨_, _, rfl⟩, (fun h => by rw [hf.out] at h; cases h), hw4.out⟩
            | true =>
              have hf := hid hK3.out
              have e1 := hid (emps hS rfl)
              have e2 := hid (emp hNE rfl)
              go_wp2_with fail
              go_ret2
              have r1 := hR1.out _ (Below.refl _ _)
              exact ⟨_, by rw [hf.out]; rfl, Or.inr ⟨_, _, rfl⟩, (fun _ => by rw [e1.out, e2.out]; exact .lop (hxx.out _ hw4.out) PA pc rows1 hlb' r1.cell r1.kid), hw4.out⟩
        by_cases h4 : k = 4
        · subst h4
          have hK3 := hid (hK2.out.trans (show kB 4 s nb ne = (((s == []) && nb) && ne) from rfl))
          cases hS : (s == []) with
          | false =>
            rw [hS] at hK3
            have hf := hid (hK3.out)
            go_wp2_with fail
            go_ret2
            exact ⟨_, by rw [hf.out]; rfl, Or.inr ⟨_, _, rfl⟩, (fun h => by rw [hf.out] at h; cases h), hw4.out⟩
          | true =>
            rw [hS, Bool.true_and] at hK3
            cases nb with
            | false =>
              have hf := hid (hK3.out)
              go_wp2_with fail
              go_ret2
              exact ⟨_, by rw [hf.out]; rfl, Or.inr ⟨_, _, rfl⟩, (fun h => by rw [hf.out] at h; cases h), hw4.out⟩
            | true =>
              rw [Bool.true_and] at hK3
              cases ne with
              | false =>
                have hf := hid (hK3.out)
                go_wp2_with fail
                go_ret2
                exact ⟨_, by rw [hf.out]; rfl, Or.inr ⟨_, _, rfl⟩, (fun h => by rw [hf.out] at h; cases h), hw4.out⟩
              | true =>
                have hf := hid hK3.out
                have e1 := hid (emps hS rfl)
                have e2 := hid (emp hNE rfl)
                have e3 := hid (emp hNB rfl)
                go_wp2_with fail
                go_ret2
                exact ⟨_, by rw [hf.out]; rfl, Or.inr ⟨_, _, rfl⟩, (fun _ => by rw [e1.out, e2.out, e3.out]; exact .emi (hxx.out _ hw4.out)), hw4.out⟩
        have hf := hid (hK2.out.trans (show kB k s nb ne = false by unfold kB; rw [if_neg h1, if_neg h2, if_neg h3, if_neg h4]))
        have q1 : (k == 1) = false := beq_false_of_ne h1
        have q2 : (k == 2) = false := beq_false_of_ne h2
        have q3 : (k == 3) = false := beq_false_of_ne h3
        have q4 : (k == 4) = false := beq_false_of_ne h4
        clear h1 h2 h3 h4
        go_wp2_with fail
        go_ret2
        exact ⟨.nilIface, by rw [hf.out]; rfl, Or.inl rfl, (fun h => by rw [hf.out] at h; cases h), hw4.out⟩
end Go.Proofs.YtnmomlaimffonaaGreat.Sr
