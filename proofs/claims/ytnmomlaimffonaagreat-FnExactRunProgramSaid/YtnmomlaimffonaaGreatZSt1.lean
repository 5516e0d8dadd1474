/- Statements: their fields; measured. -/
import Derived.Test.YtnmomlaimffonaaGreatZGd
import Derived.Test.YtnmomlaimffonaaGreatZTr6
set_option maxHeartbeats 8000000
set_option maxRecDepth 100000
namespace Go.Proofs.YtnmomlaimffonaaGreat.Gd
open Go.RowKit Go.Lib Go.Sort Com Mem YtnmomlaimffonaaGreat.Os Tr
inductive IsSt : List D → Prop where
  | mk {k : Int} {s : List UInt8} {e : T} {bs es : List (List D)} (h1 : ∀ d ∈ bs, IsSt d) (h2 : ∀ d ∈ es, IsSt d) : IsSt [.i k, .s s, .x e, .sl 1 bs, .sl 1 es]
abbrev sc (k : Int) (s : List UInt8) (ek en : Int) (es : List UInt8) (A : Option Addr) (l c : Nat) (B : Option Addr) (lb cb : Nat) (C : Option Addr) (lc cc : Nat) : List Value :=
  [.int .i64 k, sv s, .int .i64 ek, .int .i64 en, sv es, .slice A l c, .slice B lb cb, .slice C lc cc]
theorem add_pos (a : Addr) (i : Nat) (h : 0 < i) : a.add i = ⟨a.block, a.off + i, none⟩ := by unfold Addr.add; rw [if_neg (by omega)]
theorem ld8 {w : World} {a : Addr} {c0 c1 c2 c3 c4 c5 c6 c7 : Value} (h : LdN w a [c0, c1, c2, c3, c4, c5, c6, c7]) :
    w.cell? a = some c0 ∧ w.cell? ⟨a.block, a.off + 1, none⟩ = some c1 ∧ w.cell? ⟨a.block, a.off + 2, none⟩ = some c2 ∧ w.cell? ⟨a.block, a.off + 3, none⟩ = some c3 ∧ w.cell? ⟨a.block, a.off + 4, none⟩ = some c4 ∧ w.cell? ⟨a.block, a.off + 5, none⟩ = some c5 ∧ w.cell? ⟨a.block, a.off + 6, none⟩ = some c6 ∧ w.cell? ⟨a.block, a.off + 7, none⟩ = some c7 := by
  have g : ∀ i u, 0 < i → [c0, c1, c2, c3, c4, c5, c6, c7][i]? = some u → w.cell? ⟨a.block, a.off + i, none⟩ = some u := fun i u hi hu => by rw [← add_pos a i hi]; exact h i u hu
  exact ⟨h 0 c0 rfl, g 1 c1 (by omega) rfl, g 2 c2 (by omega) rfl, g 3 c3 (by omega) rfl, g 4 c4 (by omega) rfl, g 5 c5 (by omega) rfl, g 6 c6 (by omega) rfl, g 7 c7 (by omega) rfl⟩
theorem eight {w : World} {g ty : Nat} {c0 c1 c2 c3 c4 c5 c6 c7 : Value} (h : Blk w g ty [c0, c1, c2, c3, c4, c5, c6, c7]) :
    w.cell? ⟨g, 0, none⟩ = some c0 ∧ w.cell? ⟨g, 1, none⟩ = some c1 ∧ w.cell? ⟨g, 2, none⟩ = some c2 ∧ w.cell? ⟨g, 3, none⟩ = some c3 ∧ w.cell? ⟨g, 4, none⟩ = some c4 ∧ w.cell? ⟨g, 5, none⟩ = some c5 ∧ w.cell? ⟨g, 6, none⟩ = some c6 ∧ w.cell? ⟨g, 7, none⟩ = some c7 :=
  ⟨h.cell 0, h.cell 1, h.cell 2, h.cell 3, h.cell 4, h.cell 5, h.cell 6, h.cell 7⟩
theorem box8 {w : World} {o : Obj} : Below w.heap.size w (w.alloc o) := (Below.refl _ _).alloc (Nat.le_refl _) _
theorem st_inv {w : World} {B : Nat} {cs : List Value} {k : Int} {s : List UInt8} {e : T} {bs es : List (List D)} (h : Rd8 w B cs [.i k, .s s, .x e, .sl 1 bs, .sl 1 es]) :
    ∃ ek en en' A l c Bb cb C cc rb rc, cs = sc k s ek en en' A l c Bb bs.length cb C es.length cc ∧ s.length ≤ maxI ∧ Ex w B (nv ek en en' A l c) e ∧ Row w B 1 Bb bs rb ∧ bs.length ≤ maxI ∧ Row w B 1 C es rc ∧ es.length ≤ maxI := by
  obtain ⟨r1, rfl, h1⟩ := h.i_
  obtain ⟨r2, rfl, hs, h2⟩ := h1.s_
  obtain ⟨ek, en, en', A, l, c, r3, rfl, he, h3⟩ := h2.x_
  obtain ⟨Bb, cb, r4, rb, rfl, hb, hlb, h4⟩ := h3.sl_
  obtain ⟨C, cc, r5, rc, rfl, hc, hlc, h5⟩ := h4.sl_
  obtain rfl := h5.nil_
  exact ⟨ek, en, en', A, l, c, Bb, cb, C, cc, rb, rc, rfl, hs, he, hb, hlb, hc, hlc⟩
theorem szAns_cases (tot : Nat) (left : Int) : (szAns tot left = -1 ∧ left < tot) ∨ (szAns tot left = left - tot ∧ (tot : Int) ≤ left) := by
  unfold szAns
  by_cases h : (tot : Int) ≤ left
  · rw [if_pos h]; exact Or.inr ⟨rfl, h⟩
  · rw [if_neg h]; exact Or.inl ⟨rfl, by omega⟩
theorem szR_st (k : Int) (s : List UInt8) (e : T) (bs es : List (List D)) : szDR [.i k, .s s, .x e, .sl 1 bs, .sl 1 es] = s.length + szT e + (bs.length + szDL bs) + (es.length + szDL es) := by
  simp only [szDR, szD]; omega
def SzSt (ds : List D) : Prop := ∀ (left : Int) (cs : List Value) (w : World), Rd8 w w.heap.size cs ds → 0 ≤ left → left ≤ 1048576 → Calls Tryz.prog 69 #[.agg cs.toArray, .int .i64 left] w fun e w' => e = .returned (.int .i64 (szAns (szDR ds) left)) ∧ Below w.heap.size w w'
theorem szStS (L : List (List D)) (hst : ∀ d ∈ L, IsSt d) (ih : ∀ d ∈ L, SzSt d) (A : Option Addr) (c : Nat) (left : Int) (rows : Nat → List Value) (w : World) (hk : Row w w.heap.size 1 A L rows) (hl : L.length ≤ maxI) (h0 : 0 ≤ left) (h1 : left ≤ 1048576) :
    Calls Tryz.prog 41 #[.slice A L.length c, .int .i64 left] w fun e w' => e = .returned (.int .i64 (szAns (L.length + szDL L) left)) ∧ Below w.heap.size w w' := by
  have hl' : L.length ≤ 9223372036854775807 := hl
  have t0' : wrap64 (left - (L.length : Int)) = left - (L.length : Int) := by unfold wrap64; omega
  by_cases hbig : left < L.length
  · have t0 : decide (left - (L.length : Int) < 0) = true := decide_eq_true (by omega)
    have hf := hid (show szAns (L.length + szDL L) left = -1 by unfold szAns; rw [if_neg (by omega)])
    go_enter Tryz.func41, Tryz.ntmps41
    go_wp2_with fail
    go_ret
    exact ⟨by rw [hf.out]; rfl, Below.refl _ _⟩
  have t0 : decide (left - (L.length : Int) < 0) = false := decide_eq_false (by omega)
  have hn := hid (show szDL (L.take 0) = 0 by simp [szDL])
  generalize hL : L.length = n at *
  go_enter Tryz.func41, Tryz.ntmps41
  go_wp2_with fail
  go_loopw [1, 5] (fun a i wr => ∃ m : Nat, m ≤ n ∧ i = .int .i64 m ∧ a = .int .i64 (left - (n : Int) - (szDL (L.take m) : Int)) ∧ (szDL (L.take m) : Int) ≤ left - n ∧ Below w.heap.size w wr) (fun _ i _ => n - (Go.RowKit.intOf i).toNat)
  case atStart => exact ⟨0, Nat.zero_le _, rfl, by rw [hn.out]; simp, by rw [hn.out]; omega, Below.refl _ _⟩
  case round =>
    obtain ⟨m, hm, rfl, rfl, hs, hb⟩ := hrel
    by_cases hlt : m < n
    · have hkr := hk.go hb
      obtain ⟨_, ad, rfl, _, hld⟩ := hkr.cell m (by omega)
      have hld : LdN wr (ad.add (m * 8)) (rows m) := hld
      have hu : L[m]? = some L[m] := List.getElem?_eq_getElem (by omega)
      have hkid := hkr.kid m _ hu
      have hmem : L[m] ∈ L := List.getElem_mem _
      have hst1 := hid (szDL_take (l := L) (m := m) (by omega))
      have hle := hid (szDL_le L (m + 1))
      have hck := ih _ hmem (left - (n : Int) - (szDL (L.take m) : Int)) _ wr hkid (by omega) (by omega)
      have hI := hst _ hmem
      generalize L[m] = ds at *
      cases hI with
      | @mk k s e bs es g1 g2 =>
        obtain ⟨ek, en, en', A1, l1, c1, Bb, cb, C1, cc, rb, rc, e8, -, -, -, -, -, -⟩ := st_inv hkid
        rw [e8] at hck hld
        obtain ⟨k0, k1, k2, k3, k4, k5, k6, k7⟩ := ld8 hld
        generalize szDR [.i k, .s s, .x e, .sl 1 bs, .sl 1 es] = tot at *
        replace hck := hid hck
        have hb := hid hb
        clear hkid hkr e8 hld g1 g2 hmem hu
        rcases szAns_cases tot (left - (n : Int) - (szDL (L.take m) : Int)) with ⟨hq, hno⟩ | ⟨hq, hfit⟩
        · rw [hq] at hck
          have hf := hid (show szAns (n + szDL L) left = -1 by
            have h1 := hle.out
            rw [hst1.out] at h1
            unfold szAns; rw [if_neg (by omega)])
          clear hq
          go_wp2_with fail
          refine hck.out.mono ?_
          rintro e w2 ⟨rfl, hb2⟩
          have hb2 := hid (hb.out.trans (hb2.mono hb.out.size))
          go_wp2_with fail
          go_ret
          exact ⟨by rw [hf.out]; rfl, hb2.out⟩
        · rw [hq] at hck
          have tq : decide (left - (n : Int) - (szDL (L.take m) : Int) - (tot : Int) < 0) = false := decide_eq_false (by omega)
          clear hq
          go_wp2_with fail
          refine hck.out.mono ?_
          rintro e w2 ⟨rfl, hb2⟩
          have hb2 := hid (hb.out.trans (hb2.mono hb.out.size))
          go_wp2_with fail
          exact ⟨⟨m + 1, hlt, by go_num, by rw [hst1.out]; congr 1; omega, by rw [hst1.out]; omega, hb2.out⟩, by simp [Go.RowKit.intOf]; omega⟩
    · obtain rfl : m = n := by omega
      have hf := hid (show szAns (m + szDL L) left = left - (m : Int) - (szDL (L.take m) : Int) by
        rw [List.take_of_length_le (by omega)] at hs ⊢
        unfold szAns; rw [if_pos (by omega)]; omega)
      go_wp2_with fail
      go_ret
      exact ⟨by rw [hf.out]; rfl, hb⟩
theorem szSt {ds : List D} (h : IsSt ds) : SzSt ds := by
  induction h with
  | @mk k s e bs es hb1 hb2 ih1 ih2 =>
    intro left cs w hv h0 h1
    obtain ⟨ek, en, en', A, l, c, Bb, cb, C, cc, rb, rc, rfl, hs, hx, hrb, hlb, hrc, hlc⟩ := st_inv hv
    have hs' : s.length ≤ 9223372036854775807 := hs
    have e1 : wrap64 (left - (s.length : Int)) = left - (s.length : Int) := by unfold wrap64; omega
    have hW : Below w.heap.size w (w.alloc (.cells (sc k s ek en en' A l c Bb bs.length cb C es.length cc).toArray 103)) := box8
    have hbx := hid (Blk.new w 103 (sc k s ek en en' A l c Bb bs.length cb C es.length cc))
    have cE := hid (fun lf wx (hb : Below w.heap.size w wx) h0 h1 => szE e lf _ wx (hx.go hb) h0 h1)
    have cB := hid (fun lf wx (hb : Below w.heap.size w wx) h0 h1 => szStS bs hb1 ih1 Bb cb lf rb wx (hrb.go hb) hlb h0 h1)
    have cC := hid (fun lf wx (hb : Below w.heap.size w wx) h0 h1 => szStS es hb2 ih2 C cc lf rc wx (hrc.go hb) hlc h0 h1)
    have hsz := hid (szR_st k s e bs es)
    have hW := hid hW
    generalize szDR [.i k, .s s, .x e, .sl 1 bs, .sl 1 es] = tot at *
    generalize szT e = te at *
    generalize bs.length + szDL bs = tb at *
    generalize es.length + szDL es = tc at *
    clear hx hrb hrc hlb hlc hv ih1 ih2 hb1 hb2
    by_cases hbig : left < s.length
    · have t0 : decide (left - (s.length : Int) < 0) = true := decide_eq_true (by omega)
      have hf := hid (show szAns tot left = -1 by have := hsz.out; unfold szAns; rw [if_neg (by omega)])
      go_enter Tryz.func69, Tryz.ntmps69
      go_wp2_with fail
      go_ret
      exact ⟨by rw [hf.out]; rfl, hW.out⟩
    have t0 : decide (left - (s.length : Int) < 0) = false := decide_eq_false (by omega)
    go_enter Tryz.func69, Tryz.ntmps69
    obtain ⟨k0, k1, k2, k3, k4, k5, k6, k7⟩ := eight hbx.out
    go_wp2_with fail
    generalize (w.alloc (.cells #[.int .i64 k, sv s, .int .i64 ek, .int .i64 en, sv en', .slice A l c, .slice Bb bs.length cb, .slice C es.length cc] 103)) = w1 at *
    refine (cE.out _ w1 hW.out (by omega) (by omega)).mono ?_
    rintro e2 w2 ⟨rfl, hb⟩
    have hW2 := hid (hW.out.trans (hb.mono hW.out.size))
    have hbx2 := hid (hbx.out.below hb hbx.out.lt)
    clear hb k0 k1 k2 k3 k4 k5 k6 k7
    obtain ⟨k0, k1, k2, k3, k4, k5, k6, k7⟩ := eight hbx2.out
    rcases szAns_cases te (left - (s.length : Int)) with ⟨hq, hno⟩ | ⟨hq, hfit⟩
    · rw [hq]
      have hf := hid (show szAns tot left = -1 by have := hsz.out; unfold szAns; rw [if_neg (by omega)])
      go_wp2_with fail
      go_ret
      exact ⟨by rw [hf.out]; rfl, hW2.out⟩
    rw [hq]
    have t1 : decide (left - (s.length : Int) - (te : Int) < 0) = false := decide_eq_false (by omega)
    clear hq
    go_wp2_with fail
    refine (cB.out _ w2 hW2.out (by omega) (by omega)).mono ?_
    rintro e3 w3 ⟨rfl, hb⟩
    have hW3 := hid (hW2.out.trans (hb.mono hW2.out.size))
    have hbx3 := hid (hbx2.out.below hb hbx2.out.lt)
    clear hb k0 k1 k2 k3 k4 k5 k6 k7
    obtain ⟨k0, k1, k2, k3, k4, k5, k6, k7⟩ := eight hbx3.out
    rcases szAns_cases tb (left - (s.length : Int) - (te : Int)) with ⟨hq, hno⟩ | ⟨hq, hfit2⟩
    · rw [hq]
      have hf := hid (show szAns tot left = -1 by have := hsz.out; unfold szAns; rw [if_neg (by omega)])
      go_wp2_with fail
      go_ret
      exact ⟨by rw [hf.out]; rfl, hW3.out⟩
    rw [hq]
    have t2 : decide (left - (s.length : Int) - (te : Int) - (tb : Int) < 0) = false := decide_eq_false (by omega)
    clear hq
    go_wp2_with fail
    refine (cC.out _ w3 hW3.out (by omega) (by omega)).mono ?_
    rintro e4 w4 ⟨rfl, hb⟩
    have hW4 := hid (hW3.out.trans (hb.mono hW3.out.size))
    clear hb k0 k1 k2 k3 k4 k5 k6 k7
    rcases szAns_cases tc (left - (s.length : Int) - (te : Int) - (tb : Int)) with ⟨hq, hno⟩ | ⟨hq, hfit3⟩
    · rw [hq]
      have hf := hid (show szAns tot left = -1 by have := hsz.out; unfold szAns; rw [if_neg (by omega)])
      go_wp2_with fail
      go_ret
      exact ⟨by rw [hf.out]; rfl, hW4.out⟩
    rw [hq]
    have t3 : decide (left - (s.length : Int) - (te : Int) - (tb : Int) - (tc : Int) < 0) = false := decide_eq_false (by omega)
    have hf := hid (show szAns tot left = left - (s.length : Int) - (te : Int) - (tb : Int) - (tc : Int) by have := hsz.out; unfold szAns; rw [if_pos (by omega)]; omega)
    clear hq
    go_wp2_with fail
    go_ret
    exact ⟨by rw [hf.out]; rfl, hW4.out⟩
inductive St where
  | mk (k : Int) (s : List UInt8) (e : T) (bs es : List St)
theorem St.ind {P : St → Prop} (h : ∀ k s e bs es, (∀ a ∈ bs, P a) → (∀ a ∈ es, P a) → P (.mk k s e bs es)) : ∀ t, P t
  | .mk k s e bs es => h k s e bs es
      (fun a ha => by have := List.sizeOf_lt_of_mem ha; exact St.ind h a)
      (fun a ha => by have := List.sizeOf_lt_of_mem ha; exact St.ind h a)
termination_by t => SizeOf.sizeOf t
decreasing_by all_goals (simp only [St.mk.sizeOf_spec]; omega)
def St.d : St → List D
  | .mk k s e bs es => [.i k, .s s, .x e, .sl 1 (bs.attach.map fun ⟨a, _⟩ => a.d), .sl 1 (es.attach.map fun ⟨a, _⟩ => a.d)]
termination_by t => SizeOf.sizeOf t
decreasing_by all_goals (have := List.sizeOf_lt_of_mem ‹_›; simp only [St.mk.sizeOf_spec]; omega)
abbrev dl (L : List St) : List (List D) := L.map St.d
theorem St.d_mk (k : Int) (s : List UInt8) (e : T) (bs es : List St) : (St.mk k s e bs es).d = [.i k, .s s, .x e, .sl 1 (dl bs), .sl 1 (dl es)] := by
  rw [St.d]; simp
theorem St.is (t : St) : IsSt t.d := by
  induction t using St.ind with
  | h k s e bs es h1 h2 =>
    rw [St.d_mk]
    refine .mk (fun d hd => ?_) (fun d hd => ?_)
    · obtain ⟨a, ha, rfl⟩ := List.mem_map.1 hd
      exact h1 a ha
    · obtain ⟨a, ha, rfl⟩ := List.mem_map.1 hd
      exact h2 a ha
theorem dl_is (L : List St) : ∀ d ∈ dl L, IsSt d := fun d hd => by
  obtain ⟨a, _, rfl⟩ := List.mem_map.1 hd
  exact a.is
mutual
def cntSt : St → Nat
  | .mk _ _ _ bs es => 1 + cntL bs + cntL es
def cntL : List St → Nat
  | [] => 0
  | a :: r => cntSt a + cntL r
end
theorem cntL_take {L : List St} {m : Nat} (h : m < L.length) : cntL (L.take (m + 1)) = cntL (L.take m) + cntSt L[m] := by
  induction L generalizing m with
  | nil => simp at h
  | cons e r ih =>
    cases m with
    | zero => simp [cntL]
    | succ m =>
      simp only [List.take_succ_cons, cntL, List.getElem_cons_succ]
      rw [ih (by simpa using h)]; omega
theorem cntL_le (L : List St) (m : Nat) : cntL (L.take m) ≤ cntL L := by
  induction L generalizing m with
  | nil => simp
  | cons e r ih =>
    cases m with
    | zero => simp [cntL]
    | succ m => simp only [List.take_succ_cons, cntL]; have := ih m; omega
theorem cntSt_mem {L : List St} {a : St} (h : a ∈ L) : cntSt a ≤ cntL L := by
  induction L with
  | nil => cases h
  | cons b r ih =>
    simp only [cntL]
    rcases List.mem_cons.1 h with rfl | h
    · omega
    · have := ih h; omega
theorem len_cntL (L : List St) : L.length ≤ cntL L := by
  induction L with
  | nil => simp
  | cons b r ih =>
    obtain ⟨k, s, e, bs, es⟩ := b
    simp only [cntL, cntSt, List.length_cons]; omega
theorem cnt_szDL (L : List St) : cntL L ≤ szDL (dl L) + L.length := by
  have key : ∀ t : St, cntSt t ≤ 1 + szDR t.d := fun t => by
    induction t using St.ind with
    | h k s e bs es h1 h2 =>
      have hs : ∀ L : List St, (∀ a ∈ L, cntSt a ≤ 1 + szDR a.d) → cntL L ≤ L.length + szDL (dl L) := fun L hL => by
        induction L with
        | nil => simp [cntL]
        | cons b r ih =>
          have := hL b (by simp)
          have := ih fun a ha => hL a (by simp [ha])
          simp only [cntL, List.length_cons, dl, List.map_cons, szDL] at *
          omega
      have := hs bs h1
      have := hs es h2
      rw [St.d_mk, szR_st]
      simp only [cntSt, dl, List.length_map] at *
      omega
  induction L with
  | nil => simp [cntL]
  | cons b r ih =>
    have := key b
    simp only [cntL, List.length_cons, dl, List.map_cons, szDL] at *
    omega
theorem Row.st {w : World} {B : Nat} {A : Option Addr} {L : List St} {rows : Nat → List Value} (h : Row w B 1 A (dl L) rows) {m : Nat} (hm : m < L.length) :
    ∃ ad k s e bs es ek en en' A1 l1 c1 Bb cb C cc rb rc, A = some ad ∧ ad.block < B ∧ L[m] = .mk k s e bs es ∧
      LdN w (ad.add (m * 8)) (sc k s ek en en' A1 l1 c1 Bb bs.length cb C es.length cc) ∧ s.length ≤ maxI ∧ Ex w B (nv ek en en' A1 l1 c1) e ∧ Row w B 1 Bb (dl bs) rb ∧ bs.length ≤ maxI ∧ Row w B 1 C (dl es) rc ∧ es.length ≤ maxI := by
  obtain ⟨_, ad, hA, hB, hld⟩ := h.cell m (by simpa using hm)
  have hk := h.kid m L[m].d (by simp [hm])
  generalize hT : L[m] = t at *
  obtain ⟨k, s, e, bs, es⟩ := t
  rw [St.d_mk] at hk
  obtain ⟨ek, en, en', A1, l1, c1, Bb, cb, C, cc, rb, rc, e8, hs, hx, hb, hlb, hc, hlc⟩ := st_inv hk
  rw [e8] at hld
  simp only [List.length_map] at hld hlb hlc
  exact ⟨ad, k, s, e, bs, es, ek, en, en', A1, l1, c1, Bb, cb, C, cc, rb, rc, hA, hB, rfl, hld, hs, hx, hb, hlb, hc, hlc⟩
abbrev SI : TypeId := 94
theorem zeroSt : (Tryz.prog.info? SI).map (fun i => (i.zero, i.size, i.bytes)) = some (some (.agg (sc 0 [] 0 0 [] none 0 0 none 0 0 none 0 0).toArray), 8, 128) := by kernel_rfl
theorem OwnD.app_sl {w : World} {R R1 R2 : Nat → Prop} {v : Value} {n : Nat} {l : List (List D)} {cs : List Value} {ds : List D} (h1 : OwnD w R1 [v] [.sl n l]) (h2 : OwnD w R2 cs ds) (hd : ∀ g, R1 g → R g ∧ ¬ R2 g) (hs : ∀ g, R2 g → R g) : OwnD w R (v :: cs) (.sl n l :: ds) := by
  cases h1 with
  | sl rows Rs hl hc h0 hA hk hR' hd' h2' r =>
    refine .sl (R2 := R2) rows Rs hl hc h0 (fun ad e => ?_) hk (fun j g hj hg => hd g (hR' j g hj hg).1) hd' hs h2
    obtain ⟨g, cs0, e1, h3, h4, h5, h6, h7⟩ := hA ad e
    exact ⟨g, cs0, e1, (hd g h3).1, (hd g h3).2, h5, h6, h7⟩
theorem own_st8 {w : World} {R : Nat → Prop} {cs : List Value} {k : Int} {s : List UInt8} {e : T} {bs es : List (List D)} (h : OwnD w R cs [.i k, .s s, .x e, .sl 1 bs, .sl 1 es]) :
    ∃ ek en en' A l c Bb cb C cc, cs = sc k s ek en en' A l c Bb bs.length cb C es.length cc := by
  obtain ⟨ek, en, en', A, l, c, Bb, cb, C, cc, rb, rc, e8, _⟩ := st_inv h.rd
  exact ⟨ek, en, en', A, l, c, Bb, cb, C, cc, e8⟩
theorem own_st {w : World} {lo hi a1 b1 a2 b2 a3 b3 : Nat} {k ek en : Int} {s en' : List UInt8} {A Bb C : Option Addr} {l c lb cb lc cc : Nat} {e : T} {bs es : List (List D)} (hs : s.length ≤ maxI)
    (h1 : OwnX a1 b1 w (nv ek en en' A l c) e) (h2 : OwnD w (Iv a2 b2) [.slice Bb lb cb] [.sl 1 bs]) (h3 : OwnD w (Iv a3 b3) [.slice C lc cc] [.sl 1 es]) (q1 : lo ≤ a1) (q2 : b1 ≤ a2) (q3 : b2 ≤ a3) (q4 : b3 ≤ hi) (q5 : a1 ≤ b1) (q6 : a2 ≤ b2) (q7 : a3 ≤ b3) :
    OwnD w (Iv lo hi) (sc k s ek en en' A l c Bb lb cb C lc cc) [.i k, .s s, .x e, .sl 1 bs, .sl 1 es] := by
  refine .i (.s hs (.x (R2 := Iv a2 hi) h1 (fun g hg => ?_) (fun g hg => ?_) (OwnD.app_sl (R2 := Iv a3 hi) h2 (OwnD.app_sl (R2 := fun _ => False) h3 .nil (fun g hg => ?_) (fun g hg => hg.elim)) (fun g hg => ?_) (fun g hg => ?_))))
  · have := hg.1; have := hg.2
    exact ⟨⟨by omega, by omega⟩, fun h => by have := h.1; omega⟩
  · have := hg.1; have := hg.2
    exact ⟨by omega, by omega⟩
  · have := hg.1; have := hg.2
    exact ⟨⟨by omega, by omega⟩, id⟩
  · have := hg.1; have := hg.2
    exact ⟨⟨by omega, by omega⟩, fun h => by have := h.1; omega⟩
  · have := hg.1; have := hg.2
    exact ⟨by omega, by omega⟩
def ToSt (ds : List D) : Prop := ∀ (cs : List Value) (w : World), Rd8 w w.heap.size cs ds → szDR ds ≤ 1048576 → Calls Tryz.prog 70 #[.agg cs.toArray] w fun e w' => ∃ cs', e = .returned (.agg cs'.toArray) ∧ OwnD w' (Iv w.heap.size w'.heap.size) cs' ds ∧ Below w.heap.size w w'
theorem toStS (L : List (List D)) (hst : ∀ d ∈ L, IsSt d) (ih : ∀ d ∈ L, ToSt d) (A : Option Addr) (c : Nat) (rows : Nat → List Value) (w : World) (hk : Row w w.heap.size 1 A L rows) (hl : L.length ≤ 1048576) (hsz : szDL L ≤ 1048576) :
    Calls Tryz.prog 43 #[.slice A L.length c] w fun e w' => e = .returned (.slice (some ⟨w.heap.size, 0, none⟩) L.length L.length) ∧ OwnD w' (Iv w.heap.size w'.heap.size) [.slice (some ⟨w.heap.size, 0, none⟩) L.length L.length] [.sl 1 L] ∧ Below w.heap.size w w' := by
  obtain ⟨cs0, hl0, hmk⟩ := run_makeN w 25 SI _ 8 128 Tryz.underlying25 zeroSt L.length (by omega) (by omega)
  have hb0 := hid (Blk.new w SI cs0)
  have hl0 := hid hl0
  have hll := hl
  generalize hL : L.length = N at *
  go_enter Tryz.func43, Tryz.ntmps43
  go_wp2_with fail
  go_loopw [4] (fun i wr => ∃ (m : Nat) (cs : List Value) (rows' : Nat → List Value) (ls hs : Nat → Nat), m ≤ N ∧ i = .int .i64 m ∧ Blk wr w.heap.size SI cs ∧ cs.length = N * 8 ∧ RowsN 8 cs m rows' ∧ KidsD wr w.heap.size 8 rows' ls hs L m ∧ Below w.heap.size w wr) (fun i _ => N - (Go.RowKit.intOf i).toNat)
  case atStart => exact ⟨0, cs0, fun _ => [], fun _ => 0, fun _ => 0, Nat.zero_le _, rfl, hb0.out, hl0.out, fun j hj => by omega, ⟨fun j hj => by omega, fun i j _ hj => by omega, fun j a hj => by omega⟩, (Below.refl _ _).alloc (Nat.le_refl _) _⟩
  case round =>
    obtain ⟨m, cs, rows', ls, hs, hm, rfl, hblk, hcl, hrow, hko, hb⟩ := hrel
    by_cases hlt : m < N
    · have hkr := hk.go hb
      obtain ⟨_, ad, rfl, _, hld⟩ := hkr.cell m (by omega)
      have hld : LdN wr (ad.add (m * 8)) (rows m) := hld
      have hu : L[m]? = some L[m] := List.getElem?_eq_getElem (by omega)
      have hkid := hkr.kid m _ hu
      have hI := hst L[m] (List.getElem_mem _)
      have hck := ih L[m] (List.getElem_mem _) _ wr hkid (Nat.le_trans (szDL_mem (List.getElem_mem _)) hsz)
      generalize hds : L[m] = ds at *
      cases hI with
      | @mk k s e bs es g1 g2 =>
        obtain ⟨ek, en, en', A1, l1, c1, Bb, cb, C1, cc, rb, rc, e8, -, -, -, -, -, -⟩ := st_inv hkid
        rw [e8] at hck hld
        obtain ⟨k0, k1, k2, k3, k4, k5, k6, k7⟩ := ld8 hld
        have hu := hid hu
        have hcl := hid hcl
        have hrow := hid hrow
        have hko := hid hko
        have hb := hid hb
        have hblk := hid hblk
        replace hck := hid hck
        clear hkid hkr e8 hld g1 g2 hds
        go_wp2_with fail
        refine hck.out.mono ?_
        rintro e w2 ⟨cs', rfl, ho, hb2⟩
        obtain ⟨fk, fn, fs, A2, l2, c2, B2, cb2, C2, cc2, rfl⟩ := own_st8 ho
        have hblk2 := hblk.out.below hb2 hblk.out.lt
        obtain ⟨x0, q0⟩ := blk_old hblk2 (m * 8) (by rw [hcl.out]; omega)
        obtain ⟨x1, q1⟩ := blk_old hblk2 (m * 8 + 1) (by rw [hcl.out]; omega)
        obtain ⟨x2, q2⟩ := blk_old hblk2 (m * 8 + 2) (by rw [hcl.out]; omega)
        obtain ⟨x3, q3⟩ := blk_old hblk2 (m * 8 + 3) (by rw [hcl.out]; omega)
        obtain ⟨x4, q4⟩ := blk_old hblk2 (m * 8 + 4) (by rw [hcl.out]; omega)
        obtain ⟨x5, q5⟩ := blk_old hblk2 (m * 8 + 5) (by rw [hcl.out]; omega)
        obtain ⟨x6, q6⟩ := blk_old hblk2 (m * 8 + 6) (by rw [hcl.out]; omega)
        obtain ⟨x7, q7⟩ := blk_old hblk2 (m * 8 + 7) (by rw [hcl.out]; omega)
        have f0 := hblk2.frozen (m * 8)
        have f1 := hblk2.frozen (m * 8 + 1)
        have f2 := hblk2.frozen (m * 8 + 2)
        have f3 := hblk2.frozen (m * 8 + 3)
        have f4 := hblk2.frozen (m * 8 + 4)
        have f5 := hblk2.frozen (m * 8 + 5)
        have f6 := hblk2.frozen (m * 8 + 6)
        have f7 := hblk2.frozen (m * 8 + 7)
        have z1 := hid (putN_blk (sc k s fk fn fs A2 l2 c2 B2 bs.length cb2 C2 es.length cc2) (m * 8) hblk2)
        have z2 := hid (hrow.out.set (sc k s fk fn fs A2 l2 c2 B2 bs.length cb2 C2 es.length cc2) rfl (by rw [hcl.out]; omega))
        have z3 := hid ((hko.out.step hb2 hblk.out.lt hu.out ho).far (putN_size (sc k s fk fn fs A2 l2 c2 B2 bs.length cb2 C2 es.length cc2) w2 w.heap.size (m * 8)) (putN_far _ _ _ _))
        have z4 := hid (putN_below (sc k s fk fn fs A2 l2 c2 B2 bs.length cb2 C2 es.length cc2) (m * 8) (hb.out.trans (hb2.mono hb.out.size)) (Nat.le_refl _))
        clear ho hb2 hblk2
        go_wp2_with fail
        exact ⟨⟨m + 1, _, _, _, _, hlt, by go_num, z1.out, by rw [setN_len]; exact hcl.out, z2.out, z3.out, z4.out⟩, by simp [Go.RowKit.intOf]; omega⟩
    · obtain rfl : m = N := by omega
      subst hL
      have hw := hid (KidsD.own (n := 1) (lo := w.heap.size) (by unfold maxLen; omega) hko hblk hrow (Nat.le_refl _) rfl (fun _ _ => rfl))
      have hb := hid hb
      clear hcl hko hblk hrow
      go_wp2_with fail
      go_ret
      exact ⟨rfl, hw.out, hb.out⟩
abbrev T3 (w : World) (cs : List Value) (k : Int) (s : List UInt8) : World :=
  ((w.alloc (.cells cs.toArray 103)).alloc (.cells (sc 0 [] 0 0 [] none 0 0 none 0 0 none 0 0).toArray SI)).alloc (.cells (sc k s 0 0 [] none 0 0 none 0 0 none 0 0).toArray SI)
theorem t3_size (w : World) (cs : List Value) (k : Int) (s : List UInt8) : (T3 w cs k s).heap.size = w.heap.size + 1 + 1 + 1 := by rw [size_alloc', size_alloc', size_alloc']
theorem t3_below (w : World) (cs : List Value) (k : Int) (s : List UInt8) : Below w.heap.size w (T3 w cs k s) :=
  (((Below.refl _ _).alloc (Nat.le_refl _) _).alloc (by rw [size_alloc']; omega) _).alloc (by rw [size_alloc', size_alloc']; omega) _
theorem t3_blk (w : World) (cs : List Value) (k : Int) (s : List UInt8) : Blk (T3 w cs k s) w.heap.size 103 cs ∧ Blk (T3 w cs k s) (w.heap.size + 1) SI (sc 0 [] 0 0 [] none 0 0 none 0 0 none 0 0) ∧ Blk (T3 w cs k s) (w.heap.size + 1 + 1) SI (sc k s 0 0 [] none 0 0 none 0 0 none 0 0) := by
  have h0 := Blk.new w 103 cs
  have h1 := Blk.new (w.alloc (.cells cs.toArray 103)) SI (sc 0 [] 0 0 [] none 0 0 none 0 0 none 0 0)
  have h2 := Blk.new ((w.alloc (.cells cs.toArray 103)).alloc (.cells (sc 0 [] 0 0 [] none 0 0 none 0 0 none 0 0).toArray SI)) SI (sc k s 0 0 [] none 0 0 none 0 0 none 0 0)
  rw [size_alloc'] at h1
  rw [size_alloc', size_alloc'] at h2
  exact ⟨(h0.alloc _).alloc _, h1.alloc _, h2⟩
theorem toSt {ds : List D} (h : IsSt ds) : ToSt ds := by
  induction h with
  | @mk k s e bs es hb1 hb2 ih1 ih2 =>
    intro cs w hv hsz
    obtain ⟨ek, en, en', A, l, c, Bb, cb, C, cc, rb, rc, rfl, hs, hx, hrb, hlb, hrc, hlc⟩ := st_inv hv
    rw [szR_st] at hsz
    have B3 := t3_below w (sc k s ek en en' A l c Bb bs.length cb C es.length cc) k s
    have S3 := t3_size w (sc k s ek en en' A l c Bb bs.length cb C es.length cc) k s
    obtain ⟨bx, r1, r2⟩ := t3_blk w (sc k s ek en en' A l c Bb bs.length cb C es.length cc) k s
    have cE := hid (toE e _ _ (hx.go B3) (by omega))
    have cB := hid (fun wx (hb : Below w.heap.size w wx) => toStS bs hb1 ih1 Bb cb rb wx (hrb.go hb) (by omega) (by omega))
    have cC := hid (fun wx (hb : Below w.heap.size w wx) => toStS es hb2 ih2 C cc rc wx (hrc.go hb) (by omega) (by omega))
    replace B3 := hid B3
    replace bx := hid bx
    replace r1 := hid r1
    replace r2 := hid r2
    replace S3 := hid S3
    clear hv hx hrb hrc hsz ih1 ih2 hb1 hb2
    go_enter Tryz.func70, Tryz.ntmps70
    go_wp2_with fail
    refine cE.out.mono ?_
    rintro e4 w4 ⟨v4, rfl, o4, hb⟩
    obtain ⟨fk, fn, fs, A4, l4, c4, rfl⟩ := o4.form
    have z4 := hb.size
    rw [S3.out] at z4 o4
    have bx4 := bx.out.below hb (by rw [S3.out]; omega)
    have r14 := r1.out.below hb (by rw [S3.out]; omega)
    have r24 := r2.out.below hb (by rw [S3.out]; omega)
    have B4 := B3.out.trans (hb.mono B3.out.size)
    clear hb cE
    obtain ⟨k0, k1, k2, k3, k4, k5, k6, k7⟩ := eight bx4
    obtain ⟨p0, p1, p2, p3, p4, p5, p6, p7⟩ := eight r24
    have g2 := r24.frozen 2
    have g3 := r24.frozen 3
    have g4 := r24.frozen 4
    have g5 := r24.frozen 5
    /- the expression stored -/
    have r25 := putN_blk [.int .i64 fk, .int .i64 fn, sv fs, .slice A4 l4 c4] 2 r24
    have B5 := putN_below [.int .i64 fk, .int .i64 fn, sv fs, .slice A4 l4 c4] 2 B4 (g := w.heap.size + 1 + 1) (by omega)
    have far5 := putN_far [.int .i64 fk, .int .i64 fn, sv fs, .slice A4 l4 c4] w4 (w.heap.size + 1 + 1) 2
    have s5 := putN_size [.int .i64 fk, .int .i64 fn, sv fs, .slice A4 l4 c4] w4 (w.heap.size + 1 + 1) 2
    have bx5 : Blk (putN w4 (w.heap.size + 1 + 1) 2 [.int .i64 fk, .int .i64 fn, sv fs, .slice A4 l4 c4]) w.heap.size 103 _ := (far5 w.heap.size (by omega)).trans bx4
    have r15 : Blk (putN w4 (w.heap.size + 1 + 1) 2 [.int .i64 fk, .int .i64 fn, sv fs, .slice A4 l4 c4]) (w.heap.size + 1) SI _ := (far5 (w.heap.size + 1) (by omega)).trans r14
    have o5 : OwnX (w.heap.size + 1 + 1 + 1) w4.heap.size (putN w4 (w.heap.size + 1 + 1) 2 [.int .i64 fk, .int .i64 fn, sv fs, .slice A4 l4 c4]) _ e := o4.same fun q h1 h2 => far5 q (by omega)
    have r25 : Blk (putN w4 (w.heap.size + 1 + 1) 2 [.int .i64 fk, .int .i64 fn, sv fs, .slice A4 l4 c4]) (w.heap.size + 1 + 1) SI (sc k s fk fn fs A4 l4 c4 none 0 0 none 0 0) := r25
    have cB5 := hid (cB.out _ B5)
    replace bx5 := hid bx5
    replace r15 := hid r15
    replace r25 := hid r25
    replace B5 := hid B5
    replace o5 := hid o5
    replace s5 := hid s5
    clear r24 r14 bx4 B4 o4 cB far5
    go_wp2_with fail
    refine cB5.out.mono ?_
    rintro e6 w6 ⟨rfl, o6, hb⟩
    have z6 := hb.size
    have bx6 := bx5.out.below hb bx5.out.lt
    have r16 := r15.out.below hb r15.out.lt
    have r26 := r25.out.below hb r25.out.lt
    have B6 := B5.out.trans (hb.mono B5.out.size)
    have oE6 := o5.out.same (same_below hb (by rw [s5.out]; omega))
    rw [s5.out] at z6 o6
    have e6' : (putN w4 (w.heap.size + 1 + 1) 2 [.int .i64 fk, .int .i64 fn, sv fs, .slice A4 l4 c4]).heap.size = w4.heap.size := s5.out
    have z46 : w4.heap.size ≤ w6.heap.size := z6
    clear hb cB5 k0 k1 k2 k3 k4 k5 k6 k7 p0 p1 p2 p3 p4 p5 p6 p7 g2 g3 g4 g5 bx5 r15 r25 B5 o5
    obtain ⟨k0, k1, k2, k3, k4, k5, k6, k7⟩ := eight bx6
    obtain ⟨p0, p1, p2, p3, p4, p5, p6, p7⟩ := eight r26
    have g6 := r26.frozen 6
    rw [e6']
    generalize hG6 : w4.heap.size = q6 at *
    /- the body stored -/
    have far7 : ∀ q, q ≠ w.heap.size + 1 + 1 → (w6.setCell ⟨w.heap.size + 1 + 1, 6, none⟩ (.slice (some ⟨q6, 0, none⟩) bs.length bs.length)).heap[q]? = w6.heap[q]? := fun q hq => heap_setCell_other _ _ _ _ hq
    have s7 : (w6.setCell ⟨w.heap.size + 1 + 1, 6, none⟩ (.slice (some ⟨q6, 0, none⟩) bs.length bs.length)).heap.size = w6.heap.size := by simp [World.setCell]
    have B7 := B6.setCell (p := ⟨w.heap.size + 1 + 1, 6, none⟩) (show w.heap.size ≤ w.heap.size + 1 + 1 by omega) (.slice (some ⟨q6, 0, none⟩) bs.length bs.length)
    have r27 : Blk (w6.setCell ⟨w.heap.size + 1 + 1, 6, none⟩ (.slice (some ⟨q6, 0, none⟩) bs.length bs.length)) (w.heap.size + 1 + 1) SI (sc k s fk fn fs A4 l4 c4 (some ⟨q6, 0, none⟩) bs.length bs.length none 0 0) := r26.set_ 6 (.slice (some ⟨q6, 0, none⟩) bs.length bs.length)
    have bx7 : Blk (w6.setCell ⟨w.heap.size + 1 + 1, 6, none⟩ (.slice (some ⟨q6, 0, none⟩) bs.length bs.length)) w.heap.size 103 _ := (far7 w.heap.size (by omega)).trans bx6
    have r17 : Blk (w6.setCell ⟨w.heap.size + 1 + 1, 6, none⟩ (.slice (some ⟨q6, 0, none⟩) bs.length bs.length)) (w.heap.size + 1) SI _ := (far7 (w.heap.size + 1) (by omega)).trans r16
    have oE7 : OwnX (w.heap.size + 1 + 1 + 1) q6 (w6.setCell ⟨w.heap.size + 1 + 1, 6, none⟩ (.slice (some ⟨q6, 0, none⟩) bs.length bs.length)) _ e := oE6.same fun q h1 h2 => far7 q (by omega)
    have oB7 := o6.same fun q hq => far7 q (by have := hq.1; omega)
    have cC7 := hid (cC.out _ B7)
    rw [s7] at cC7
    replace bx7 := hid bx7
    replace r17 := hid r17
    replace r27 := hid r27
    replace B7 := hid B7
    replace oE7 := hid oE7
    replace oB7 := hid oB7
    replace s7 := hid s7
    clear r26 r16 bx6 B6 oE6 o6 cC far7
    go_wp2_with fail
    refine cC7.out.mono ?_
    rintro e8 w8 ⟨rfl, o8, hb⟩
    have z8 := hb.size
    rw [s7.out] at z8
    have r18 := r17.out.below hb (by omega)
    have r28 := r27.out.below hb (by omega)
    have B8 := B7.out.trans (hb.mono (by have := B7.out.size; rw [s7.out] at this; exact this))
    have oE8 := oE7.out.same (same_below hb (by omega))
    have oB8 := oB7.out.same fun q hq => hb.block q (by have := hq.2; omega)
    clear hb cC7 k0 k1 k2 k3 k4 k5 k6 k7 p0 p1 p2 p3 p4 p5 p6 p7 g6 bx7 r17 r27 B7 oE7 oB7
    obtain ⟨p0, p1, p2, p3, p4, p5, p6, p7⟩ := eight r28
    obtain ⟨m0, m1, m2, m3, m4, m5, m6, m7⟩ := eight r18
    have g7 := r28.frozen 7
    have f0 := r18.frozen 0
    have f1 := r18.frozen 1
    have f2 := r18.frozen 2
    have f3 := r18.frozen 3
    have f4 := r18.frozen 4
    have f5 := r18.frozen 5
    have f6 := r18.frozen 6
    have f7 := r18.frozen 7
    generalize hG8 : w6.heap.size = q8 at *
    have B9 := putN_below (sc k s fk fn fs A4 l4 c4 (some ⟨q6, 0, none⟩) bs.length bs.length (some ⟨q8, 0, none⟩) es.length es.length) 0 (B8.setCell (p := ⟨w.heap.size + 1 + 1, 7, none⟩) (show w.heap.size ≤ w.heap.size + 1 + 1 by omega) (.slice (some ⟨q8, 0, none⟩) es.length es.length)) (g := w.heap.size + 1) (by omega)
    have far9 : ∀ q, w.heap.size + 1 + 1 < q → (putN (w8.setCell ⟨w.heap.size + 1 + 1, 7, none⟩ (.slice (some ⟨q8, 0, none⟩) es.length es.length)) (w.heap.size + 1) 0 (sc k s fk fn fs A4 l4 c4 (some ⟨q6, 0, none⟩) bs.length bs.length (some ⟨q8, 0, none⟩) es.length es.length)).heap[q]? = w8.heap[q]? := fun q hq => (putN_far _ _ _ _ _ (by omega)).trans (heap_setCell_other _ _ _ _ (by show q ≠ w.heap.size + 1 + 1; omega))
    have s9 : (putN (w8.setCell ⟨w.heap.size + 1 + 1, 7, none⟩ (.slice (some ⟨q8, 0, none⟩) es.length es.length)) (w.heap.size + 1) 0 (sc k s fk fn fs A4 l4 c4 (some ⟨q6, 0, none⟩) bs.length bs.length (some ⟨q8, 0, none⟩) es.length es.length)).heap.size = w8.heap.size := by rw [putN_size]; simp [World.setCell]
    have r19 : Blk (putN (w8.setCell ⟨w.heap.size + 1 + 1, 7, none⟩ (.slice (some ⟨q8, 0, none⟩) es.length es.length)) (w.heap.size + 1) 0 (sc k s fk fn fs A4 l4 c4 (some ⟨q6, 0, none⟩) bs.length bs.length (some ⟨q8, 0, none⟩) es.length es.length)) (w.heap.size + 1) SI (sc k s fk fn fs A4 l4 c4 (some ⟨q6, 0, none⟩) bs.length bs.length (some ⟨q8, 0, none⟩) es.length es.length) :=
      putN_blk (sc k s fk fn fs A4 l4 c4 (some ⟨q6, 0, none⟩) bs.length bs.length (some ⟨q8, 0, none⟩) es.length es.length) 0 (r18.far (p := ⟨w.heap.size + 1 + 1, 7, none⟩) (show w.heap.size + 1 ≠ w.heap.size + 1 + 1 by omega) (.slice (some ⟨q8, 0, none⟩) es.length es.length))
    have own := hid (own_st (k := k) (lo := w.heap.size) (hi := w8.heap.size) hs (oE8.same fun q h1 h2 => far9 q (by omega)) (oB8.same fun q hq => far9 q (by have := hq.1; omega)) (o8.same fun q hq => far9 q (by have := hq.1; omega)) (by omega) (Nat.le_refl _) (Nat.le_refl _) (Nat.le_refl _) (by omega) (by omega) (by omega))
    rw [← s9] at own
    replace r19 := hid r19
    replace B9 := hid B9
    clear r18 r28 B8 oE8 oB8 o8 far9 s9
    go_wp2_with fail
    exact bodyPost_ret (results_cell_row Tryz.results70 _ _ (w.heap.size + 1) SI _ (0, 0) _ rfl r19.out Tryz.underlying94 rfl (by kernel_rfl)) rfl ⟨_, rfl, own.out, B9.out⟩
def EqSt (ds : List D) : Prop := ∀ (cs cs' : List Value) (w : World), Rd8 w w.heap.size cs ds → Rd8 w w.heap.size cs' ds → Calls Tryz.prog 71 #[.agg cs.toArray, .agg cs'.toArray] w fun e w' => e = .returned (.bool true) ∧ Below w.heap.size w w'
theorem eqStS (L : List (List D)) (hst : ∀ d ∈ L, IsSt d) (ih : ∀ d ∈ L, EqSt d) (A A' : Option Addr) (c c' : Nat) (rows rows' : Nat → List Value) (w : World) (hk : Row w w.heap.size 1 A L rows) (hk' : Row w w.heap.size 1 A' L rows') (hl : L.length ≤ maxI) :
    Calls Tryz.prog 45 #[.slice A L.length c, .slice A' L.length c'] w fun e w' => e = .returned (.bool true) ∧ Below w.heap.size w w' := by
  have hl : L.length ≤ 9223372036854775807 := hl
  generalize hL : L.length = N at *
  have hcmp : ((N : Int) != (N : Int)) = false := bne_self_eq_false _
  go_enter Tryz.func45, Tryz.ntmps45
  go_wp2_with fail
  go_loopw [5] (fun i wr => ∃ m : Nat, m ≤ N ∧ i = .int .i64 m ∧ Below w.heap.size w wr) (fun i _ => N - (Go.RowKit.intOf i).toNat)
  case atStart => exact ⟨0, Nat.zero_le _, rfl, Below.refl _ _⟩
  case round =>
    obtain ⟨m, hm, rfl, hb⟩ := hrel
    by_cases hlt : m < N
    · have hkr := hk.go hb
      have hkr' := hk'.go hb
      obtain ⟨_, ad, rfl, _, hld⟩ := hkr.cell m (by omega)
      have hld : LdN wr (ad.add (m * 8)) (rows m) := hld
      obtain ⟨_, ad', rfl, _, hld'⟩ := hkr'.cell m (by omega)
      have hld' : LdN wr (ad'.add (m * 8)) (rows' m) := hld'
      have hu : L[m]? = some L[m] := List.getElem?_eq_getElem (by omega)
      have x1 := hkr.kid m _ hu
      have x2 := hkr'.kid m _ hu
      have hih := ih L[m] (List.getElem_mem _)
      have hI := hst L[m] (List.getElem_mem _)
      generalize L[m] = ds at *
      cases hI with
      | @mk k s e bs es g1 g2 =>
        obtain ⟨ek, en, en', A1, l1, c1, Bb, cb, C1, cc, rb, rc, e1, -, -, -, -, -, -⟩ := st_inv x1
        obtain ⟨fk, fn, fn', A2, l2, c2, B2, cb2, C2, cc2, rb2, rc2, e2, -, -, -, -, -, -⟩ := st_inv x2
        rw [e1] at x1 hld
        rw [e2] at x2 hld'
        obtain ⟨k0, k1, k2, k3, k4, k5, k6, k7⟩ := ld8 hld
        obtain ⟨j0, j1, j2, j3, j4, j5, j6, j7⟩ := ld8 hld'
        have cE := hid (fun (d : Nat) (os : Array Obj) => Calls.regrown_of (d := d) (os := os) (hih _ _ (grow (redrawn wr d) os) (x1.go (below_regrown wr d os)) (x2.go (below_regrown wr d os))))
        replace k0 := cell_regrown k0
        replace k1 := cell_regrown k1
        replace k2 := cell_regrown k2
        replace k3 := cell_regrown k3
        replace k4 := cell_regrown k4
        replace k5 := cell_regrown k5
        replace k6 := cell_regrown k6
        replace k7 := cell_regrown k7
        replace j0 := cell_regrown j0
        replace j1 := cell_regrown j1
        replace j2 := cell_regrown j2
        replace j3 := cell_regrown j3
        replace j4 := cell_regrown j4
        replace j5 := cell_regrown j5
        replace j6 := cell_regrown j6
        replace j7 := cell_regrown j7
        replace hb := hid hb
        clear hkr hkr' x1 x2 hu e1 e2 hih hld hld' g1 g2
        go_wp2_with fail
        refine wp_region_quiet_below (by kernel_rfl) (by kernel_rfl) ?_
        repeat (quiet_step (exact cE.out _ _))
        refine wpQuiet_nil ?_
        intro _ hw'
        obtain ⟨⟨dq, osq⟩, hw''⟩ := hw'
        subst hw''
        have hq := hid (hb.out.trans ((below_regrown wr dq osq).mono hb.out.size))
        clear k0 k1 k2 k3 k4 k5 k6 k7 j0 j1 j2 j3 j4 j5 j6 j7 cE hb
        generalize grow (redrawn wr dq) osq = wq at *
        go_wp2_with fail
        exact ⟨⟨m + 1, hlt, by go_num, hq.out⟩, by simp [Go.RowKit.intOf]; omega⟩
    · obtain rfl : m = N := by omega
      go_wp2_with fail
      go_ret
      exact ⟨rfl, hb⟩
theorem eqSt {ds : List D} (h : IsSt ds) : EqSt ds := by
  induction h with
  | @mk k s e bs es hb1 hb2 ih1 ih2 =>
    intro cs cs' w hv hv'
    obtain ⟨ek, en, en', A, l, c, Bb, cb, C, cc, rb, rc, rfl, hs, hx, hrb, hlb, hrc, hlc⟩ := st_inv hv
    obtain ⟨fk, fn, fn', A', l', c', Bb', cb', C', cc', rb', rc', rfl, hs', hx', hrb', hlb', hrc', hlc'⟩ := st_inv hv'
    have n1 : (k != k) = false := bne_self_eq_false _
    have n3 : (s != s) = false := bne_self_eq_false _
    have b1 : Below w.heap.size w (w.alloc (.cells (sc k s ek en en' A l c Bb bs.length cb C es.length cc).toArray SI)) := box8
    have z1 := size_alloc' w (.cells (sc k s ek en en' A l c Bb bs.length cb C es.length cc).toArray SI)
    have b2 := b1.trans ((box8 (w := w.alloc (.cells (sc k s ek en en' A l c Bb bs.length cb C es.length cc).toArray SI)) (o := .cells (sc k s fk fn fn' A' l' c' Bb' bs.length cb' C' es.length cc').toArray SI)).mono (by omega))
    have x1 := (Blk.new w SI (sc k s ek en en' A l c Bb bs.length cb C es.length cc)).alloc (.cells (sc k s fk fn fn' A' l' c' Bb' bs.length cb' C' es.length cc').toArray SI)
    have x2 := Blk.new (w.alloc (.cells (sc k s ek en en' A l c Bb bs.length cb C es.length cc).toArray SI)) SI (sc k s fk fn fn' A' l' c' Bb' bs.length cb' C' es.length cc')
    rw [z1] at x2
    have cE := hid (fun wx (hb : Below w.heap.size w wx) => eqE e _ _ wx (hx.go hb) (hx'.go hb))
    have cB := hid (fun wx (hb : Below w.heap.size w wx) => eqStS bs hb1 ih1 Bb Bb' cb cb' rb rb' wx (hrb.go hb) (hrb'.go hb) hlb)
    have cC := hid (fun wx (hb : Below w.heap.size w wx) => eqStS es hb2 ih2 C C' cc cc' rc rc' wx (hrc.go hb) (hrc'.go hb) hlc)
    replace b2 := hid b2
    replace x1 := hid x1
    replace x2 := hid x2
    clear hv hv' hx hx' hrb hrb' hrc hrc' hlb hlb' hlc hlc' ih1 ih2 hb1 hb2 b1 z1
    go_enter Tryz.func71, Tryz.ntmps71
    obtain ⟨k0, k1, k2, k3, k4, k5, k6, k7⟩ := eight x1.out
    obtain ⟨j0, j1, j2, j3, j4, j5, j6, j7⟩ := eight x2.out
    go_wp2_with fail
    refine (cE.out _ b2.out).mono ?_
    rintro e3 w3 ⟨rfl, hb⟩
    have b3 := hid (b2.out.trans (hb.mono b2.out.size))
    have y1 := hid (x1.out.below hb x1.out.lt)
    have y2 := hid (x2.out.below hb x2.out.lt)
    clear hb k0 k1 k2 k3 k4 k5 k6 k7 j0 j1 j2 j3 j4 j5 j6 j7 x1 x2 b2
    obtain ⟨k0, k1, k2, k3, k4, k5, k6, k7⟩ := eight y1.out
    obtain ⟨j0, j1, j2, j3, j4, j5, j6, j7⟩ := eight y2.out
    go_wp2_with fail
    refine (cB.out _ b3.out).mono ?_
    rintro e4 w4 ⟨rfl, hb⟩
    have b4 := hid (b3.out.trans (hb.mono b3.out.size))
    have x1 := hid (y1.out.below hb y1.out.lt)
    have x2 := hid (y2.out.below hb y2.out.lt)
    clear hb k0 k1 k2 k3 k4 k5 k6 k7 j0 j1 j2 j3 j4 j5 j6 j7 y1 y2 b3
    obtain ⟨k0, k1, k2, k3, k4, k5, k6, k7⟩ := eight x1.out
    obtain ⟨j0, j1, j2, j3, j4, j5, j6, j7⟩ := eight x2.out
    go_wp2_with fail
    refine (cC.out _ b4.out).mono ?_
    rintro e5 w5 ⟨rfl, hb⟩
    have b5 := hid (b4.out.trans (hb.mono b4.out.size))
    clear hb k0 k1 k2 k3 k4 k5 k6 k7 j0 j1 j2 j3 j4 j5 j6 j7 x1 x2 b4
    go_wp2_with fail
    go_ret
    exact ⟨rfl, b5.out⟩
structure Pg where
  vs : List (List UInt8)
  body : List St
def Pg.d (p : Pg) : List D := [.ss p.vs, .sl 1 (dl p.body)]
abbrev PI : TypeId := 27
abbrev pc (A : Option Addr) (l c : Nat) (B : Option Addr) (lb cb : Nat) : List Value := [.slice A l c, .slice B lb cb]
theorem pg_inv {w : World} {B : Nat} {cs : List Value} {p : Pg} (h : Rd8 w B cs p.d) :
    ∃ A c Bb cb rows, cs = pc A p.vs.length c Bb p.body.length cb ∧ Rd w B A (p.vs.map sv) ∧ (∀ x ∈ p.vs, x.length ≤ maxI) ∧ (p.vs.length ≤ maxI ∧ p.vs.length ≤ c) ∧ Row w B 1 Bb (dl p.body) rows ∧ p.body.length ≤ maxI := by
  unfold Pg.d at h
  obtain ⟨A, c, r1, rfl, hv, hs, hl, hcp, h1⟩ := h.ss_
  obtain ⟨Bb, cb, r2, rows, rfl, hb, hlb, h2⟩ := h1.sl_
  obtain rfl := h2.nil_
  rw [List.length_map] at *
  exact ⟨A, c, Bb, cb, rows, rfl, hv, hs, ⟨hl, hcp⟩, hb, hlb⟩
theorem two {w : World} {g ty : Nat} {c0 c1 : Value} (h : Blk w g ty [c0, c1]) : w.cell? ⟨g, 0, none⟩ = some c0 ∧ w.cell? ⟨g, 1, none⟩ = some c1 := ⟨h.cell 0, h.cell 1⟩
theorem szR_pg (p : Pg) : szDR p.d = Lh.szL p.vs + (p.body.length + szDL (dl p.body)) := by
  unfold Pg.d Lh.szL
  simp only [szDR, szD, List.length_map]; omega
theorem dl_len (L : List St) : (dl L).length = L.length := List.length_map _
section
variable (L : List St) (A : Option Addr) (c : Nat) (rows : Nat → List Value) (w : World) (hk : Row w w.heap.size 1 A (dl L) rows)
include hk
theorem szStL (left : Int) (hl : L.length ≤ maxI) (h0 : 0 ≤ left) (h1 : left ≤ 1048576) :
    Calls Tryz.prog 41 #[.slice A L.length c, .int .i64 left] w fun e w' => e = .returned (.int .i64 (szAns (L.length + szDL (dl L)) left)) ∧ Below w.heap.size w w' := by
  have := szStS (dl L) (dl_is L) (fun d hd => szSt (dl_is L d hd)) A c left rows w hk (by rw [dl_len]; exact hl) h0 h1
  rw [dl_len] at this
  exact this
theorem toStL (hl : L.length ≤ 1048576) (hsz : szDL (dl L) ≤ 1048576) :
    Calls Tryz.prog 43 #[.slice A L.length c] w fun e w' => e = .returned (.slice (some ⟨w.heap.size, 0, none⟩) L.length L.length) ∧ OwnD w' (Iv w.heap.size w'.heap.size) [.slice (some ⟨w.heap.size, 0, none⟩) L.length L.length] [.sl 1 (dl L)] ∧ Below w.heap.size w w' := by
  have := toStS (dl L) (dl_is L) (fun d hd => toSt (dl_is L d hd)) A c rows w hk (by rw [dl_len]; exact hl) hsz
  rw [dl_len] at this
  exact this
theorem eqStL (A' : Option Addr) (c' : Nat) (rows' : Nat → List Value) (hk' : Row w w.heap.size 1 A' (dl L) rows') (hl : L.length ≤ maxI) :
    Calls Tryz.prog 45 #[.slice A L.length c, .slice A' L.length c'] w fun e w' => e = .returned (.bool true) ∧ Below w.heap.size w w' := by
  have := eqStS (dl L) (dl_is L) (fun d hd => eqSt (dl_is L d hd)) A A' c c' rows rows' w hk hk' (by rw [dl_len]; exact hl)
  rw [dl_len] at this
  exact this
end
theorem szPg (p : Pg) (left : Int) (cs : List Value) (w : World) (hv : Rd8 w w.heap.size cs p.d) (h0 : 0 ≤ left) (h1 : left ≤ 1048576) :
    Calls Tryz.prog 17 #[.agg cs.toArray, .int .i64 left] w fun e w' => e = .returned (.int .i64 (szAns (szDR p.d) left)) ∧ Below w.heap.size w w' := by
  obtain ⟨A, c, Bb, cb, rows, rfl, hr, hs, hl, hk, hlb⟩ := pg_inv hv
  obtain ⟨V, P⟩ := p
  dsimp only at hr hs hl hk hlb ⊢
  have hW : Below w.heap.size w (w.alloc (.cells (pc A V.length c Bb P.length cb).toArray 41)) := box8
  have hbx := hid (Blk.new w 41 (pc A V.length c Bb P.length cb))
  have cV := hid (fun (lf : Int) wx (hb : Below w.heap.size w wx) h0 h1 (hq : lf < (Lh.szL V : Int)) => szS_over A c V lf wx ((hr.below hb).more hb.size) hs hl.1 h0 h1 hq)
  have cV2 := hid (fun (lf : Int) wx (hb : Below w.heap.size w wx) h0 h1 (hq : (Lh.szL V : Int) ≤ lf) => szS_fit A c V lf wx ((hr.below hb).more hb.size) hs hl.1 h0 h1 hq)
  have cB := hid (fun lf wx (hb : Below w.heap.size w wx) h0 h1 => szStL P Bb cb rows wx (hk.go hb) lf hlb h0 h1)
  have hsz := hid (szR_pg ⟨V, P⟩)
  have hW := hid hW
  generalize szDR (Pg.mk V P).d = tot at *
  replace hsz := hid (show tot = Lh.szL V + (P.length + szDL (dl P)) from hsz.out)
  generalize P.length + szDL (dl P) = tb at *
  clear hr hk hs hl hlb hv
  by_cases hbig : left < (Lh.szL V : Int)
  · have hf := hid (show szAns tot left = -1 by have := hsz.out; unfold szAns; rw [if_neg (by omega)])
    have cV := hid (cV.out left _ hW.out h0 h1 hbig)
    go_enter Tryz.func17, Tryz.ntmps17
    obtain ⟨k0, k1⟩ := two hbx.out
    go_wp2_with fail
    refine cV.out.mono ?_
    rintro e2 w2 ⟨rfl, rfl⟩
    go_wp2_with fail
    go_ret
    exact ⟨by rw [hf.out]; rfl, hW.out⟩
  have cV2 := hid (cV2.out left _ hW.out h0 h1 (by omega))
  go_enter Tryz.func17, Tryz.ntmps17
  obtain ⟨k0, k1⟩ := two hbx.out
  have t0 : decide (left - (Lh.szL V : Int) < 0) = false := decide_eq_false (by omega)
  go_wp2_with fail
  refine cV2.out.mono ?_
  rintro e2 w2 ⟨rfl, rfl⟩
  go_wp2_with fail
  refine (cB.out _ _ hW.out (by omega) (by omega)).mono ?_
  rintro e3 w3 ⟨rfl, hb⟩
  have hW3 := hid (hW.out.trans (hb.mono hW.out.size))
  clear hb k0 k1
  rcases szAns_cases tb (left - (Lh.szL V : Int)) with ⟨hq, hno⟩ | ⟨hq, hfit⟩
  · rw [hq]
    have hf := hid (show szAns tot left = -1 by have := hsz.out; unfold szAns; rw [if_neg (by omega)])
    go_wp2_with fail
    go_ret
    exact ⟨by rw [hf.out]; rfl, hW3.out⟩
  rw [hq]
  have t3 : decide (left - (Lh.szL V : Int) - (tb : Int) < 0) = false := decide_eq_false (by omega)
  have hf := hid (show szAns tot left = left - (Lh.szL V : Int) - (tb : Int) by have := hsz.out; unfold szAns; rw [if_pos (by omega)]; omega)
  clear hq
  go_wp2_with fail
  go_ret
  exact ⟨by rw [hf.out]; rfl, hW3.out⟩
abbrev P3 (w : World) (cs : List Value) : World := ((w.alloc (.cells cs.toArray 41)).alloc (.cells (pc none 0 0 none 0 0).toArray PI)).alloc (.cells (pc none 0 0 none 0 0).toArray PI)
theorem p3_size (w : World) (cs : List Value) : (P3 w cs).heap.size = w.heap.size + 1 + 1 + 1 := by rw [size_alloc', size_alloc', size_alloc']
theorem p3_below (w : World) (cs : List Value) : Below w.heap.size w (P3 w cs) :=
  (((Below.refl _ _).alloc (Nat.le_refl _) _).alloc (by rw [size_alloc']; omega) _).alloc (by rw [size_alloc', size_alloc']; omega) _
theorem p3_blk (w : World) (cs : List Value) : Blk (P3 w cs) w.heap.size 41 cs ∧ Blk (P3 w cs) (w.heap.size + 1) PI (pc none 0 0 none 0 0) ∧ Blk (P3 w cs) (w.heap.size + 1 + 1) PI (pc none 0 0 none 0 0) := by
  have h0 := Blk.new w 41 cs
  have h1 := Blk.new (w.alloc (.cells cs.toArray 41)) PI (pc none 0 0 none 0 0)
  have h2 := Blk.new ((w.alloc (.cells cs.toArray 41)).alloc (.cells (pc none 0 0 none 0 0).toArray PI)) PI (pc none 0 0 none 0 0)
  rw [size_alloc'] at h1
  rw [size_alloc', size_alloc'] at h2
  exact ⟨(h0.alloc _).alloc _, h1.alloc _, h2⟩
theorem OwnD.pg {w : World} {lo hi a1 b1 a2 b2 : Nat} {v : Value} {p : Pg} {B : Option Addr} {lb cb : Nat} (hs : ∀ x ∈ p.vs, x.length ≤ maxI) (h1 : OwnS a1 b1 w v p.vs) (h2 : OwnD w (Iv a2 b2) [.slice B lb cb] [.sl 1 (dl p.body)]) (q1 : lo ≤ a1) (q2 : b1 ≤ a2) (q3 : b2 ≤ hi) (q4 : a1 ≤ b1) (q5 : a2 ≤ b2) :
    OwnD w (Iv lo hi) [v, .slice B lb cb] p.d := by
  refine .ss (R2 := Iv a2 hi) h1 hs (fun g hg => ?_) (fun g hg => ?_) (OwnD.app_sl (R2 := fun _ => False) h2 .nil (fun g hg => ?_) (fun g hg => hg.elim))
  · have := hg.1; have := hg.2
    exact ⟨⟨by omega, by omega⟩, fun h => by have := h.1; omega⟩
  · have := hg.1; have := hg.2
    exact ⟨by omega, by omega⟩
  · have := hg.1; have := hg.2
    exact ⟨⟨by omega, by omega⟩, id⟩
theorem toPg (p : Pg) (cs : List Value) (w : World) (hv : Rd8 w w.heap.size cs p.d) (hsz : szDR p.d ≤ 1048576) :
    Calls Tryz.prog 18 #[.agg cs.toArray] w fun e w' => ∃ cs', e = .returned (.agg cs'.toArray) ∧ OwnD w' (Iv w.heap.size w'.heap.size) cs' p.d ∧ Below w.heap.size w w' := by
  obtain ⟨A, c, Bb, cb, rows, rfl, hr, hs, hl, hk, hlb⟩ := pg_inv hv
  rw [szR_pg] at hsz
  have hvl := szL_len p.vs
  have B3 := p3_below w (pc A p.vs.length c Bb p.body.length cb)
  have S3 := p3_size w (pc A p.vs.length c Bb p.body.length cb)
  obtain ⟨bx, r1, r2⟩ := p3_blk w (pc A p.vs.length c Bb p.body.length cb)
  have cV := hid (toS_own A c p.vs w _ hr (by omega) B3)
  have cB := hid (fun wx (hb : Below w.heap.size w wx) => toStL p.body Bb cb rows wx (hk.go hb) (by omega) (by omega))
  replace B3 := hid B3
  replace bx := hid bx
  replace r1 := hid r1
  replace r2 := hid r2
  have S3' := S3
  replace S3 := hid S3
  generalize hV : p.vs.length = lv at *
  generalize hP : p.body.length = lp at *
  clear hv hr hk hsz hl hlb hvl
  go_enter Tryz.func18, Tryz.ntmps18
  obtain ⟨k0, k1⟩ := two bx.out
  go_wp2_with fail
  refine cV.out.mono ?_
  rintro e4 w4 ⟨rfl, o4, hb⟩
  have z4 := hb.size
  rw [S3'] at z4 o4
  have bx4 := bx.out.below hb (by rw [S3']; omega)
  have r14 := r1.out.below hb (by rw [S3']; omega)
  have r24 := r2.out.below hb (by rw [S3']; omega)
  have B4 := B3.out.trans (hb.mono B3.out.size)
  rw [S3']
  clear hb cV k0 k1
  obtain ⟨k0, k1⟩ := two bx4
  obtain ⟨p0, p1⟩ := two r24
  have g0 := r24.frozen 0
  have far5 : ∀ q, q ≠ w.heap.size + 1 + 1 → (w4.setCell ⟨w.heap.size + 1 + 1, 0, none⟩ (.slice (some ⟨w.heap.size + 1 + 1 + 1, 0, none⟩) lv lv)).heap[q]? = w4.heap[q]? := fun q hq => heap_setCell_other _ _ _ _ hq
  have s5 : (w4.setCell ⟨w.heap.size + 1 + 1, 0, none⟩ (.slice (some ⟨w.heap.size + 1 + 1 + 1, 0, none⟩) lv lv)).heap.size = w4.heap.size := by simp [World.setCell]
  have B5 := B4.setCell (p := ⟨w.heap.size + 1 + 1, 0, none⟩) (show w.heap.size ≤ w.heap.size + 1 + 1 by omega) (.slice (some ⟨w.heap.size + 1 + 1 + 1, 0, none⟩) lv lv)
  have r25 : Blk (w4.setCell ⟨w.heap.size + 1 + 1, 0, none⟩ (.slice (some ⟨w.heap.size + 1 + 1 + 1, 0, none⟩) lv lv)) (w.heap.size + 1 + 1) PI (pc (some ⟨w.heap.size + 1 + 1 + 1, 0, none⟩) lv lv none 0 0) := r24.set_ 0 _
  have bx5 : Blk (w4.setCell ⟨w.heap.size + 1 + 1, 0, none⟩ (.slice (some ⟨w.heap.size + 1 + 1 + 1, 0, none⟩) lv lv)) w.heap.size 41 _ := (far5 w.heap.size (by omega)).trans bx4
  have r15 : Blk (w4.setCell ⟨w.heap.size + 1 + 1, 0, none⟩ (.slice (some ⟨w.heap.size + 1 + 1 + 1, 0, none⟩) lv lv)) (w.heap.size + 1) PI _ := (far5 (w.heap.size + 1) (by omega)).trans r14
  have o5 := o4.same (w' := w4.setCell ⟨w.heap.size + 1 + 1, 0, none⟩ (.slice (some ⟨w.heap.size + 1 + 1 + 1, 0, none⟩) lv lv)) fun q h1 h2 => far5 q (by omega)
  have cB5 := cB.out _ B5
  rw [s5] at cB5
  replace cB5 := hid cB5
  replace bx5 := hid bx5
  replace r15 := hid r15
  replace r25 := hid r25
  replace B5 := hid B5
  replace o5 := hid o5
  replace s5 := hid s5
  clear r24 r14 bx4 B4 o4 cB far5
  go_wp2_with fail
  refine cB5.out.mono ?_
  rintro e6 w6 ⟨rfl, o6, hb⟩
  have z6 := hb.size
  rw [s5.out] at z6
  have r16 := r15.out.below hb (by omega)
  have r26 := r25.out.below hb (by omega)
  have B6 := B5.out.trans (hb.mono (by have := B5.out.size; rw [s5.out] at this; exact this))
  have oV6 := o5.out.same (same_below hb (by omega))
  clear hb cB5 k0 k1 p0 p1 g0 bx5 r15 r25 B5 o5
  obtain ⟨p0, p1⟩ := two r26
  obtain ⟨m0, m1⟩ := two r16
  have g1 := r26.frozen 1
  have f0 := r16.frozen 0
  have f1 := r16.frozen 1
  generalize hG : w4.heap.size = q6 at *
  have B9 := putN_below (pc (some ⟨w.heap.size + 1 + 1 + 1, 0, none⟩) lv lv (some ⟨q6, 0, none⟩) lp lp) 0 (B6.setCell (p := ⟨w.heap.size + 1 + 1, 1, none⟩) (show w.heap.size ≤ w.heap.size + 1 + 1 by omega) (.slice (some ⟨q6, 0, none⟩) lp lp)) (g := w.heap.size + 1) (by omega)
  have far9 : ∀ q, w.heap.size + 1 + 1 < q → (putN (w6.setCell ⟨w.heap.size + 1 + 1, 1, none⟩ (.slice (some ⟨q6, 0, none⟩) lp lp)) (w.heap.size + 1) 0 (pc (some ⟨w.heap.size + 1 + 1 + 1, 0, none⟩) lv lv (some ⟨q6, 0, none⟩) lp lp)).heap[q]? = w6.heap[q]? := fun q hq => (putN_far _ _ _ _ _ (by omega)).trans (heap_setCell_other _ _ _ _ (by show q ≠ w.heap.size + 1 + 1; omega))
  have s9 : (putN (w6.setCell ⟨w.heap.size + 1 + 1, 1, none⟩ (.slice (some ⟨q6, 0, none⟩) lp lp)) (w.heap.size + 1) 0 (pc (some ⟨w.heap.size + 1 + 1 + 1, 0, none⟩) lv lv (some ⟨q6, 0, none⟩) lp lp)).heap.size = w6.heap.size := by rw [putN_size]; simp [World.setCell]
  have r19 : Blk (putN (w6.setCell ⟨w.heap.size + 1 + 1, 1, none⟩ (.slice (some ⟨q6, 0, none⟩) lp lp)) (w.heap.size + 1) 0 (pc (some ⟨w.heap.size + 1 + 1 + 1, 0, none⟩) lv lv (some ⟨q6, 0, none⟩) lp lp)) (w.heap.size + 1) PI (pc (some ⟨w.heap.size + 1 + 1 + 1, 0, none⟩) lv lv (some ⟨q6, 0, none⟩) lp lp) :=
    putN_blk (pc (some ⟨w.heap.size + 1 + 1 + 1, 0, none⟩) lv lv (some ⟨q6, 0, none⟩) lp lp) 0 (r16.far (p := ⟨w.heap.size + 1 + 1, 1, none⟩) (show w.heap.size + 1 ≠ w.heap.size + 1 + 1 by omega) (.slice (some ⟨q6, 0, none⟩) lp lp))
  have own := hid (OwnD.pg (p := p) (lo := w.heap.size) (hi := w6.heap.size) hs (oV6.same fun q h1 h2 => far9 q (by omega)) (o6.same fun q hq => far9 q (by have := hq.1; omega)) (by omega) (Nat.le_refl _) (Nat.le_refl _) (by omega) (by omega))
  rw [← s9] at own
  replace r19 := hid r19
  replace B9 := hid B9
  clear r16 r26 B6 oV6 o6 far9 s9
  go_wp2_with fail
  exact bodyPost_ret (results_cell_row Tryz.results18 _ _ (w.heap.size + 1) PI _ (0, 0) _ rfl r19.out Tryz.underlying27 rfl (by kernel_rfl)) rfl ⟨_, rfl, own.out, B9.out⟩
theorem eqPg (p : Pg) (cs cs' : List Value) (w : World) (hv : Rd8 w w.heap.size cs p.d) (hv' : Rd8 w w.heap.size cs' p.d) :
    Calls Tryz.prog 21 #[.agg cs.toArray, .agg cs'.toArray] w fun e w' => e = .returned (.bool true) ∧ Below w.heap.size w w' := by
  obtain ⟨A, c, Bb, cb, rows, rfl, hr, hs, hl, hk, hlb⟩ := pg_inv hv
  obtain ⟨A', c', Bb', cb', rows', rfl, hr', hs', hl', hk', hlb'⟩ := pg_inv hv'
  obtain ⟨V, P⟩ := p
  dsimp only at hr hs hl hk hlb hr' hk' ⊢
  have b1 : Below w.heap.size w (w.alloc (.cells (pc A V.length c Bb P.length cb).toArray 27)) := box8
  have z1 := size_alloc' w (.cells (pc A V.length c Bb P.length cb).toArray 27)
  have b2 := b1.trans ((box8 (w := w.alloc (.cells (pc A V.length c Bb P.length cb).toArray 27)) (o := .cells (pc A' V.length c' Bb' P.length cb').toArray 27)).mono (by omega))
  have x1 := (Blk.new w 27 (pc A V.length c Bb P.length cb)).alloc (.cells (pc A' V.length c' Bb' P.length cb').toArray 27)
  have x2 := Blk.new (w.alloc (.cells (pc A V.length c Bb P.length cb).toArray 27)) 27 (pc A' V.length c' Bb' P.length cb')
  rw [z1] at x2
  have cV := hid (fun wx (hb : Below w.heap.size w wx) => Lh.eqS_any A A' c c' V wx ((hr.below hb).more hb.size) ((hr'.below hb).more hb.size) hl.1)
  have cB := hid (fun wx (hb : Below w.heap.size w wx) => eqStL P Bb cb rows wx (hk.go hb) Bb' cb' rows' (hk'.go hb) hlb)
  replace b2 := hid b2
  replace x1 := hid x1
  replace x2 := hid x2
  clear hv hv' hr hr' hk hk' hlb hlb' hl hl' b1 z1
  go_enter Tryz.func21, Tryz.ntmps21
  obtain ⟨k0, k1⟩ := two x1.out
  obtain ⟨j0, j1⟩ := two x2.out
  go_wp2_with fail
  refine (cV.out _ b2.out).mono ?_
  rintro e3 w3 ⟨rfl, hb⟩
  have b3 := hid (b2.out.trans (hb.mono b2.out.size))
  have y1 := hid (x1.out.below hb x1.out.lt)
  have y2 := hid (x2.out.below hb x2.out.lt)
  clear hb k0 k1 j0 j1 x1 x2 b2
  obtain ⟨k0, k1⟩ := two y1.out
  obtain ⟨j0, j1⟩ := two y2.out
  go_wp2_with fail
  refine (cB.out _ b3.out).mono ?_
  rintro e4 w4 ⟨rfl, hb⟩
  have b4 := hid (b3.out.trans (hb.mono b3.out.size))
  clear hb k0 k1 j0 j1 y1 y2 b3
  go_wp2_with fail
  go_ret
  exact ⟨rfl, b4.out⟩
end Go.Proofs.YtnmomlaimffonaaGreat.Gd
