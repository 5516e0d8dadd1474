/- Slices of slices of integers of the call's own as the laws handle them: compared, marked, looked at again. -/
import Derived.Test.YtjopcajecnnchaaOi
namespace Go.Proofs.Ytjopcajecnnchaa.Os
open Go.RowKit Go.Lib Go.Sort Go.Proofs.Ytjopcajecnnchaa.Com Go.Proofs.Ytjopcajecnnchaa.Mem Go.Proofs.Ytjopcajecnnchaa.Ow

theorem Own.block_ {e lo hi : Nat} {w : World} {v : Value} {xs : List Value} (h : Own e lo hi w v xs) {g : Nat} (hg : v.ownBlock = some g) : lo ≤ g ∧ g < hi ∧ ∃ cs, Blk w g e cs := by
  obtain ⟨A, c, cs, rfl, _, _, _, h4, _⟩ := h
  cases A with
  | none => cases hg
  | some ad =>
    have : ad.block = g := Option.some.inj hg
    subst this
    exact ⟨(h4 ad rfl).2.1, (h4 ad rfl).2.2.1, cs, (h4 ad rfl).2.2.2⟩
theorem Own.gb_ {e lo hi : Nat} {w w' : World} {v : Value} {xs : List Value} {row : Option Nat} (h : Own e lo hi w v xs) (hg : w.grownBy w' row) (hne : ∀ g, v.ownBlock = some g → row ≠ some g) : Own e lo hi w' v xs := by
  obtain ⟨A, c, cs, h1, h2, hm, h3, h4, h5⟩ := h
  refine ⟨A, c, cs, h1, h2, hm, h3, fun ad ha => ⟨(h4 ad ha).1, (h4 ad ha).2.1, (h4 ad ha).2.2.1, ?_⟩, h5⟩
  have hb := (h4 ad ha).2.2.2
  refine (hg.block _ hb.lt (fun e => ?_)).trans hb
  exact hne ad.block (by rw [h1, ha]; rfl) e.symm
theorem kinds {w : World} {g e1 e2 : Nat} {c1 c2 : List Value} (h1 : Blk w g e1 c1) (h2 : Blk w g e2 c2) : e1 = e2 := by
  unfold Blk at h1 h2; rw [h1] at h2; injection h2 with h; injection h

/-- the inner slices -/
structure Inn (lo hi : Nat) (w : World) (vs : List Value) (f : Nat → List Int) : Prop where
  at_ : ∀ (i : Nat) (v : Value), vs[i]? = some v → OwnI lo hi w v (f i)
  dis : ∀ (i j : Nat) (v v' : Value) (g : Nat), i ≠ j → vs[i]? = some v → vs[j]? = some v' → v.ownBlock = some g → v'.ownBlock ≠ some g
/-- a slice of slices: n of them, the i-th holds f i -/
def OwnF (lo hi : Nat) (w : World) (v : Value) (n : Nat) (f : Nat → List Int) : Prop := ∃ vs, vs.length = n ∧ Own 34 lo hi w v vs ∧ Inn lo hi w vs f
def fF (L : List (List Int)) (i : Nat) : List Int := L.getD i []
abbrev OwnII (lo hi : Nat) (w : World) (v : Value) (L : List (List Int)) : Prop := OwnF lo hi w v L.length (fF L)

theorem Inn.same {lo hi : Nat} {w w' : World} {vs : List Value} {f : Nat → List Int} (h : Inn lo hi w vs f) (hs : Same lo hi w w') : Inn lo hi w' vs f := ⟨fun i v hv => (h.at_ i v hv).same hs, h.dis⟩
theorem OwnF.same {lo hi n : Nat} {w w' : World} {v : Value} {f : Nat → List Int} (h : OwnF lo hi w v n f) (hs : Same lo hi w w') : OwnF lo hi w' v n f := by
  obtain ⟨vs, h1, h2, h3⟩ := h
  exact ⟨vs, h1, h2.same hs, h3.same hs⟩
theorem OwnF.mono {lo hi lo' hi' n : Nat} {w : World} {v : Value} {f : Nat → List Int} (h : OwnF lo hi w v n f) (h1 : lo' ≤ lo) (h2 : hi ≤ hi') : OwnF lo' hi' w v n f := by
  obtain ⟨vs, e1, e2, e3⟩ := h
  exact ⟨vs, e1, e2.mono h1 h2, fun i v hv => (e3.at_ i v hv).mono h1 h2, e3.dis⟩
theorem OwnF.congr {lo hi n : Nat} {w : World} {v : Value} {f f' : Nat → List Int} (h : OwnF lo hi w v n f) (hf : ∀ i, i < n → f i = f' i) : OwnF lo hi w v n f' := by
  obtain ⟨vs, rfl, e2, e3⟩ := h
  refine ⟨vs, rfl, e2, fun i v hv => ?_, e3.dis⟩
  have hi : i < vs.length := by
    rcases Nat.lt_or_ge i vs.length with h | h
    · exact h
    · rw [List.getElem?_eq_none h] at hv; cases hv
  rw [← hf i hi]; exact e3.at_ i v hv
theorem rd_val {w : World} {B : Nat} {A : Option Addr} {vs : List Value} (h : Rd w B A vs) {k : Nat} (hk : k < vs.length) : ∃ ad u, A = some ad ∧ ad.block < B ∧ vs[k]? = some u ∧ w.cell? (ad.add k) = some u := by
  obtain ⟨ad, e, hb, hc⟩ := h.at_ hk
  exact ⟨ad, _, e, hb, List.getElem?_eq_getElem hk, hc⟩
theorem Inn.below {lo hi B : Nat} {w w' : World} {vs : List Value} {f : Nat → List Int} (h : Inn lo hi w vs f) (hb : Below B w w') (hB : hi ≤ B) : Inn lo hi w' vs f := h.same (same_below hb hB)
theorem below_same {lo hi : Nat} {w w' : World} {v : Value} {l : List Int} (h : OwnI lo hi w v l) (hb : Below w.heap.size w w') : OwnI lo hi w' v l := by
  obtain ⟨A, c, cs, h1, h2, hm, h3, h4, h5⟩ := h
  exact ⟨A, c, cs, h1, h2, hm, h3, fun ad ha => ⟨(h4 ad ha).1, (h4 ad ha).2.1, (h4 ad ha).2.2.1, (h4 ad ha).2.2.2.below hb (h4 ad ha).2.2.2.lt⟩, h5⟩

set_option maxHeartbeats 1000000 in
theorem eqII_any (A1 A2 : Option Addr) (c1 c2 lo1 lo2 hi1 hi2 : Nat) (vs1 vs2 : List Value) (f : Nat → List Int) (w : World) (hlen : vs1.length = vs2.length) (h1 : Rd w w.heap.size A1 vs1) (h2 : Rd w w.heap.size A2 vs2) (i1 : Inn lo1 hi1 w vs1 f) (i2 : Inn lo2 hi2 w vs2 f) (hl : vs2.length ≤ 9223372036854775807) :
    Calls Try.prog 23 #[.slice A1 vs1.length c1, .slice A2 vs2.length c2] w fun e w' => e = .returned (.bool true) ∧ Below w.heap.size w w' := by
  have hlen' := hid hlen
  rw [hlen]
  generalize hn : vs2.length = n at *
  have hcmp : ((n : Int) != (n : Int)) = false := bne_self_eq_false _
  go_enter Try.func23, Try.ntmps23
  go_wp2_with fail
  go_loopw [5] (fun i wr => ∃ k : Nat, k ≤ n ∧ i = .int .i64 k ∧ Below w.heap.size w wr) (fun i _ => n - (Go.RowKit.intOf i).toNat)
  case atStart => exact ⟨0, Nat.zero_le _, rfl, Below.refl _ _⟩
  case round =>
    obtain ⟨k, hk, rfl, hb⟩ := hrel
    by_cases hlt : k < n
    · obtain ⟨ad1, u1, rfl, _, hu1, hc1⟩ := rd_val (h1.below hb) (k := k) (by omega)
      obtain ⟨ad2, u2, rfl, _, hu2, hc2⟩ := rd_val (h2.below hb) (k := k) (by omega)
      have o1 := below_same (i1.at_ k u1 hu1) hb
      have o2 := below_same (i2.at_ k u2 hu2) hb
      have cE := hid (fun (d : Nat) (os : Array Obj) => Calls.regrown_of (d := d) (os := os) (eqI_own (grow (redrawn wr d) os) (below_same o1 (below_regrown wr d os)) (below_same o2 (below_regrown wr d os))))
      have k1 := cell_regrown hc1
      have k2 := cell_regrown hc2
      have hb := hid hb
      clear hc1 hc2 o1 o2 hu1 hu2
      go_wp2_with fail
      refine wp_region_quiet_below (by kernel_rfl) (by kernel_rfl) ?_
      repeat (quiet_step (exact cE.out _ _))
      refine wpQuiet_nil ?_
      intro _ hw'
      obtain ⟨⟨dq, osq⟩, hw''⟩ := hw'
      subst hw''
      have hq := hid (hb.out.trans ((below_regrown wr dq osq).mono hb.out.size))
      clear k1 k2 cE hb
      generalize grow (redrawn wr dq) osq = wq at *
      go_wp2_with fail
      exact ⟨⟨k + 1, hlt, by go_num, hq.out⟩, by simp [Go.RowKit.intOf]; omega⟩
    · obtain rfl : k = n := by omega
      go_wp2_with fail
      go_ret
      exact ⟨rfl, hb⟩
theorem eqII_own {lo1 lo2 hi1 hi2 n : Nat} {v1 v2 : Value} {f : Nat → List Int} (w : World) (h1 : OwnF lo1 hi1 w v1 n f) (h2 : OwnF lo2 hi2 w v2 n f) :
    Calls Try.prog 23 #[v1, v2] w fun e w' => e = .returned (.bool true) ∧ Below w.heap.size w w' := by
  obtain ⟨vs1, e1, o1, i1⟩ := h1
  obtain ⟨vs2, e2, o2, i2⟩ := h2
  obtain ⟨A1, c1, rfl, hr1, hc1, hm1, _⟩ := o1.read
  obtain ⟨A2, c2, rfl, hr2, hc2, hm2, _⟩ := o2.read
  exact eqII_any A1 A2 c1 c2 lo1 lo2 hi1 hi2 vs1 vs2 f w (e1.trans e2.symm) hr1 hr2 i1 i2 (by unfold maxLen at hm2; omega)

/-- how many integers the first i hold -/
def totF (f : Nat → List Int) : Nat → Nat
  | 0 => 0
  | i + 1 => totF f i + (f i).length
theorem totF_mono (f : Nat → List Int) {i j : Nat} (h : i ≤ j) : totF f i ≤ totF f j := by
  induction j with
  | zero => obtain rfl : i = 0 := by omega
            exact Nat.le_refl _
  | succ j ih =>
    rcases Nat.lt_or_ge i (j + 1) with h1 | h1
    · have := ih (by omega); simp only [totF]; omega
    · obtain rfl : i = j + 1 := by omega
      exact Nat.le_refl _
def totL (L : List (List Int)) : Nat := totF (fF L) L.length
/-- what the marks leave -/
def markF (k : Nat) (f : Nat → List Int) (i : Nat) : List Int := marksI (k + totF f i) (f i).length
/-- the first m are marked -/
def stepF (k m : Nat) (f : Nat → List Int) (i : Nat) : List Int := if i < m then markF k f i else f i

theorem Inn.step {lo hi k m : Nat} {w w' : World} {vs : List Value} {f : Nat → List Int} {v : Value} (h : Inn lo hi w vs (stepF k m f)) (hv : vs[m]? = some v) (hg : w.grownBy w' v.ownBlock) (ho : OwnI lo hi w' v (markF k f m)) : Inn lo hi w' vs (stepF k (m + 1) f) := by
  refine ⟨fun i u hu => ?_, h.dis⟩
  by_cases e : i = m
  · subst e
    rw [hv] at hu; cases hu
    have : stepF k (i + 1) f i = markF k f i := by unfold stepF; rw [if_pos (by omega)]
    rw [this]; exact ho
  · have hs : stepF k (m + 1) f i = stepF k m f i := by
      unfold stepF
      by_cases hi : i < m
      · rw [if_pos (by omega), if_pos hi]
      · rw [if_neg (by omega), if_neg hi]
    rw [hs]
    exact (h.at_ i u hu).gb_ hg (fun g hgu hgv => h.dis m i v u g (fun e' => e e'.symm) hv hu hgv hgu)

theorem chg_gb {w w' : World} {v : Value} {l : List Value} {e lo hi : Nat} (o : Own e lo hi w v l) (h : w.grownBy w' v.ownBlock) : Chg w w' lo hi := by
  cases hv : v.ownBlock with
  | none => rw [hv] at h; exact ⟨h.os, h.tape, h.output, h.size, fun k hk _ => h.block k hk (by simp)⟩
  | some g => rw [hv] at h; have := o.block_ hv; exact chg_of_gb h this.1 this.2.1
set_option maxHeartbeats 1000000 in
theorem markII_any (A : Option Addr) (c lo hi k : Nat) (vs : List Value) (f : Nat → List Int) (w : World) (ho : Own 34 lo hi w (.slice A vs.length c) vs) (hi_ : Inn lo hi w vs f) (h0 : 0 < k) (h1 : k + totF f vs.length ≤ 9223372036854775807) :
    Calls Try.prog 24 #[.slice A vs.length c, .int .i64 k] w fun e w' => e = .returned (.int .i64 ((k : Int) + (totF f vs.length : Int))) ∧ (Own 34 lo hi w' (.slice A vs.length c) vs ∧ Inn lo hi w' vs (stepF k vs.length f)) ∧ Chg w w' lo hi := by
  have hl : vs.length ≤ 9223372036854775807 := by
    obtain ⟨_, c', hv, _, hc, hm, _⟩ := ho.read
    unfold maxLen at hm; omega
  generalize hn : vs.length = n at *
  have hs0 : Inn lo hi w vs (stepF k 0 f) := hi_
  go_enter Try.func24, Try.ntmps24
  go_wp2_with fail
  go_loopw [1, 5] (fun a i wr => ∃ m : Nat, m ≤ n ∧ i = .int .i64 m ∧ a = .int .i64 ((k : Int) + (totF f m : Int)) ∧ Own 34 lo hi wr (.slice A n c) vs ∧ Inn lo hi wr vs (stepF k m f) ∧ Chg w wr lo hi) (fun _ i _ => n - (Go.RowKit.intOf i).toNat)
  case atStart => exact ⟨0, Nat.zero_le _, rfl, by simp [totF], ho, hs0, chg_refl _ _ _⟩
  case round =>
    obtain ⟨m, hm, rfl, rfl, how, hin, hch⟩ := hrel
    by_cases hlt : m < n
    · obtain ⟨A', c', hv, hrd, hrest⟩ := how.read
      clear hrest
      have hAA : A = A' := by injection hv
      subst hAA
      obtain ⟨ad, u, rfl, _, hu, hc1⟩ := rd_val hrd (k := m) (by omega)
      have hou := hin.at_ m u hu
      have e1 : stepF k m f m = f m := by unfold stepF; rw [if_neg (by omega)]
      rw [e1] at hou
      have hle : totF f (m + 1) ≤ totF f n := totF_mono f (by omega)
      have hle' : totF f m + (f m).length ≤ totF f n := hle
      have hck := hid (markI_own ((k : Int) + (totF f m : Int)) wr hou (by omega) (by omega))
      have hfin := hid (fun (w2 : World) (hg : wr.grownBy w2 u.ownBlock) (ho2 : OwnI lo hi w2 u (marksI ((k : Int) + (totF f m : Int)).toNat (f m).length)) =>
        show Own 34 lo hi w2 (.slice (some ad) n c) vs ∧ Inn lo hi w2 vs (stepF k (m + 1) f) ∧ Chg w w2 lo hi from
        ⟨how.gb_ hg (fun g h1 h2 => by
            obtain ⟨_, _, _, b1⟩ := how.block_ h1
            obtain ⟨_, _, _, b2⟩ := hou.block_ h2
            exact absurd (kinds b1 b2) (by decide)),
         hin.step hu hg (by
            have e2 : ((k : Int) + (totF f m : Int)).toNat = k + totF f m := by omega
            rw [e2] at ho2; exact ho2),
         chg_trans hch (chg_gb hou hg)⟩)
      clear hin how hou hrd hu hv hs0 ho hi_ hch e1 hle hle'
      go_wp2_with fail
      refine hck.out.mono ?_
      rintro e w2 ⟨rfl, ho2, hg2⟩
      obtain ⟨r1, r2, r3⟩ := hfin.out w2 hg2 ho2
      have r1 := hid r1
      have r2 := hid r2
      have r3 := hid r3
      clear ho2 hg2
      go_wp2_with fail
      exact ⟨⟨m + 1, hlt, by go_num, by simp only [totF]; go_num, r1.out, r2.out, r3.out⟩, by simp [Go.RowKit.intOf]; omega⟩
    · obtain rfl : m = n := by omega
      go_wp2_with fail
      go_ret
      exact ⟨rfl, ⟨how, hin⟩, hch⟩
theorem markII_own {lo hi : Nat} {v : Value} {L : List (List Int)} (kI : Int) (w : World) (h : OwnII lo hi w v L) (h0 : 0 < kI) (h1 : kI + totL L ≤ 9223372036854775807) :
    Calls Try.prog 24 #[v, .int .i64 kI] w fun e w' => e = .returned (.int .i64 (kI + (totL L : Int))) ∧ OwnF lo hi w' v L.length (markF kI.toNat (fF L)) ∧ Chg w w' lo hi := by
  obtain ⟨k, rfl⟩ : ∃ k : Nat, kI = k := ⟨kI.toNat, by omega⟩
  rw [Int.toNat_natCast]
  unfold totL at *
  obtain ⟨vs, e1, o1, i1⟩ := h
  obtain ⟨A1, c1, rfl, _⟩ := o1.read
  rw [← e1] at h1 ⊢
  refine (markII_any A1 c1 lo hi k vs (fF L) w o1 i1 (by omega) (by omega)).mono ?_
  rintro e w' ⟨rfl, ⟨h2, h3⟩, h4⟩
  exact ⟨rfl, OwnF.congr ⟨vs, rfl, h2, h3⟩ (f := stepF k vs.length (fF L)) (fun i hi => by unfold stepF; rw [if_pos hi]), h4⟩
set_option maxHeartbeats 1000000 in
theorem heldII_any (A : Option Addr) (c lo hi k : Nat) (vs : List Value) (f : Nat → List Int) (w : World) (hr : Rd w w.heap.size A vs) (hi_ : Inn lo hi w vs (markF k f)) (hl : vs.length ≤ 9223372036854775807) (h0 : 0 < k) (h1 : k + totF f vs.length ≤ 9223372036854775807) :
    Calls Try.prog 25 #[.slice A vs.length c, .int .i64 k] w fun e w' => e = .returned (.int .i64 ((k : Int) + (totF f vs.length : Int))) ∧ w = w' := by
  generalize hn : vs.length = n at *
  go_enter Try.func25, Try.ntmps25
  go_wp2_with fail
  go_loop [1, 5] (fun a i => ∃ m : Nat, m ≤ n ∧ i = .int .i64 m ∧ a = .int .i64 ((k : Int) + (totF f m : Int))) (fun _ i => n - (Go.RowKit.intOf i).toNat)
  case atStart => exact ⟨0, Nat.zero_le _, rfl, by simp [totF]⟩
  case round =>
    obtain ⟨m, hm, rfl, rfl⟩ := hrel
    by_cases hlt : m < n
    · obtain ⟨ad, u, rfl, _, hu, hc1⟩ := rd_val hr (k := m) (by omega)
      have hou := hi_.at_ m u hu
      have hle : totF f (m + 1) ≤ totF f n := totF_mono f (by omega)
      have hle' : totF f m + (f m).length ≤ totF f n := hle
      have e2 : ((k : Int) + (totF f m : Int)).toNat = k + totF f m := by omega
      have hck := hid (heldI_own (n := (f m).length) ((k : Int) + (totF f m : Int)) w (by rw [e2]; exact hou) (by omega) (by omega))
      have t0 : decide ((k : Int) + (totF f m : Int) + ((f m).length : Int) < 0) = false := decide_eq_false (by omega)
      clear hou hu e2
      go_wp2_with fail
      refine hck.out.mono ?_
      rintro e w2 ⟨rfl, rfl⟩
      go_wp2_with fail
      go_round
      case rel => exact ⟨m + 1, hlt, by go_num, by simp only [totF]; go_num⟩
      case measure => simp [Go.RowKit.intOf]; omega
    · obtain rfl : m = n := by omega
      go_wp2_with fail
      go_ret
      exact ⟨rfl, rfl⟩
theorem heldII_own {lo hi : Nat} {v : Value} {L : List (List Int)} (kI : Int) (w : World) (h : OwnF lo hi w v L.length (markF kI.toNat (fF L))) (h0 : 0 < kI) (h1 : kI + totL L ≤ 9223372036854775807) :
    Calls Try.prog 25 #[v, .int .i64 kI] w fun e w' => e = .returned (.int .i64 (kI + (totL L : Int))) ∧ Below w.heap.size w w' := by
  obtain ⟨k, rfl⟩ : ∃ k : Nat, kI = k := ⟨kI.toNat, by omega⟩
  rw [Int.toNat_natCast] at h
  unfold totL at *
  obtain ⟨vs, e1, o1, i1⟩ := h
  obtain ⟨A1, c1, rfl, hr, hc, hm, _⟩ := o1.read
  rw [← e1] at h1 ⊢
  exact (heldII_any A1 c1 lo hi k vs (fF L) w hr i1 (by unfold maxLen at hm; omega) (by omega) (by omega)).mono fun e w' ⟨h1, h2⟩ => ⟨h1, by subst h2; exact Below.refl _ _⟩
end Go.Proofs.Ytjopcajecnnchaa.Os
