/- Expressions of the call's own: read again behind their marks. -/
import Derived.Test.YtklcbagddijkgaaGreatDoorZEx4
set_option maxRecDepth 100000
namespace Go.Proofs.YtklcbagddijkgaaGreatDoor.Tr
open Go.RowKit Go.Lib Go.Sort Go.Proofs.YtklcbagddijkgaaGreatDoor.Com Go.Proofs.YtklcbagddijkgaaGreatDoor.Mem Go.Proofs.YtklcbagddijkgaaGreatDoor.Os

def kidsT : T → List T
  | .mk _ _ _ ks => ks
theorem cnt_kids (t : T) : cntT t = 1 + cntK (kidsT t) := by
  obtain ⟨k, n, s, ks⟩ := t
  exact cntT_mk k n s ks
theorem mk_node {w : World} {A : Option Addr} {k : Nat} {ks : List T} {vs : Nat → Value} (h : Tr.Kids w w.heap.size A (markK k ks) vs) {m : Nat} (hm : m < ks.length) :
    ∃ ad A' c' vs', A = some ad ∧ w.cell? (ad.add (m * 4)) = some (.int .i64 ((k + 3 * cntK (ks.take m) : Nat) : Int)) ∧ w.cell? ⟨(ad.add (m * 4)).block, (ad.add (m * 4)).off + 1, none⟩ = some (.int .i64 (((k + 3 * cntK (ks.take m) : Nat) : Int) + 1)) ∧
      w.cell? ⟨(ad.add (m * 4)).block, (ad.add (m * 4)).off + 2, none⟩ = some (sv (Lh.mk (k + 3 * cntK (ks.take m) + 2))) ∧ w.cell? ⟨(ad.add (m * 4)).block, (ad.add (m * 4)).off + 3, none⟩ = some (.slice A' (kidsT ks[m]).length c') ∧
      Tr.Kids w w.heap.size A' (markK (k + 3 * cntK (ks.take m) + 3) (kidsT ks[m])) vs' := by
  have hu : (markK k ks)[m]? = some (markN (k + 3 * cntK (ks.take m)) ks[m]) := by rw [markK_at, List.getElem?_eq_getElem hm]; rfl
  have hx := h.kid m _ hu
  obtain ⟨ad, e, _, c0, c1, c2, c3, ev, k0, k1, k2, k3⟩ := h.cell m (by rw [markK_len]; exact hm)
  generalize k + 3 * cntK (ks.take m) = q at *
  generalize ks[m] = a at *
  obtain ⟨ka, na, sa, kk⟩ := a
  rw [markN_mk] at hx
  obtain ⟨A', c', vs', e2, _, _, hk⟩ := hx.kids
  rw [e2] at ev
  injection ev with e1
  have e3 := congrArg Array.toList e1
  simp only [List.cons.injEq] at e3
  obtain ⟨rfl, rfl, rfl, rfl, _⟩ := e3
  rw [markK_len] at k3
  exact ⟨ad, A', c', vs', e, k0, k1, k2, k3, hk⟩
/-- what heldExprS promises of the kids of t -/
def HkE (t : T) : Prop := ∀ (A : Option Addr) (c k : Nat) (vs : Nat → Value) (w : World), Tr.Kids w w.heap.size A (markK k (kidsT t)) vs → 0 < k → k + 3 * (cntT t - 1) ≤ 9223372036854775807 → (kidsT t).length ≤ 9223372036854775807 →
  Calls Tryz.prog 74 #[.slice A (kidsT t).length c, .int .i64 k] w fun e w' => e = .returned (.int .i64 ((k + 3 * (cntT t - 1) : Nat) : Int)) ∧ Below w.heap.size w w'
theorem kid_few {ks : List T} {m : Nat} (hm : m < ks.length) : (kidsT ks[m]).length ≤ cntT ks[m] := by
  have h := cnt_kids ks[m]
  have : ∀ l : List T, l.length ≤ cntK l := fun l => by
    induction l with
    | nil => simp
    | cons a r ih =>
      have := cnt_pos a
      have e : cntK (a :: r) = cntT a + cntK r := by simp [cntK]
      rw [e, List.length_cons]; omega
  have := this (kidsT ks[m])
  omega
set_option maxHeartbeats 4000000 in
theorem heldE (t : T) : HkE t := by
  induction t using T.ind with
  | h kk nn ss ks ih =>
    intro A c k vs w hk hk0 hk1 hl
    rw [cntT_mk] at hk1
    have hcnt := hid (cntT_mk kk nn ss ks)
    have hinit := hid (show cntK (ks.take 0) = 0 by simp [cntK])
    replace hk := hid (show Tr.Kids w w.heap.size A (markK k ks) vs from hk)
    replace hl : ks.length ≤ 9223372036854775807 := hl
    have hih := hid ih
    show Calls Tryz.prog 74 #[.slice A ks.length c, .int .i64 k] w _
    clear ih
    generalize hN : ks.length = N at *
    go_enter Tryz.func74, Tryz.ntmps74
    go_wp2_with fail
    go_loopw [1, 5] (fun a i wr => ∃ m : Nat, m ≤ N ∧ i = .int .i64 m ∧ a = .int .i64 ((k + 3 * cntK (ks.take m) : Nat) : Int) ∧ Below w.heap.size w wr) (fun _ i _ => N - (Go.RowKit.intOf i).toNat)
    case atStart => exact ⟨0, Nat.zero_le _, rfl, by rw [hinit.out]; simp, Below.refl _ _⟩
    case round =>
      obtain ⟨m, hm, rfl, rfl, hb⟩ := hrel
      by_cases hlt : m < N
      · have hkr := hid (hk.out.go hb)
        obtain ⟨ad, A', c', vs', e, k0, k1, k2, k3, -⟩ := mk_node hkr.out (m := m) (by omega)
        subst e
        have hmn := hid (fun (wq : World) (hq : Below wr.heap.size wr wq) => mk_node (hkr.out.go hq) (m := m) (by omega))
        have hle := cntK_le ks (m + 1)
        have hst := cntK_take (ks := ks) (m := m) (by omega)
        have hfew := kid_few (ks := ks) (m := m) (by omega)
        have hpos := cnt_pos ks[m]
        have hml : m < ks.length := by omega
        have hihm := hid (hih.out ks[m] (List.getElem_mem hml))

        have hq1 : k + 3 * cntK (ks.take m) + 3 * cntT ks[m] ≤ 9223372036854775807 := by omega
        have hnx := hid (show ((k + 3 * cntK (ks.take m) + 3 + 3 * (cntT ks[m] - 1) : Nat) : Int) = ((k + 3 * cntK (ks.take (m + 1)) : Nat) : Int) by rw [hst]; congr 1; omega)
        have t9 : decide (((k + 3 * cntK (ks.take m) + 3 + 3 * (cntT ks[m] - 1) : Nat) : Int) < 0) = false := decide_eq_false (by omega)
        generalize hz9 : ((k + 3 * cntK (ks.take m) + 3 + 3 * (cntT ks[m] - 1) : Nat) : Int) = z9 at *
        have hl1 : (kidsT ks[m]).length ≤ 9223372036854775807 := by omega
        have hl2 : 3 * cntT ks[m] ≤ 9223372036854775807 := by omega
        have hkq : 0 < k + 3 * cntK (ks.take m) := by omega
        generalize k + 3 * cntK (ks.take m) = q at *
        replace hz9 := hid hz9
        have cM : ∀ d os, Calls Tryz.prog 121 #[.int .i64 ((q : Int) + 1 + 1)] (grow (redrawn wr d) os) fun e w'' => e = .returned (sv (Lh.mk (q + 2))) ∧ ∃ p : Regrown, w'' = grow (redrawn wr p.d) p.os := fun d os => by
          have := Lh.markText_any (q + 2) (by omega) (by omega) (grow (redrawn wr d) os)
          rw [show ((q + 2 : Nat) : Int) = (q : Int) + 1 + 1 by omega] at this
          exact Calls.regrown_of this
        have hq3 : ((q + 3 : Nat) : Int) = (q : Int) + 1 + 1 + 1 := by omega
        replace hq3 := hid hq3
        generalize Lh.mk (q + 2) = mt at *
        have e0 : ((q : Int) != (q : Int)) = false := bne_self_eq_false _
        have e1 : ((q : Int) + 1 != (q : Int) + 1) = false := bne_self_eq_false _
        have e3 : (mt == mt) = true := beq_self_eq_true _
        have k2r := cell_regrown k2
        have cM := hid cM
        have hb := hid hb
        have hqb : (q : Int) + 3 ≤ 9223372036854775807 := by omega
        replace hq1 := hid hq1
        replace hl1 := hid hl1
        clear k2 k3 hle hst hfew hpos hl2
        go_wp2_with fail
        refine wp_region_quiet_below (by kernel_rfl) (by kernel_rfl) ?_
        repeat (quiet_step (exact cM.out _ _))
        refine wpQuiet_nil ?_
        intro _ hw'
        obtain ⟨⟨dq, osq⟩, hw''⟩ := hw'
        subst hw''
        have hq := below_regrown wr dq osq
        obtain ⟨ad2, A2, c2, vs2, ea, -, -, -, p3, hk2⟩ := hmn.out _ hq
        cases ea
        have hcl := hihm.out A2 c2 (q + 3) vs2 (grow (redrawn wr dq) osq) hk2 (by omega) (by have := hq1.out; omega) hl1.out
        rw [hq3.out, hz9.out] at hcl
        replace hcl := hid hcl
        have hb2 := hid (hb.out.trans (hq.mono hb.out.size))
        clear k0 k1 k2r cM hb hq hk2 hmn hihm
        generalize grow (redrawn wr dq) osq = wq at *
        go_wp2_with fail
        refine hcl.out.mono ?_
        rintro e w3 ⟨rfl, hb3⟩
        replace hb3 := hid (hb2.out.trans (hb3.mono hb2.out.size))
        clear p3 hcl
        go_wp2_with fail
        exact ⟨⟨m + 1, hlt, by go_num, by rw [hnx.out], hb3.out⟩, by simp [Go.RowKit.intOf]; omega⟩
      · obtain rfl : m = N := by omega
        have hf := hid (show ((k + 3 * cntK (ks.take m) : Nat) : Int) = ((k + 3 * (cntT (.mk kk nn ss ks) - 1) : Nat) : Int) by
          rw [List.take_of_length_le (by omega), hcnt.out]; congr 1; omega)
        have hb := hid hb
        go_wp2_with fail
        go_ret
        exact ⟨by rw [← hf.out]; rfl, hb.out⟩
set_option maxHeartbeats 1000000 in
theorem heldE_own {lo hi : Nat} {v : Value} {t : T} (kI : Int) (w : World) (h : OwnX lo hi w v (markT kI.toNat t)) (h0 : 0 < kI) (h1 : kI + ((markC t : Nat) : Int) ≤ 9223372036000000000) :
    Calls Tryz.prog 30 #[v, .int .i64 kI] w fun e w' => e = .returned (.int .i64 (kI + ((markC t : Nat) : Int))) ∧ Below w.heap.size w w' := by
  obtain ⟨k, rfl⟩ : ∃ k : Nat, kI = k := ⟨kI.toNat, by omega⟩
  rw [Int.toNat_natCast] at h
  obtain ⟨k0, n0, s0, ks⟩ := t
  have hp := cnt_pos (.mk k0 n0 s0 ks)
  have hlen : (kidsT (.mk k0 n0 s0 ks)).length ≤ cntT (.mk k0 n0 s0 ks) := by
    have := kid_few (ks := [.mk k0 n0 s0 ks]) (m := 0) (by simp)
    exact this
  have hx := h.ex
  rw [markT] at hx
  obtain ⟨A, c, vs, rfl, hs, hl, hk⟩ := hx.kids
  rw [markK_len]
  have hb := box_below w (.cells #[.int .i64 k0, .int .i64 n0, sv s0, .slice A ks.length c] 27)
  have hcl := heldE (.mk k0 n0 s0 ks) A c k vs _ (hk.go hb) (by omega) (by unfold markC at h1; omega) (by unfold markC at h1; omega)
  rw [show ((k + 3 * (cntT (.mk k0 n0 s0 ks) - 1) : Nat) : Int) = (k : Int) + ((markC (.mk k0 n0 s0 ks) : Nat) : Int) by unfold markC; omega] at hcl
  have hcl := hid (show Calls Tryz.prog 74 #[.slice A ks.length c, .int .i64 k] (w.alloc (.cells #[.int .i64 k0, .int .i64 n0, sv s0, .slice A ks.length c] 27)) _ from hcl)
  have t9 : decide ((k : Int) + ((markC (.mk k0 n0 s0 ks) : Nat) : Int) < 0) = false := decide_eq_false (by omega)
  have hb := hid hb
  generalize (k : Int) + ((markC (.mk k0 n0 s0 ks) : Nat) : Int) = z at *
  clear h hx hk
  go_enter Tryz.func30, Tryz.ntmps30
  go_wp2_with fail
  refine hcl.out.mono ?_
  rintro e w2 ⟨rfl, hb2⟩
  replace hb2 := hid (hb.out.trans (hb2.mono hb.out.size))
  go_wp2_with fail
  go_ret
  exact ⟨rfl, hb2.out⟩
end Go.Proofs.YtklcbagddijkgaaGreatDoor.Tr
