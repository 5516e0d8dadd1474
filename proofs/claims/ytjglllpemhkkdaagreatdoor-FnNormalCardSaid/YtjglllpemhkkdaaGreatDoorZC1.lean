/- Chapter 1, the specification's own FormatInt: the walk. -/
import Derived.Test.YtjglllpemhkkdaaGreatDoorRows
import Derived.Test.YtjglllpemhkkdaaGreatDoorZLhS
import Derived.Test.YtjglllpemhkkdaaGreatDoorZCom
import Derived.Test.YtjglllpemhkkdaaGreatDoorZIm
import Derived.Test.YtjglllpemhkkdaaGreatDoorZKd
import Derived.Test.YtjglllpemhkkdaaGreatDoorZP6j
import Derived.Deep.RegionWith
set_option maxRecDepth 100000
namespace Go.Proofs.YtjglllpemhkkdaaGreatDoor.C1
open Go.RowKit Go.Lib Num Com

theorem rfl0 : itoa 0 = [48] := by unfold itoa; rw [if_neg (by omega)]; exact decDigits_one (by omega)

set_option maxHeartbeats 400000 in
theorem fmt_zero (w : World) : Calls Tryz.prog 149 #[.int .i64 0] w fun e w' => e = .returned (.string ⟨(itoa 0).toArray⟩) ∧ Below w.heap.size w w' := by
  rw [show itoa 0 = [48] from rfl0]
  go_enter Tryz.func149, Tryz.ntmps149
  go_wp2
  go_ret
  exact ⟨rfl, Below.refl _ _⟩

set_option maxHeartbeats 400000 in
theorem fmt_pos (n : Nat) (h0 : 0 < n) (h1 : n ≤ 9223372036854775807) (w : World) : Calls Tryz.prog 149 #[.int .i64 n] w fun e w' => e = .returned (.string ⟨(decDigits n).toArray⟩) ∧ Below w.heap.size w w' := by
  have hn0 : ((n : Int) == 0) = false := beq_eq_false_iff_ne.2 (by omega)
  have hlt : decide ((n : Int) < 0) = false := by simp
  go_enter Tryz.func149, Tryz.ntmps149
  go_wp2
  go_loopw [0, 4] (fun a o wr => ∃ (k : Nat) (l : List UInt8), k ≤ n ∧ a = .int .i64 k ∧ o = .string ⟨l.toArray⟩ ∧ digs k ++ l = digs n ∧ Below w.heap.size w wr) (fun a _ _ => (Go.RowKit.intOf a).toNat)
  case atStart => exact ⟨n, [], Nat.le_refl _, rfl, rfl, List.append_nil _, Below.refl _ _⟩
  case round =>
    obtain ⟨k, l, hk, rfl, rfl, hl, hb⟩ := hrel
    by_cases hk0 : k = 0
    · subst hk0
      go_wp2
      go_ret
      exact ⟨by simp [digs] at hl; rw [if_neg (by omega)] at hl; simp [hl], hb⟩
    · have hkne : ((k : Int) != 0) = true := by rw [bne_iff_ne]; omega
      have hm : decide ((k : Int) % 10 < 0) = false := by simp; omega
      have hcv := run_str1 wr (48 + (k : Int) % 10) (by omega) (by omega)
      have hsz : l.length ≤ 20 := by
        have := congrArg List.length hl
        rw [List.length_append, digs_len n (by omega)] at this
        have := nDigits_le20 n (by omega)
        omega
      go_wp2
      refine ⟨⟨k / 10, UInt8.ofNat (48 + k % 10) :: l, by omega, by go_num, str_cons _ _, ?_, hb.alloc hb.size _⟩, by simp [Go.RowKit.intOf]; omega⟩
      rw [← hl, digs_step hk0]; simp

set_option maxHeartbeats 400000 in
theorem fmt_neg (n : Nat) (h0 : 0 < n) (h1 : n ≤ 9223372036854775808) (w : World) : Calls Tryz.prog 149 #[.int .i64 (-(n : Int))] w fun e w' => e = .returned (.string ⟨(45 :: decDigits n).toArray⟩) ∧ Below w.heap.size w w' := by
  have hn0 : ((-(n : Int)) == 0) = false := beq_eq_false_iff_ne.2 (by omega)
  have hlt : decide (-(n : Int) < 0) = true := by simp; omega
  go_enter Tryz.func149, Tryz.ntmps149
  go_wp2
  go_loopw [0, 4] (fun a o wr => ∃ (k : Nat) (l : List UInt8), k ≤ n ∧ a = .int .i64 (-(k : Int)) ∧ o = .string ⟨l.toArray⟩ ∧ digs k ++ l = digs n ∧ Below w.heap.size w wr) (fun a _ _ => (- Go.RowKit.intOf a).toNat)
  case atStart => exact ⟨n, [], Nat.le_refl _, rfl, rfl, List.append_nil _, Below.refl _ _⟩
  case round =>
    obtain ⟨k, l, hk, rfl, rfl, hl, hb⟩ := hrel
    have hsz : l.length ≤ 20 := by
      have := congrArg List.length hl
      rw [List.length_append, digs_len n (by omega)] at this
      have := nDigits_le20 n (by omega)
      omega
    by_cases hk0 : k = 0
    · subst hk0
      go_wp2
      go_ret
      refine ⟨congrArg Ending.returned (congrArg Value.string ((ByteArray.mk_append_mk [45] l).trans ?_)), hb⟩
      simp [digs] at hl; rw [if_neg (by omega)] at hl; rw [hl]; rfl
    · have hkne : ((-(k : Int)) != 0) = true := by rw [bne_iff_ne]; omega
      have hm : (-(k : Int)).tmod 10 = -((k % 10 : Nat) : Int) := by rw [Int.neg_tmod, Int.tmod_eq_emod_of_nonneg (by omega)]; omega
      have hq : (-(k : Int)).tdiv 10 = -((k / 10 : Nat) : Int) := by rw [Int.neg_tdiv, Int.tdiv_eq_ediv_of_nonneg (by omega)]; omega
      have hst : digs (k / 10) ++ UInt8.ofNat (48 + k % 10) :: l = digs n := by rw [← hl, digs_step hk0]; simp
      by_cases hz : k % 10 = 0
      · have hcv := run_str1 wr 48 (by omega) (by omega)
        have hst := hid hst
        go_wp2
        refine ⟨⟨k / 10, UInt8.ofNat (48 + k % 10) :: l, by omega, by go_num, ?_, hst.out, hb.alloc hb.size _⟩, by simp [Go.RowKit.intOf]; omega⟩
        rw [hz]; exact str_cons 0 l
      · have hcv := run_str1 wr (48 + (k : Int) % 10) (by omega) (by omega)
        have hpos : 0 < (k : Int) % 10 := by omega
        have hst := hid hst
        go_wp2
        refine ⟨⟨k / 10, UInt8.ofNat (48 + k % 10) :: l, by omega, by go_num, str_cons _ _, hst.out, hb.alloc hb.size _⟩, by simp [Go.RowKit.intOf]; omega⟩

theorem fmt_any (n : Int) (h0 : -9223372036854775808 ≤ n) (h1 : n ≤ 9223372036854775807) (w : World) : Calls Tryz.prog 149 #[.int .i64 n] w fun e w' => e = .returned (.string ⟨(itoa n).toArray⟩) ∧ Below w.heap.size w w' := by
  rcases Int.lt_trichotomy n 0 with h | h | h
  · obtain ⟨k, rfl⟩ : ∃ k : Nat, n = -(k : Int) := ⟨n.natAbs, by omega⟩
    have e : itoa (-(k : Int)) = 45 :: decDigits k := by unfold itoa; rw [if_pos h, Int.natAbs_neg, Int.natAbs_natCast]
    rw [e]; exact fmt_neg k (by omega) (by omega) w
  · subst h; exact fmt_zero w
  · obtain ⟨k, rfl⟩ : ∃ k : Nat, n = (k : Int) := ⟨n.toNat, by omega⟩
    have e : itoa (k : Int) = decDigits k := by unfold itoa; rw [if_neg (by omega), Int.toNat_natCast]
    rw [e]; exact fmt_pos k (by omega) (by omega) w
end Go.Proofs.YtjglllpemhkkdaaGreatDoor.C1

/- Places of lists of nodes: keys compared; the place of a list. -/
set_option maxRecDepth 100000
namespace Go.Proofs.YtjglllpemhkkdaaGreatDoor.Gx
open Go.RowKit Go.Lib Go.Sort Com Mem Im Ag Pl

abbrev ET : TypeId := 29
abbrev PT : TypeId := 132
theorem wideP : WideK Tryz.prog PT := ⟨_, Tryz.underlying132, fun _ _ => rfl⟩
theorem check_place (A : Option Addr) (n : Nat) (w : World) (em : Bool) : (Instr.checkKey em 10000 PT (encP (A, n))).run Tryz.prog w = .ok () w := by kernel_rfl
theorem sizeE : ∃ i, Tryz.prog.info? ET = some i ∧ i.size ≠ 0 := by
  have h : (Tryz.prog.info? ET).map (fun i => i.size) = some 4 := by kernel_rfl
  obtain ⟨i, hi, e⟩ := Option.map_eq_some_iff.1 h
  exact ⟨i, hi, by rw [e]; decide⟩
theorem part_P (x y : Value) (w : World) : (part 130 #[x, y] 0).run Tryz.prog w = .ok x w := by kernel_rfl
theorem part_N (x y : Value) (w : World) : (part 3 #[x, y] 1).run Tryz.prog w = .ok y w := by kernel_rfl
theorem fields_P : ∃ f g, (Tryz.prog.fieldsOf PT).toList = [f, g] ∧ f.name ≠ "_" ∧ f.type = 130 ∧ f.offset = 0 ∧ g.name ≠ "_" ∧ g.type = 3 ∧ g.offset = 1 := ⟨_, _, rfl, by decide, rfl, rfl, by decide, rfl, rfl⟩
theorem eq_placeD (d : Nat) {w : World} {k k' : Pk} (h : PtOk w k.1) (h' : PtOk w k'.1) : (Op.equalIn (d + 2) PT (encP k) (encP k')).run Tryz.prog w = .ok (decide (k' = k)) w := by
  obtain ⟨i, hi, hz⟩ := sizeE
  have hp : Tryz.prog.underlying 130 = some (.pointer ET) := Tryz.underlying130
  have hn : Tryz.prog.underlying 3 = some (.int .i64) := Tryz.underlying3
  have he := ptr_eq hp hi hz d h h'
  have he2 := int_eqIn (w := w) hn d (k.2 : Int) (k'.2 : Int)
  have hpd := pair_dec k.1 k'.1 k.2 k'.2
  rw [run_equalIn_struct w (d + 1) PT _ _ (by kernel_rfl) (by kernel_rfl)]
  obtain ⟨f, g, e1, e2, e3, e4, e5, e6, e7⟩ := fields_P
  rw [e1]
  unfold Op.eqFields
  rw [if_pos e2, e3, e4]
  simp only [Sem.run_bind, part_P, Result.andThen_ok, he]
  unfold Op.eqFields
  rw [if_pos e5, e6, e7]
  cases hd : decide (k.1 = k'.1) with
  | false =>
    rw [hd, Bool.false_and] at hpd
    rw [← hpd]
    simp
  | true =>
    rw [hd, Bool.true_and] at hpd
    rw [← hpd]
    simp only [Bool.not_true, Bool.false_eq_true, if_false, Sem.run_bind, part_N, Result.andThen_ok, he2]
    unfold Op.eqFields
    cases ((k.2 : Int) == (k'.2 : Int)) <;> simp
theorem eq_place {w : World} {k k' : Pk} (h : PtOk w k.1) (h' : PtOk w k'.1) : (Op.equal PT (encP k) (encP k')).run Tryz.prog w = .ok (decide (k' = k)) w := eq_placeD 9998 h h'
theorem bits_P (k : Pk) : ∀ n, Instr.sameBits (n + 1) (encP k) (encP k) = true := fun n => by simp [Instr.sameBits]
theorem dec_place {w : World} {k : Pk} {l : List (Pk × Value)} (h : PtOk w k.1) (hl : ∀ p ∈ l, PtOk w p.1.1) : Dec Tryz.prog encP PT w k l :=
  ⟨fun w em => check_place k.1 k.2 w em, fun p hp => eq_place h (hl p hp), bits_P k 9999⟩
set_option maxHeartbeats 2000000 in
theorem placeOf_any (A : Option Addr) (l c : Nat) (hA : l ≠ 0 → ∃ ad, A = some ad) (w : World) : Calls Tryz.prog 99 #[.slice A l c] w fun e w' => e = .returned (encP (if l = 0 then none else A, l)) ∧ Below w.heap.size w w' := by
  by_cases hl : l = 0
  · subst hl
    rw [if_pos rfl]
    go_enter Tryz.func99, Tryz.ntmps99
    go_wp2_with fail
    refine bodyPost_ret (results_cell_row Tryz.results99 _ _ w.heap.size PT _ (0, 0) _ rfl (heap_alloc_new w _) Tryz.underlying132 rfl (by kernel_rfl)) rfl ⟨rfl, (Below.refl _ _).alloc (Nat.le_refl _) _⟩
  · rw [if_neg hl]
    obtain ⟨ad, rfl⟩ := hA hl
    have t0 : ((l : Int) == 0) = false := beq_false_of_ne (by omega)
    have t1 : (0 : Int) < (l : Int) := by omega
    go_enter Tryz.func99, Tryz.ntmps99
    go_wp2_with fail
    refine bodyPost_ret (results_cell_row Tryz.results99 _ _ w.heap.size PT _ (0, 0) _ rfl (heap_alloc_new w _) Tryz.underlying132 rfl (by kernel_rfl)) rfl ⟨rfl, (Below.refl _ _).alloc (Nat.le_refl _) _⟩
open Tr Kd

def ROk (_ : T) : Prop := True
abbrev rootF : Value := .func (Fn.func 50) #[] #[]
set_option maxHeartbeats 4000000 in
theorem roots_any (k n k' n' : Int) (s s' : List UInt8) (A A' : Option Addr) (l c l' c' : Nat) (w : World) :
    Calls Tryz.prog 50 #[nv k n s A l c, nv k' n' s' A' l' c'] w fun e w' => e = .returned (.bool ((k == k') && ((n == n') && (s == s')))) ∧ Below w.heap.size w w' := by
  have hb := hid ((box_below w (.cells #[.int .i64 k, .int .i64 n, sv s, .slice A l c] 29)).trans ((box_below _ (.cells #[.int .i64 k', .int .i64 n', sv s', .slice A' l' c'] 29)).mono (by rw [size_alloc']; omega)))
  obtain ⟨R, hR⟩ : ∃ R, R = ((k == k') && ((n == n') && (s == s'))) := ⟨_, rfl⟩
  rw [← hR]
  have hf := hid hR
  clear hR
  cases t1 : (k == k')
  · rw [t1] at hf
    go_enter Tryz.func50, Tryz.ntmps50
    go_wp2_with fail
    go_ret
    exact ⟨by rw [hf.out]; rfl, hb.out⟩
  · cases t2 : (n == n')
    · rw [t1, t2] at hf
      go_enter Tryz.func50, Tryz.ntmps50
      go_wp2_with fail
      go_ret
      exact ⟨by rw [hf.out]; rfl, hb.out⟩
    · cases t3 : (s == s')
      · rw [t1, t2, t3] at hf
        go_enter Tryz.func50, Tryz.ntmps50
        go_wp2_with fail
        go_ret
        exact ⟨by rw [hf.out]; rfl, hb.out⟩
      · rw [t1, t2, t3] at hf
        go_enter Tryz.func50, Tryz.ntmps50
        go_wp2_with fail
        go_ret
        exact ⟨by rw [hf.out]; rfl, hb.out⟩
theorem root_any {w : World} {nk nn : Int} {ns : List UInt8} {nA : Option Addr} {nl nc : Nat} {nk' nn' : Int} {ns' : List UInt8} {nA' : Option Addr} {nl' nc' : Nat} {t t' : T} (h : RdN (pln w) w.heap.size [.int .i64 nk, .int .i64 nn, sv ns, .slice nA nl nc] t) (h' : RdN (pln w) w.heap.size [.int .i64 nk', .int .i64 nn', sv ns', .slice nA' nl' nc'] t') (_ : ROk t) (W : World) (_ : Below w.heap.size w W) :
    Calls Tryz.prog 50 #[.agg #[.int .i64 nk, .int .i64 nn, sv ns, .slice nA nl nc], .agg #[.int .i64 nk', .int .i64 nn', sv ns', .slice nA' nl' nc']] W fun e w' => e = .returned (.bool (kqX.root t t')) ∧ Below W.heap.size W w' := by
  obtain ⟨k, n, s, ks⟩ := t
  obtain ⟨k', n', s', ks'⟩ := t'
  obtain ⟨A, c, vs, e, _⟩ := Ex.kids h
  obtain ⟨A', c', vs', e', _⟩ := Ex.kids h'
  injection e with e
  have e : [Value.int .i64 nk, .int .i64 nn, sv ns, .slice nA nl nc] = [Value.int .i64 k, .int .i64 n, sv s, .slice A ks.length c] := congrArg Array.toList e
  injection e' with e'
  have e' : [Value.int .i64 nk', .int .i64 nn', sv ns', .slice nA' nl' nc'] = [Value.int .i64 k', .int .i64 n', sv s', .slice A' ks'.length c'] := congrArg Array.toList e'
  injection e with a0 e; injection e with a1 e; injection e with a2 e
  injection e' with b0 e'; injection e' with b1 e'; injection e' with b2 e'
  injection a0 with _ a0; injection a1 with _ a1; injection b0 with _ b0; injection b1 with _ b1
  have a2 := sv_inj a2
  have b2 := sv_inj b2
  subst a0; subst a1; subst a2; subst b0; subst b1; subst b2
  exact roots_any _ _ _ _ _ _ _ _ _ _ _ _ W
set_option maxHeartbeats 8000000 in
theorem eqfunc_any (l r : LN T) (w : World) (hl : LA (pln w) w.heap.size l) (hr : LA (pln w) w.heap.size r) (hok : ∀ t ∈ l.ks, ROk t) :
    Calls Tryz.prog 100 #[slv l, slv r, rootF] w fun e w' => e = .returned (.bool (eqLs kqX.root l.ks r.ks)) ∧ Below w.heap.size w w' := by
  obtain ⟨lA, nL, lc, hlA, hnL, hsl⟩ : ∃ A n c, l.A = A ∧ l.ks.length = n ∧ slv l = .slice A n c := ⟨_, _, _, rfl, rfl, rfl⟩
  obtain ⟨rA, nR, rc, hrA, hnR, hsr⟩ : ∃ A n c, r.A = A ∧ r.ks.length = n ∧ slv r = .slice A n c := ⟨_, _, _, rfl, rfl, rfl⟩
  have hlb : nL ≤ 9223372036854775807 := by obtain ⟨_, h⟩ := hl; have := h.len; omega
  rw [hsl, hsr]
  obtain ⟨R, hR⟩ : ∃ R, R = eqLs kqX.root l.ks r.ks := ⟨_, rfl⟩
  rw [← hR]
  replace hl := hid hl
  replace hr := hid hr
  replace hlA := hid hlA
  replace hrA := hid hrA
  replace hok := hid hok
  clear hsl hsr
  by_cases hn : nL = nR
  · subst hn
    have t0 : ((nL : Int) != (nL : Int)) = false := by simp
    have hyes : (∀ (i : Nat) (a b : T), l.ks[i]? = some a → r.ks[i]? = some b → kqX.root a b = true) → R = true := fun h => by rw [hR]; exact eqLs_iff.2 ⟨by rw [hnL, hnR], h⟩
    have hno : ∀ (i : Nat) (a b : T), l.ks[i]? = some a → r.ks[i]? = some b → kqX.root a b = false → R = false := fun i a b ha hb hc => by
      rw [hR]
      cases hq : eqLs kqX.root l.ks r.ks
      · rfl
      · rw [(eqLs_iff.1 hq).2 i a b ha hb] at hc; cases hc
    replace hyes := hid hyes
    replace hno := hid hno
    replace hnL := hid hnL
    replace hnR := hid hnR
    clear hR
    go_enter Tryz.func100, Tryz.ntmps100
    go_wp2_with fail
    go_loopw [17] (fun i wr => ∃ m : Nat, i = .int .i64 (m : Nat) ∧ m ≤ nL ∧ Below w.heap.size w wr ∧ ∀ (j : Nat) (a b : T), j < m → l.ks[j]? = some a → r.ks[j]? = some b → kqX.root a b = true) (fun i _ => nL - (Go.RowKit.intOf i).toNat)
    case atStart => exact ⟨0, rfl, Nat.zero_le _, Below.refl _ _, fun j a b hj => absurd hj (Nat.not_lt_zero _)⟩
    case round =>
      obtain ⟨m, rfl, hm, hb, hall⟩ := hrel
      replace hall := hid hall
      by_cases hlt : m < nL
      · have q0 : decide ((m : Int) < (nL : Int)) = true := decide_eq_true (by omega)
        have q1 : (m : Int) < (nL : Int) := by omega
        have hml : m < l.ks.length := by rw [hnL.out]; exact hlt
        have hmr : m < r.ks.length := by rw [hnR.out]; exact hlt
        obtain ⟨ta, hta⟩ : ∃ ta, l.ks[m]? = some ta := ⟨_, List.getElem?_eq_getElem hml⟩
        obtain ⟨tb, htb⟩ : ∃ tb, r.ks[m]? = some tb := ⟨_, List.getElem?_eq_getElem hmr⟩
        obtain ⟨ad, nk, nn, ns, nA, nl, nc, hA1, hld, hrd⟩ := la_node hl.out hb hta
        obtain ⟨ad', nk', nn', ns', nA', nl', nc', hA2, hld', hrd'⟩ := la_node hr.out hb htb
        obtain rfl : lA = some ad := hlA.out.symm.trans hA1
        obtain rfl : rA = some ad' := hrA.out.symm.trans hA2
        have hroot := hid (root_any hrd hrd' (hok.out ta (List.mem_of_getElem? hta)))
        have hb1 := box_below wr (.cells #[.int .i64 nk, .int .i64 nn, sv ns, .slice nA nl nc] 29)
        have hld2 := ldC_go hld' hb1
        obtain ⟨c0, c1, c2, c3⟩ := ldC_at hld
        obtain ⟨d0, d1, d2, d3⟩ := ldC_at hld2
        have s1 := size_alloc' wr (.cells #[.int .i64 nk, .int .i64 nn, sv ns, .slice nA nl nc] 29)
        have hB1 := (Blk.new wr 29 [.int .i64 nk, .int .i64 nn, sv ns, .slice nA nl nc]).alloc (.cells #[.int .i64 nk', .int .i64 nn', sv ns', .slice nA' nl' nc'] 29)
        have hB2 := Blk.new (wr.alloc (.cells #[.int .i64 nk, .int .i64 nn, sv ns, .slice nA nl nc] 29)) 29 [.int .i64 nk', .int .i64 nn', sv ns', .slice nA' nl' nc']
        rw [s1] at hB2
        have hW2 := hid (hb.trans ((hb1.trans ((box_below _ (.cells #[.int .i64 nk', .int .i64 nn', sv ns', .slice nA' nl' nc'] 29)).mono hb1.size)).mono hb.size))
        have p0 := hB1.cell 0
        have p1 := hB1.cell 1
        have p2 := hB1.cell 2
        have p3 := hB1.cell 3
        have r0 := hB2.cell 0
        have r1 := hB2.cell 1
        have r2 := hB2.cell 2
        have r3 := hB2.cell 3
        have hnext := hid (fun (hq : kqX.root ta tb = true) (j : Nat) (a b : T) (hj : j < m + 1) (ha : l.ks[j]? = some a) (hb : r.ks[j]? = some b) => show kqX.root a b = true by
          by_cases e : j = m
          · subst e
            rw [hta] at ha; rw [htb] at hb
            cases ha; cases hb; exact hq
          · exact hall.out j a b (by omega) ha hb)
        have hstop := hid (hno.out m ta tb hta htb)
        clear hb hb1 hld hld' hld2 hB1 hB2 hrd hrd' s1 hta htb hml hmr hA1 hA2
        cases hq : kqX.root ta tb with
        | true =>
          have hn2 := hid (hnext.out hq)
          rw [hq] at hroot
          clear hq hnext hstop
          go_wp2_with fail
          refine (hroot.out _ hW2.out).mono ?_
          rintro e w2 ⟨rfl, hb2⟩
          have hb3 := hid (hW2.out.trans (hb2.mono hW2.out.size))
          clear hb2
          go_wp2_with fail
          exact ⟨⟨m + 1, by go_num, by omega, hb3.out, hn2.out⟩, by simp [Go.RowKit.intOf]; omega⟩
        | false =>
          have hf := hid (hstop.out hq)
          rw [hq] at hroot
          clear hq hnext hstop
          go_wp2_with fail
          refine (hroot.out _ hW2.out).mono ?_
          rintro e w2 ⟨rfl, hb2⟩
          have hb3 := hid (hW2.out.trans (hb2.mono hW2.out.size))
          clear hb2
          go_wp2_with fail
          go_ret
          exact ⟨by rw [hf.out]; rfl, hb3.out⟩
      · obtain rfl : m = nL := by omega
        have q0 : decide ((m : Int) < (m : Int)) = false := decide_eq_false (by omega)
        have hf := hid (hyes.out fun i a b ha hb => hall.out i a b (by
          rcases Nat.lt_or_ge i m with h | h
          · exact h
          · rw [List.getElem?_eq_none (by rw [hnL.out]; exact h)] at ha; cases ha) ha hb)
        have hb := hid hb
        go_wp2_with fail
        go_ret
        exact ⟨by rw [hf.out]; rfl, hb.out⟩
  · have t0 : ((nL : Int) != (nR : Int)) = true := by
      have : ((nL : Int) == (nR : Int)) = false := beq_false_of_ne (by omega)
      unfold bne; rw [this]; rfl
    have hf : R = false := by
      rw [hR]
      cases hq : eqLs kqX.root l.ks r.ks
      · rfl
      · exact absurd ((hnL.symm.trans (eqLs_iff.1 hq).1).trans hnR) hn
    replace hf := hid hf
    clear hR
    go_enter Tryz.func100, Tryz.ntmps100
    go_wp2_with fail
    go_ret
    exact ⟨by rw [hf.out]; rfl, Below.refl _ _⟩
end Go.Proofs.YtjglllpemhkkdaaGreatDoor.Gx

/- The program's reading of a whole source, and the offset of an error: of expressions. -/
set_option maxRecDepth 100000
namespace Go.Proofs.YtjglllpemhkkdaaGreatDoor.Tk
open Go.RowKit Go.Lib Go.Sort Num Com Mem YtjglllpemhkkdaaGreatDoor.Os Tr
set_option maxHeartbeats 4000000 in
theorem pwhole_any (S : List UInt8) (hS : S.length ≤ 9223372036854775807) (w : World) (hnv : NotV w) (hh : As.Handle w) : Calls Tryz.prog 45 #[.string ⟨S.toArray⟩, .func (Fn.func 46) #[] #[], .func (Fn.func 47) #[] #[]] w (ParseOk S w) := by
  have b1 : Below w.heap.size w (w.alloc (.cells #[.int .i64 0, .int .i64 0, .string ⟨#[]⟩, .slice none 0 0] ET)) := box_below _ _
  have B1 := hid (Blk.new w ET [.int .i64 0, .int .i64 0, .string ⟨#[]⟩, .slice none 0 0])
  have z1 : (w.alloc (.cells #[.int .i64 0, .int .i64 0, .string ⟨#[]⟩, .slice none 0 0] ET)).heap.size = w.heap.size + 1 := size_alloc' _ _
  have hn := whole_any S hS (w.alloc (.cells #[.int .i64 0, .int .i64 0, .string ⟨#[]⟩, .slice none 0 0] ET)) (hnv.below b1)
  have hn := hid hn
  have b1 := hid b1
  have hh := hid hh
  go_enter Tryz.func45, Tryz.ntmps45
  go_wp2_with fail
  generalize (w.alloc (.cells #[.int .i64 0, .int .i64 0, .string ⟨#[]⟩, .slice none 0 0] ET)) = w1 at *
  refine hn.out.mono ?_
  rintro e w2 ⟨K, N, s, A, L, cc, t, x, rfl, ho, hb, hE⟩
  have z2 := hb.size
  have B2 := B1.out.below hb B1.out.lt
  have b2 := b1.out.trans (hb.mono b1.out.size)
  have b3 : Below w2.heap.size w2 (w2.alloc (.cells #[.int .i64 K, .int .i64 N, .string ⟨s.toArray⟩, .slice A L cc] ET)) := box_below _ _
  have z3 : (w2.alloc (.cells #[.int .i64 K, .int .i64 N, .string ⟨s.toArray⟩, .slice A L cc] ET)).heap.size = w2.heap.size + 1 := size_alloc' _ _
  have B3 := B2.below b3 B2.lt
  have q3 : Blk (w2.alloc (.cells #[.int .i64 K, .int .i64 N, .string ⟨s.toArray⟩, .slice A L cc] ET)) w2.heap.size ET [.int .i64 K, .int .i64 N, .string ⟨s.toArray⟩, .slice A L cc] := Blk.new w2 ET _
  have bb3 := b2.trans (b3.mono b2.size)
  have o3 := ho.same (same_below b3 (Nat.le_refl _))
  have hh3 := hid (hand_below hh.out bb3)
  clear hb ho b3 b2 B2 b1 B1 hn
  cases hP : parseR S with
  | ok t' =>
    rw [hP] at hE
    obtain ⟨rfl, rfl⟩ := hE
    have hV := hid (parseV_ok hP)
    have hf := ans_fin B3 o3 (by omega) (by omega) bb3
    have hf1 := hid hf.1
    have hf2 := hid hf.2
    obtain ⟨m0, m1, m2, m3⟩ := four q3
    obtain ⟨r0, r1, r2, r3⟩ := four B3
    have y0 := B3.frozen 0
    have y1 := B3.frozen 1
    have y2 := B3.frozen 2
    have y3 := B3.frozen 3
    clear hf B3 q3 o3 bb3 hP
    go_wp2_with fail
    exact bodyPost_ret (results_cell2 Tryz.results45 _ _ w.heap.size 29 _ (0, 0) _ rfl hf1.out Tryz.underlying29 rfl (by kernel_rfl)) rfl ⟨_, _, _, _, _, _, by rw [hV.out]; rfl, by rw [hV.out]; exact hf2.out.1, hf2.out.2⟩
  | error a =>
    rw [hP] at hE
    have hV := hid (parseV_err hP)
    have B3 := hid B3
    have bb3 := hid bb3
    clear hP o3 q3
    have off : ∀ w4, Calls Tryz.prog 95 #[x] w4 (fun e w' => e = .returned (.int .i64 a) ∧ Below w4.heap.size w4 w') ∨ ¬ As.Handle w4 := fun w4 => by
      by_cases h : As.Handle w4
      · left
        rcases hE with rfl | ⟨rfl, p, rfl⟩
        · exact off_hit a _ h
        · exact off_miss p _ h
      · exact Or.inr h
    have off := hid (fun w4 (h : As.Handle w4) => (off w4).resolve_right fun hn => hn h)
    obtain ⟨xT, xv, rfl⟩ : ∃ T v, x = .iface T v := by
      rcases hE with rfl | ⟨_, p, rfl⟩
      · exact ⟨_, _, rfl⟩
      · exact ⟨_, _, rfl⟩
    clear hE
    go_wp2_with fail
    generalize (w2.alloc (.cells #[.int .i64 K, .int .i64 N, .string ⟨s.toArray⟩, .slice A L cc] ET)) = w3 at *
    have b4 := box_below w3 (.cells #[.int .i64 0, .int .i64 0, .string ⟨#[]⟩, .slice none 0 0] ET)
    have z4 : (w3.alloc (.cells #[.int .i64 0, .int .i64 0, .string ⟨#[]⟩, .slice none 0 0] ET)).heap.size = w3.heap.size + 1 := size_alloc' _ _
    have q4 : Blk (w3.alloc (.cells #[.int .i64 0, .int .i64 0, .string ⟨#[]⟩, .slice none 0 0] ET)) (w2.heap.size + 1) ET [.int .i64 0, .int .i64 0, .string ⟨#[]⟩, .slice none 0 0] := by rw [← z3]; exact Blk.new w3 ET _
    have B4 := hid (B3.out.below b4 B3.out.lt)
    have bb4 := hid (bb3.out.trans (b4.mono bb3.out.size))
    have h4 := hid (hand_below (hand_below hh3.out b4) ((Below.refl _ _).drew))
    obtain ⟨k0, k1, k2, k3⟩ := four q4
    replace q4 := hid q4
    clear b4 B3 bb3 hh3 hn hh b1
    generalize (w3.alloc (.cells #[.int .i64 0, .int .i64 0, .string ⟨#[]⟩, .slice none 0 0] ET)) = w4 at *
    have step : ∀ W, Below w4.drew.heap.size w4.drew W → Hid (Blk W (w2.heap.size + 1) ET [.int .i64 0, .int .i64 0, .string ⟨#[]⟩, .slice none 0 0]) ∧ Hid (Blk W w.heap.size ET [.int .i64 0, .int .i64 0, .string ⟨#[]⟩, .slice none 0 0]) ∧ Hid (Below w.heap.size w W) := fun W hW => by
      have hW' : Below w4.heap.size w4 W := (Below.refl _ w4).drew.trans hW
      exact ⟨hid (q4.out.below hW' q4.out.lt), hid (B4.out.below hW' B4.out.lt), hid (bb4.out.trans (hW'.mono bb4.out.size))⟩
    go_region_with (first
      | (go_at_call 95; refine (off.out _ h4.out).mono ?_; rintro e w5 ⟨rfl, hb⟩; obtain ⟨Q5, B5, bb5⟩ := step w5 hb; obtain ⟨n0, n1, n2, n3⟩ := four Q5.out; obtain ⟨r0, r1, r2, r3⟩ := four B5.out; have y0 := B5.out.frozen 0; have y1 := B5.out.frozen 1; have y2 := B5.out.frozen 2; have y3 := B5.out.frozen 3))
    all_goals
      have hf := ans_fin (K := 0) (N := 0) (s := []) B5.out (OwnE.leaf w5 (w.heap.size + 1) (w.heap.size + 1)) (Nat.lt_succ_self _) B5.out.lt bb5.out
      have hf1 := hid hf.1
      have hf2 := hid hf.2
      clear hf step q4 Q5 B5 bb5 n0 n1 n2 n3 r0 r1 r2 r3 y0 y1 y2 y3 k0 k1 k2 k3 off
      go_wp2_with fail
      exact bodyPost_ret (results_cell2 Tryz.results45 _ _ w.heap.size 29 _ (0, 0) _ rfl hf1.out Tryz.underlying29 rfl (by kernel_rfl)) rfl ⟨_, _, _, _, _, _, by rw [hV.out]; rfl, by rw [hV.out]; exact hf2.out.1, hf2.out.2⟩
end Go.Proofs.YtjglllpemhkkdaaGreatDoor.Tk
