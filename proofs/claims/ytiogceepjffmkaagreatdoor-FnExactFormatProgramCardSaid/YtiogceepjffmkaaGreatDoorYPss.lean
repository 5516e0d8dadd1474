/- Places of lists of nodes: keys compared; the place of a list. -/
import Derived.Test.YtiogceepjffmkaaGreatDoorYKd
import Derived.Test.YtiogceepjffmkaaGreatDoorYSt1
import Derived.StillTailTactics
import Derived.Maps.OwnOps
import Derived.Test.YtiogceepjffmkaaGreatDoorYShelf
import Derived.Sort.OwnSorted
import Derived.Lib.RowBridge
set_option maxHeartbeats 4000000
set_option maxRecDepth 100000
namespace Go.Proofs.YtiogceepjffmkaaGreatDoor.Gs
open Go.RowKit Go.Lib Go.Sort Com Mem Im Ag Pl
abbrev ET : TypeId := 60
abbrev PT : TypeId := 161
theorem wideP : WideK Tryz.prog PT := ⟨_, Tryz.underlying161, fun _ _ => rfl⟩
theorem check_place (A : Option Addr) (n : Nat) (w : World) (em : Bool) : (Instr.checkKey em 10000 PT (encP (A, n))).run Tryz.prog w = .ok () w := by kernel_rfl
theorem sizeE : ∃ i, Tryz.prog.info? ET = some i ∧ i.size ≠ 0 := by
  have h : (Tryz.prog.info? ET).map (fun i => i.size) = some 8 := by kernel_rfl
  obtain ⟨i, hi, e⟩ := Option.map_eq_some_iff.1 h
  exact ⟨i, hi, by rw [e]; decide⟩
theorem part_P (x y : Value) (w : World) : (part 159 #[x, y] 0).run Tryz.prog w = .ok x w := by kernel_rfl
theorem part_N (x y : Value) (w : World) : (part 3 #[x, y] 1).run Tryz.prog w = .ok y w := by kernel_rfl
theorem fields_P : ∃ f g, (Tryz.prog.fieldsOf PT).toList = [f, g] ∧ f.name ≠ "_" ∧ f.type = 159 ∧ f.offset = 0 ∧ g.name ≠ "_" ∧ g.type = 3 ∧ g.offset = 1 := ⟨_, _, rfl, by decide, rfl, rfl, by decide, rfl, rfl⟩
theorem eq_placeD (d : Nat) {w : World} {k k' : Pk} (h : PtOk w k.1) (h' : PtOk w k'.1) : (Op.equalIn (d + 2) PT (encP k) (encP k')).run Tryz.prog w = .ok (decide (k' = k)) w := by
  obtain ⟨i, hi, hz⟩ := sizeE
  have hp : Tryz.prog.underlying 159 = some (.pointer ET) := Tryz.underlying159
  have hn : Tryz.prog.underlying 3 = some (.int .i64) := Tryz.underlying3
  have he := ptr_eq hp hi hz d h h'
  have he2 := int_eqIn (w := w) hn d (k.2 : Int) (k'.2 : Int)
  have hpd := pair_dec k.1 k'.1 k.2 k'.2
  rw [run_equalIn_struct w (d + 1) PT _ _ (by kernel_rfl) (by kernel_rfl)]
  obtain ⟨f, g, e1, e2, e3, e4, e5, e6, e7⟩ := fields_P
  rw [e1]
  unfold Op.eqFields
  rw [if_pos e2, e3, e4]
  simp only [Sem.run_bind, part_P, Result.andThen_ok, he]
  unfold Op.eqFields
  rw [if_pos e5, e6, e7]
  cases hd : decide (k.1 = k'.1) with
  | false =>
    rw [hd, Bool.false_and] at hpd
    rw [← hpd]
    simp
  | true =>
    rw [hd, Bool.true_and] at hpd
    rw [← hpd]
    simp only [Bool.not_true, Bool.false_eq_true, if_false, Sem.run_bind, part_N, Result.andThen_ok, he2]
    unfold Op.eqFields
    cases ((k.2 : Int) == (k'.2 : Int)) <;> simp
theorem eq_place {w : World} {k k' : Pk} (h : PtOk w k.1) (h' : PtOk w k'.1) : (Op.equal PT (encP k) (encP k')).run Tryz.prog w = .ok (decide (k' = k)) w := eq_placeD 9998 h h'
theorem bits_P (k : Pk) : ∀ n, Instr.sameBits (n + 1) (encP k) (encP k) = true := fun n => by simp [Instr.sameBits]
theorem dec_place {w : World} {k : Pk} {l : List (Pk × Value)} (h : PtOk w k.1) (hl : ∀ p ∈ l, PtOk w p.1.1) : Dec Tryz.prog encP PT w k l :=
  ⟨fun w em => check_place k.1 k.2 w em, fun p hp => eq_place h (hl p hp), bits_P k 9999⟩
theorem placeOf_any (A : Option Addr) (l c : Nat) (hA : l ≠ 0 → ∃ ad, A = some ad) (w : World) : Calls Tryz.prog 141 #[.slice A l c] w fun e w' => e = .returned (encP (if l = 0 then none else A, l)) ∧ Below w.heap.size w w' := by
  by_cases hl : l = 0
  · subst hl
    rw [if_pos rfl]
    go_enter Tryz.func141, Tryz.ntmps141
    go_wp2_with fail
    refine bodyPost_ret (results_cell_row Tryz.results141 _ _ w.heap.size PT _ (0, 0) _ rfl (heap_alloc_new w _) Tryz.underlying161 rfl (by kernel_rfl)) rfl ⟨rfl, (Below.refl _ _).alloc (Nat.le_refl _) _⟩
  · rw [if_neg hl]
    obtain ⟨ad, rfl⟩ := hA hl
    have t0 : ((l : Int) == 0) = false := beq_false_of_ne (by omega)
    have t1 : (0 : Int) < (l : Int) := by omega
    go_enter Tryz.func141, Tryz.ntmps141
    go_wp2_with fail
    refine bodyPost_ret (results_cell_row Tryz.results141 _ _ w.heap.size PT _ (0, 0) _ rfl (heap_alloc_new w _) Tryz.underlying161 rfl (by kernel_rfl)) rfl ⟨rfl, (Below.refl _ _).alloc (Nat.le_refl _) _⟩
open Tr Kd
abbrev LT : TypeId := 157
abbrev RT : TypeId := 163
theorem addWO (x y : Nat) (h : x + y ≤ 9223372036854775807) (w : World) : Calls Tryz.prog 106 #[.int .i64 x, .int .i64 y] w fun e w' => e = .returned (.int .i64 ((x + y : Nat) : Int)) ∧ w' = w := by
  have e0 : IntKind.i64.wrap (9223372036854775807 - (y : Int)) = 9223372036854775807 - (y : Int) := IntWalk.i64_in _ (by omega)
  have t0 : decide (9223372036854775807 - (y : Int) < (x : Int)) = false := decide_eq_false (by omega)
  have e1 : IntKind.i64.wrap ((x : Int) + (y : Int)) = (x : Int) + (y : Int) := IntWalk.i64_in _ (by omega)
  go_enter Tryz.func106, Tryz.ntmps106
  go_wp2_with fail
  go_ret
  exact ⟨by rw [Int.natCast_add]; rfl, rfl⟩
theorem zeroR (w : World) : (zeroValue RT).run Tryz.prog w = .ok (.agg #[.slice none 0 0, .int .i64 0]) w := by kernel_rfl
theorem fieldT (A : Option Addr) (l c : Nat) (x : Int) (w : World) : (Instr.field RT (.agg #[.slice A l c, .int .i64 x]) 1).run Tryz.prog w = .ok (.int .i64 x) w := by kernel_rfl
theorem add0 (mb : Nat) (A : Option Addr) (c : Nat) (m : Int) (w : World) : Calls Tryz.prog 105 #[.map (some mb), .slice A 0 c, .int .i64 m] w fun e w' => e = .returned (.tuple #[]) ∧ w' = w := by
  go_enter Tryz.func105, Tryz.ntmps105
  go_wp2_with fail
  go_end0
  exact ⟨rfl, rfl⟩
theorem add1 (mb : Nat) (h : He Gd.St) (ln : LN Gd.St) (m : Nat) (ad : Addr) (hA : ln.A = some ad) (hne : ln.ks ≠ []) (w : World) (hm : EMap encP w mb (kvH h)) (hP : IsPl w ad.block) (hh : ∀ p ∈ h, PtOk w p.1.key.1) (hbd : getE h ln.key + m ≤ 9223372036854775807) :
    Calls Tryz.prog 105 #[.map (some mb), slv ln, .int .i64 m] w fun e w' => e = .returned (.tuple #[]) ∧ EMap encP w' mb (kvH (addE h ln m)) ∧ w.grownBy w' (some mb) := by
  obtain ⟨A, c, ks⟩ := ln
  obtain rfl : A = some ad := hA
  have hkey : (LN.mk (some ad) c ks).key = (some ad, ks.length) := LN.key_ne hne
  have hput := aput_kvH h ⟨some ad, c, ks⟩ m
  obtain ⟨A0, l0, c0, hget⟩ := aget_kvH h (LN.mk (some ad) c ks).key
  rw [hkey] at hbd hget
  rw [hkey] at hput
  have hpos : 0 < ks.length := List.length_pos_iff.2 hne
  have hlk : ks.length = ks.length := rfl
  show Calls _ _ #[.map (some mb), .slice (some ad) ks.length c, .int .i64 m] w _
  have hput : aput (kvH h) (some ad, ks.length) (.agg #[.slice (some ad) ks.length c, .int .i64 ((getE h (some ad, ks.length) + m : Nat) : Int)]) = kvH (addE h ⟨some ad, c, ks⟩ m) := hput
  generalize ks.length = l at *
  generalize kvH (addE h ⟨some ad, c, ks⟩ m) = fin at *
  generalize hg : getE h (some ad, l) = x at *
  replace hput := hid hput
  replace hget := hid hget
  have tl : decide ((0 : Int) < (l : Int)) = true := decide_eq_true (by omega)
  have hpl := placeOf_any (some ad) l c (fun _ => ⟨ad, rfl⟩) w
  rw [if_neg (by omega)] at hpl
  replace hpl := hid hpl
  have hmb := hm.lt
  have hk : ∀ p ∈ kvH h, PtOk w p.1.1 := fun p hp => by
    obtain ⟨q, hq, rfl⟩ := List.mem_map.1 hp
    exact hh q hq
  replace hk := hid hk
  replace hm := hid hm
  replace hP := hid hP
  generalize kvH h = kvs at *
  clear hh hg hne hkey
  go_enter Tryz.func105, Tryz.ntmps105
  go_wp2_with fail
  refine hpl.out.mono ?_
  rintro e w1 ⟨rfl, hb⟩
  have hb := hid (hb.trans ((box_below w1 (.cells #[.pointer (some ad), .int .i64 (l : Int)] PT)).mono hb.size))
  have hB := Blk.new w1 PT [.pointer (some ad), .int .i64 (l : Int)]
  have hB := hid hB
  clear hpl
  go_wp2_with fail
  obtain ⟨W2, hW2⟩ : ∃ W2 : World, W2 = (w1.alloc (.cells #[.pointer (some ad), .int .i64 (l : Int)] PT)) := ⟨_, rfl⟩
  rw [← hW2] at hb hB ⊢
  have b0 : ({ W2 with drawn := W2.drawn + 1 } : World).cell? ⟨w1.heap.size, 0, none⟩ = some (.pointer (some ad)) := hB.out.cell 0
  have b1 : ({ W2 with drawn := W2.drawn + 1 } : World).cell? ⟨w1.heap.size, 1, none⟩ = some (.int .i64 (l : Int)) := hB.out.cell 1
  have hb3 : Below w.heap.size w ({ W2 with drawn := W2.drawn + 1 } : World) := ⟨hb.out.os, hb.out.tape, hb.out.output, hb.out.size, hb.out.block⟩
  clear hb hB
  refine wp_region_still_tail 10 (by kernel_rfl) (by kernel_rfl) ?_
  generalize ({ W2 with drawn := W2.drawn + 1 } : World) = W3 at *
  have hm3 := hid (hm.out.below hb3 hmb)
  have hD3 := hid (dec_place (w := W3) (k := (some ad, l)) (l := kvs) (PtOk_go (fun a e => by cases e; exact hP.out) hb3) (fun p hp => PtOk_go (hk.out p hp) hb3))
  have hlook : (Instr.lookup LT (.map (some mb)) (encP (some ad, l)) false).run Tryz.prog W3 = .ok (.agg #[.slice A0 l0 c0, .int .i64 (x : Nat)]) W3 := by
    have h1 := run_look hm3.out Tryz.underlying157 wideP hD3.out (zeroR W3) false
    rw [if_neg (by decide), hget.out] at h1
    exact h1
  have hb3 := hid hb3
  simp only [List.take_succ_cons, List.take_zero, List.drop_succ_cons, List.drop_zero]
  have qf := fieldT A0 l0 c0 (x : Nat)
  repeat still_step
  have hadd := hid (addWO x m hbd W3)
  still_call hadd.out
  repeat still_step
  refine wpStill_nil ?_
  go_wp2_with (at_mapUpdate; refine wpList_aput rfl _ _ _ (Or.inr rfl) Tryz.underlying157 wideP mb kvs hm3.out (some ad, l) (.agg #[.slice (some ad) l c, .int .i64 ((x + m : Nat) : Int)]) hD3.out rfl rfl rfl ?_; intro w4 hm4 hg4 _)
  go_end0
  exact ⟨rfl, by rw [← hput.out]; exact hm4, gb_trans ⟨hb3.out.os, hb3.out.tape, hb3.out.output, hb3.out.size, fun k hk _ => hb3.out.block k hk⟩ hg4⟩
end Go.Proofs.YtiogceepjffmkaaGreatDoor.Gs
set_option maxRecDepth 100000
namespace Go.Proofs.YtiogceepjffmkaaGreatDoor.C1
open Go.RowKit Go.Lib Num Com
theorem rfl0 : itoa 0 = [48] := by unfold itoa; rw [if_neg (by omega)]; exact decDigits_one (by omega)
theorem fmt_zero (w : World) : Calls Tryz.prog 173 #[.int .i64 0] w fun e w' => e = .returned (.string ⟨(itoa 0).toArray⟩) ∧ Below w.heap.size w w' := by
  rw [show itoa 0 = [48] from rfl0]
  go_enter Tryz.func173, Tryz.ntmps173
  go_wp2
  go_ret
  exact ⟨rfl, Below.refl _ _⟩
theorem fmt_pos (n : Nat) (h0 : 0 < n) (h1 : n ≤ 9223372036854775807) (w : World) : Calls Tryz.prog 173 #[.int .i64 n] w fun e w' => e = .returned (.string ⟨(decDigits n).toArray⟩) ∧ Below w.heap.size w w' := by
  have hn0 : ((n : Int) == 0) = false := beq_eq_false_iff_ne.2 (by omega)
  have hlt : decide ((n : Int) < 0) = false := by simp
  go_enter Tryz.func173, Tryz.ntmps173
  go_wp2
  go_loopw [0, 4] (fun a o wr => ∃ (k : Nat) (l : List UInt8), k ≤ n ∧ a = .int .i64 k ∧ o = .string ⟨l.toArray⟩ ∧ digs k ++ l = digs n ∧ Below w.heap.size w wr) (fun a _ _ => (Go.RowKit.intOf a).toNat)
  case atStart => exact ⟨n, [], Nat.le_refl _, rfl, rfl, List.append_nil _, Below.refl _ _⟩
  case round =>
    obtain ⟨k, l, hk, rfl, rfl, hl, hb⟩ := hrel
    by_cases hk0 : k = 0
    · subst hk0
      go_wp2
      go_ret
      exact ⟨by simp [digs] at hl; rw [if_neg (by omega)] at hl; simp [hl], hb⟩
    · have hkne : ((k : Int) != 0) = true := by rw [bne_iff_ne]; omega
      have hm : decide ((k : Int) % 10 < 0) = false := by simp; omega
      have hcv := run_str1 wr (48 + (k : Int) % 10) (by omega) (by omega)
      have hsz : l.length ≤ 20 := by
        have := congrArg List.length hl
        rw [List.length_append, digs_len n (by omega)] at this
        have := nDigits_le20 n (by omega)
        omega
      go_wp2
      refine ⟨⟨k / 10, UInt8.ofNat (48 + k % 10) :: l, by omega, by go_num, str_cons _ _, ?_, hb.alloc hb.size _⟩, by simp [Go.RowKit.intOf]; omega⟩
      rw [← hl, digs_step hk0]; simp
theorem fmt_neg (n : Nat) (h0 : 0 < n) (h1 : n ≤ 9223372036854775808) (w : World) : Calls Tryz.prog 173 #[.int .i64 (-(n : Int))] w fun e w' => e = .returned (.string ⟨(45 :: decDigits n).toArray⟩) ∧ Below w.heap.size w w' := by
  have hn0 : ((-(n : Int)) == 0) = false := beq_eq_false_iff_ne.2 (by omega)
  have hlt : decide (-(n : Int) < 0) = true := by simp; omega
  go_enter Tryz.func173, Tryz.ntmps173
  go_wp2
  go_loopw [0, 4] (fun a o wr => ∃ (k : Nat) (l : List UInt8), k ≤ n ∧ a = .int .i64 (-(k : Int)) ∧ o = .string ⟨l.toArray⟩ ∧ digs k ++ l = digs n ∧ Below w.heap.size w wr) (fun a _ _ => (- Go.RowKit.intOf a).toNat)
  case atStart => exact ⟨n, [], Nat.le_refl _, rfl, rfl, List.append_nil _, Below.refl _ _⟩
  case round =>
    obtain ⟨k, l, hk, rfl, rfl, hl, hb⟩ := hrel
    have hsz : l.length ≤ 20 := by
      have := congrArg List.length hl
      rw [List.length_append, digs_len n (by omega)] at this
      have := nDigits_le20 n (by omega)
      omega
    by_cases hk0 : k = 0
    · subst hk0
      go_wp2
      go_ret
      refine ⟨congrArg Ending.returned (congrArg Value.string ((ByteArray.mk_append_mk [45] l).trans ?_)), hb⟩
      simp [digs] at hl; rw [if_neg (by omega)] at hl; rw [hl]; rfl
    · have hkne : ((-(k : Int)) != 0) = true := by rw [bne_iff_ne]; omega
      have hm : (-(k : Int)).tmod 10 = -((k % 10 : Nat) : Int) := by rw [Int.neg_tmod, Int.tmod_eq_emod_of_nonneg (by omega)]; omega
      have hq : (-(k : Int)).tdiv 10 = -((k / 10 : Nat) : Int) := by rw [Int.neg_tdiv, Int.tdiv_eq_ediv_of_nonneg (by omega)]; omega
      have hst : digs (k / 10) ++ UInt8.ofNat (48 + k % 10) :: l = digs n := by rw [← hl, digs_step hk0]; simp
      by_cases hz : k % 10 = 0
      · have hcv := run_str1 wr 48 (by omega) (by omega)
        have hst := hid hst
        go_wp2
        refine ⟨⟨k / 10, UInt8.ofNat (48 + k % 10) :: l, by omega, by go_num, ?_, hst.out, hb.alloc hb.size _⟩, by simp [Go.RowKit.intOf]; omega⟩
        rw [hz]; exact str_cons 0 l
      · have hcv := run_str1 wr (48 + (k : Int) % 10) (by omega) (by omega)
        have hpos : 0 < (k : Int) % 10 := by omega
        have hst := hid hst
        go_wp2
        refine ⟨⟨k / 10, UInt8.ofNat (48 + k % 10) :: l, by omega, by go_num, str_cons _ _, hst.out, hb.alloc hb.size _⟩, by simp [Go.RowKit.intOf]; omega⟩
theorem fmt_any (n : Int) (h0 : -9223372036854775808 ≤ n) (h1 : n ≤ 9223372036854775807) (w : World) : Calls Tryz.prog 173 #[.int .i64 n] w fun e w' => e = .returned (.string ⟨(itoa n).toArray⟩) ∧ Below w.heap.size w w' := by
  rcases Int.lt_trichotomy n 0 with h | h | h
  · obtain ⟨k, rfl⟩ : ∃ k : Nat, n = -(k : Int) := ⟨n.natAbs, by omega⟩
    have e : itoa (-(k : Int)) = 45 :: decDigits k := by unfold itoa; rw [if_pos h, Int.natAbs_neg, Int.natAbs_natCast]
    rw [e]; exact fmt_neg k (by omega) (by omega) w
  · subst h; exact fmt_zero w
  · obtain ⟨k, rfl⟩ : ∃ k : Nat, n = (k : Int) := ⟨n.toNat, by omega⟩
    have e : itoa (k : Int) = decDigits k := by unfold itoa; rw [if_neg (by omega), Int.toNat_natCast]
    rw [e]; exact fmt_pos k (by omega) (by omega) w
end Go.Proofs.YtiogceepjffmkaaGreatDoor.C1
set_option maxRecDepth 100000
namespace Go.Proofs.YtiogceepjffmkaaGreatDoor.C2
open Go.RowKit Go.Lib Go.Sort Com Mem Ow YtiogceepjffmkaaGreatDoor.Nm
theorem own_compact {w : World} {base g cap q : Nat} {e : TypeId} {cur : Array Value} {zs ts : List (List UInt8)} (hl : ts.length ≤ zs.length) (hbase : base ≤ g) (hb : w.heap[g]? = some (.cells cur e (0, 0))) (h1 : zs.length ≤ cap) (h2 : cap ≤ maxLen) (h3 : cur.size = cap * 1) :
    (putRow encStr (Sort.ahead w q) g 0 (ts ++ List.replicate (zs.length - ts.length) []).toArray).ownsRow base e 1 (.slice (some ⟨g, 0, none⟩) ts.length cap) ts.length (ts.map sv) := by
  have h := ownsRow_sorted (n := q) (os := #[]) (ss := zs) (ts := ts ++ List.replicate (zs.length - ts.length) []) (by simp; omega) hbase hb h1 h2 h3
  rw [grow_empty] at h
  have h' := own_take (k := ts.length) h hl (by simp)
  have e1 : ((ts ++ List.replicate (zs.length - ts.length) []).map encStr).take ts.length = ts.map sv := by
    rw [List.map_append, List.take_append_of_le_length (by simp), List.take_of_length_le (by simp)]
  rw [e1] at h'; exact h'
theorem sort_any (A : Option Addr) (c : Nat) (L : List (List UInt8)) (w : World) (h : Rd w w.heap.size A (L.map sv)) (hA : A = none → c = 0) (hn : L.length ≤ 2000000) :
    Calls Tryz.prog 194 #[.slice A L.length c] w fun e w' => ∃ v, e = .returned v ∧ Grow 9 w w' v ((sortU L).map sv) := by
  have hA' : A = none → L.length = 0 ∧ c = 0 := fun hx => by
    refine ⟨?_, hA hx⟩
    subst hx
    cases L with
    | nil => rfl
    | cons x r => obtain ⟨ad, e, _⟩ := h (by simp); cases e
  have hgr := hid (Grow.nil_ (w := w) w 9 (Below.refl _ _))
  have hone := hid (show ∀ u ∈ L.map sv, u.oneCell' = true from fun u hu => by obtain ⟨l, _, rfl⟩ := List.mem_map.1 hu; rfl)
  have hcs := compact_sort L
  have hlen := List.length_mergeSort (le := fun x y : List UInt8 => decide (x ≤ y)) L
  have hul := sortU_len L
  generalize hM : (L.mergeSort fun x y => decide (x ≤ y)) = M at *
  by_cases h0 : L = []
  · subst h0
    go_enter Tryz.func194, Tryz.ntmps194
    go_wp2_with (at_builtin; refine hgr.out.appendAll strT A 0 c w.heap.size [] rfl (fun e => ⟨rfl, hA e⟩) Rd.nil_ hone.out (by simp) rfl _ _ rfl rfl rfl ?_; intro v1 w1 hg1 _ hv1; obtain rfl : v1 = .slice none 0 0 := hv1.2 ⟨rfl, rfl⟩; have hg1 := hid hg1)
    refine (Tryz.slices_Sort_string_none none 0 _).mono ?_
    rintro e w2 ⟨rfl, rfl⟩
    go_wp2_with fail
    refine (Tryz.slices_Compact_string_empty none 0 _).mono ?_
    rintro e w2 ⟨rfl, rfl⟩
    go_wp2_with fail
    go_ret
    exact ⟨_, rfl, hg1.out⟩
  · have hpos : 0 < L.length := List.length_pos_iff.2 h0
    have hrd := hid h
    have hA' := hid hA'
    have hcs := hid hcs
    have hlen := hid hlen
    clear h hA
    go_enter Tryz.func194, Tryz.ntmps194
    go_wp2_with (at_builtin; refine hgr.out.appendAll strT A L.length c w.heap.size (L.map sv) (by simp) hA'.out hrd.out hone.out (by simp; omega) rfl _ _ rfl rfl rfl ?_; intro v1 w1 hg1 _ hv1; have hg1 := hid hg1; obtain ⟨g, cap, cur, rfl, hb, hblk, hnc, hcm, hsz, htk⟩ := hg1.out.some_ (fun e => by have := (hv1.1 e).2; omega); clear hv1)
    simp only [List.nil_append, List.length_map] at hnc htk
    have hgl : g < w1.heap.size := (Array.getElem?_eq_some_iff.1 hblk).1
    have hblk2 := fun n os => heap_sorted (n := n) (os := os) M.toArray hblk
    have hH := hid (holds_of_block hblk (by simpa using htk))
    have hcm := hid hcm
    go_wp2_with fail
    refine (Tryz.slices_Sort_string g 0 cap L w1 hH.out hgl (by omega)).mono ?_
    rintro e w2 ⟨rfl, n, os, rfl⟩
    rw [hM]
    have hb2 := hid (hg1.out.2.grown (grownBy_sorted (n := n) (os := os) M.toArray) hg1.out.2.size (fun j hj => by cases hj; exact hb))
    have hblk2 := hblk2 n os
    have hH2 := hid (holds_of_block (ss := M) hblk2 (take_putCells cur M (by rw [hlen.out]; omega)))
    generalize grow (putRow encStr (Sort.ahead w1 n) g 0 M.toArray) os = w2 at *
    have hsz2 : (putCells encStr 0 M.toArray cur).size = cap * 1 := by simp [putCells]; omega
    have hfin := hid (fun q => own_compact (q := q) (ts := compact M) (compact_length_le M) hb hblk2 (by rw [hlen.out]; exact hnc) hcm.out hsz2)
    have hgb := hid (fun q (d : List (List UInt8)) => by have := grownBy_sorted (w := w2) (g := g) (n := q) (os := #[]) d.toArray; rwa [grow_empty] at this)
    clear hblk2 hblk htk hsz hsz2 hH hgr
    have hcp := hid (Tryz.slices_Compact_string g 0 cap M w2 hH2.out (by rw [hlen.out]; omega) (by rw [hlen.out]; exact hnc))
    rw [hlen.out] at hcp
    go_wp2_with fail
    refine hcp.out.mono ?_
    rintro e w3 ⟨rfl, q, rfl⟩
    have h3 := hid (hb2.out.grown (hgb.out q (compact M ++ List.replicate (L.length - (compact M).length) [])) hb2.out.size (fun j hj => by cases hj; exact hb))
    have h4 := hfin.out q
    rw [hlen.out] at h4
    have h4 := hid h4
    generalize putRow encStr (Sort.ahead w2 q) g 0 (compact M ++ List.replicate (L.length - (compact M).length) []).toArray = w3 at *
    go_wp2_with fail
    go_ret
    rw [← hcs.out]
    exact ⟨_, rfl, by simpa using h4.out, h3.out⟩
end Go.Proofs.YtiogceepjffmkaaGreatDoor.C2
