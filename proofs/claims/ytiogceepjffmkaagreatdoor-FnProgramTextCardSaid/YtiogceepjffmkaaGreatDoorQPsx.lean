/- Places of lists of nodes: keys compared; the place of a list. -/
import Derived.Test.YtiogceepjffmkaaGreatDoorQKd
import Derived.StillTailTactics
import Derived.Maps.OwnOps
import Derived.Test.YtiogceepjffmkaaGreatDoorQS8a
import Derived.Test.YtiogceepjffmkaaGreatDoorQS8f
import Derived.Test.YtiogceepjffmkaaGreatDoorQShelf
import Derived.Sort.OwnSorted
import Derived.Lib.RowBridge
set_option maxHeartbeats 4000000
set_option maxRecDepth 100000
namespace Go.Proofs.YtiogceepjffmkaaGreatDoor.Gx
open Go.RowKit Go.Lib Go.Sort Com Mem Im Ag Pl
abbrev ET : TypeId := 58
abbrev PT : TypeId := 278
theorem wideP : WideK Tryz.prog PT := ⟨_, Tryz.underlying278, fun _ _ => rfl⟩
theorem check_place (A : Option Addr) (n : Nat) (w : World) (em : Bool) : (Instr.checkKey em 10000 PT (encP (A, n))).run Tryz.prog w = .ok () w := by kernel_rfl
theorem sizeE : ∃ i, Tryz.prog.info? ET = some i ∧ i.size ≠ 0 := by
 have h : (Tryz.prog.info? ET).map (fun i => i.size) = some 4 := by kernel_rfl
 obtain ⟨i, hi, e⟩ := Option.map_eq_some_iff.1 h
 exact ⟨i, hi, by rw [e]; decide⟩
theorem part_P (x y : Value) (w : World) : (part 276 #[x, y] 0).run Tryz.prog w = .ok x w := by kernel_rfl
theorem part_N (x y : Value) (w : World) : (part 3 #[x, y] 1).run Tryz.prog w = .ok y w := by kernel_rfl
theorem fields_P : ∃ f g, (Tryz.prog.fieldsOf PT).toList = [f, g] ∧ f.name ≠ "_" ∧ f.type = 276 ∧ f.offset = 0 ∧ g.name ≠ "_" ∧ g.type = 3 ∧ g.offset = 1 := ⟨_, _, rfl, by decide, rfl, rfl, by decide, rfl, rfl⟩
theorem eq_placeD (d : Nat) {w : World} {k k' : Pk} (h : PtOk w k.1) (h' : PtOk w k'.1) : (Op.equalIn (d + 2) PT (encP k) (encP k')).run Tryz.prog w = .ok (decide (k' = k)) w := by
 obtain ⟨i, hi, hz⟩ := sizeE
 have hp : Tryz.prog.underlying 276 = some (.pointer ET) := Tryz.underlying276
 have hn : Tryz.prog.underlying 3 = some (.int .i64) := Tryz.underlying3
 have he := ptr_eq hp hi hz d h h'
 have he2 := int_eqIn (w := w) hn d (k.2 : Int) (k'.2 : Int)
 have hpd := pair_dec k.1 k'.1 k.2 k'.2
 rw [run_equalIn_struct w (d + 1) PT _ _ (by kernel_rfl) (by kernel_rfl)]
 obtain ⟨f, g, e1, e2, e3, e4, e5, e6, e7⟩ := fields_P
 rw [e1]
 unfold Op.eqFields
 rw [if_pos e2, e3, e4]
 simp only [Sem.run_bind, part_P, Result.andThen_ok, he]
 unfold Op.eqFields
 rw [if_pos e5, e6, e7]
 cases hd : decide (k.1 = k'.1) with
 | false =>
  rw [hd, Bool.false_and] at hpd
  rw [← hpd]
  simp
 | true =>
  rw [hd, Bool.true_and] at hpd
  rw [← hpd]
  simp only [Bool.not_true, Bool.false_eq_true, if_false, Sem.run_bind, part_N, Result.andThen_ok, he2]
  unfold Op.eqFields
  cases ((k.2 : Int) == (k'.2 : Int)) <;> simp
theorem eq_place {w : World} {k k' : Pk} (h : PtOk w k.1) (h' : PtOk w k'.1) : (Op.equal PT (encP k) (encP k')).run Tryz.prog w = .ok (decide (k' = k)) w := eq_placeD 9998 h h'
theorem bits_P (k : Pk) : ∀ n, Instr.sameBits (n + 1) (encP k) (encP k) = true := fun n => by simp [Instr.sameBits]
theorem dec_place {w : World} {k : Pk} {l : List (Pk × Value)} (h : PtOk w k.1) (hl : ∀ p ∈ l, PtOk w p.1.1) : Dec Tryz.prog encP PT w k l :=
 ⟨fun w em => check_place k.1 k.2 w em, fun p hp => eq_place h (hl p hp), bits_P k 9999⟩
theorem placeOf_any (A : Option Addr) (l c : Nat) (hA : l ≠ 0 → ∃ ad, A = some ad) (w : World) : Calls Tryz.prog 210 #[.slice A l c] w fun e w' => e = .returned (encP (if l = 0 then none else A, l)) ∧ Below w.heap.size w w' := by
 by_cases hl : l = 0
 ·subst hl
  rw [if_pos rfl]
  go_enter Tryz.func210, Tryz.ntmps210
  go_wp2_with fail
  refine bodyPost_ret (results_cell_row Tryz.results210 _ _ w.heap.size PT _ (0, 0) _ rfl (heap_alloc_new w _) Tryz.underlying278 rfl (by kernel_rfl)) rfl ⟨rfl, (Below.refl _ _).alloc (Nat.le_refl _) _⟩
 ·rw [if_neg hl]
  obtain ⟨ad, rfl⟩ := hA hl
  have t0 : ((l : Int) == 0) = false := beq_false_of_ne (by omega)
  have t1 : (0 : Int) < (l : Int) := by omega
  go_enter Tryz.func210, Tryz.ntmps210
  go_wp2_with fail
  refine bodyPost_ret (results_cell_row Tryz.results210 _ _ w.heap.size PT _ (0, 0) _ rfl (heap_alloc_new w _) Tryz.underlying278 rfl (by kernel_rfl)) rfl ⟨rfl, (Below.refl _ _).alloc (Nat.le_refl _) _⟩
open Tr Kd
end Go.Proofs.YtiogceepjffmkaaGreatDoor.Gx
set_option maxRecDepth 100000
namespace Go.Proofs.YtiogceepjffmkaaGreatDoor.Gs
open Go.RowKit Go.Lib Go.Sort Com Mem Im Ag Pl
abbrev ET : TypeId := 60
abbrev PT : TypeId := 161
theorem wideP : WideK Tryz.prog PT := ⟨_, Tryz.underlying161, fun _ _ => rfl⟩
theorem check_place (A : Option Addr) (n : Nat) (w : World) (em : Bool) : (Instr.checkKey em 10000 PT (encP (A, n))).run Tryz.prog w = .ok () w := by kernel_rfl
theorem sizeE : ∃ i, Tryz.prog.info? ET = some i ∧ i.size ≠ 0 := by
 have h : (Tryz.prog.info? ET).map (fun i => i.size) = some 8 := by kernel_rfl
 obtain ⟨i, hi, e⟩ := Option.map_eq_some_iff.1 h
 exact ⟨i, hi, by rw [e]; decide⟩
theorem part_P (x y : Value) (w : World) : (part 159 #[x, y] 0).run Tryz.prog w = .ok x w := by kernel_rfl
theorem part_N (x y : Value) (w : World) : (part 3 #[x, y] 1).run Tryz.prog w = .ok y w := by kernel_rfl
theorem fields_P : ∃ f g, (Tryz.prog.fieldsOf PT).toList = [f, g] ∧ f.name ≠ "_" ∧ f.type = 159 ∧ f.offset = 0 ∧ g.name ≠ "_" ∧ g.type = 3 ∧ g.offset = 1 := ⟨_, _, rfl, by decide, rfl, rfl, by decide, rfl, rfl⟩
theorem eq_placeD (d : Nat) {w : World} {k k' : Pk} (h : PtOk w k.1) (h' : PtOk w k'.1) : (Op.equalIn (d + 2) PT (encP k) (encP k')).run Tryz.prog w = .ok (decide (k' = k)) w := by
 obtain ⟨i, hi, hz⟩ := sizeE
 have hp : Tryz.prog.underlying 159 = some (.pointer ET) := Tryz.underlying159
 have hn : Tryz.prog.underlying 3 = some (.int .i64) := Tryz.underlying3
 have he := ptr_eq hp hi hz d h h'
 have he2 := int_eqIn (w := w) hn d (k.2 : Int) (k'.2 : Int)
 have hpd := pair_dec k.1 k'.1 k.2 k'.2
 rw [run_equalIn_struct w (d + 1) PT _ _ (by kernel_rfl) (by kernel_rfl)]
 obtain ⟨f, g, e1, e2, e3, e4, e5, e6, e7⟩ := fields_P
 rw [e1]
 unfold Op.eqFields
 rw [if_pos e2, e3, e4]
 simp only [Sem.run_bind, part_P, Result.andThen_ok, he]
 unfold Op.eqFields
 rw [if_pos e5, e6, e7]
 cases hd : decide (k.1 = k'.1) with
 | false =>
  rw [hd, Bool.false_and] at hpd
  rw [← hpd]
  simp
 | true =>
  rw [hd, Bool.true_and] at hpd
  rw [← hpd]
  simp only [Bool.not_true, Bool.false_eq_true, if_false, Sem.run_bind, part_N, Result.andThen_ok, he2]
  unfold Op.eqFields
  cases ((k.2 : Int) == (k'.2 : Int)) <;> simp
theorem eq_place {w : World} {k k' : Pk} (h : PtOk w k.1) (h' : PtOk w k'.1) : (Op.equal PT (encP k) (encP k')).run Tryz.prog w = .ok (decide (k' = k)) w := eq_placeD 9998 h h'
theorem bits_P (k : Pk) : ∀ n, Instr.sameBits (n + 1) (encP k) (encP k) = true := fun n => by simp [Instr.sameBits]
theorem dec_place {w : World} {k : Pk} {l : List (Pk × Value)} (h : PtOk w k.1) (hl : ∀ p ∈ l, PtOk w p.1.1) : Dec Tryz.prog encP PT w k l :=
 ⟨fun w em => check_place k.1 k.2 w em, fun p hp => eq_place h (hl p hp), bits_P k 9999⟩
theorem placeOf_any (A : Option Addr) (l c : Nat) (hA : l ≠ 0 → ∃ ad, A = some ad) (w : World) : Calls Tryz.prog 141 #[.slice A l c] w fun e w' => e = .returned (encP (if l = 0 then none else A, l)) ∧ Below w.heap.size w w' := by
 by_cases hl : l = 0
 ·subst hl
  rw [if_pos rfl]
  go_enter Tryz.func141, Tryz.ntmps141
  go_wp2_with fail
  refine bodyPost_ret (results_cell_row Tryz.results141 _ _ w.heap.size PT _ (0, 0) _ rfl (heap_alloc_new w _) Tryz.underlying161 rfl (by kernel_rfl)) rfl ⟨rfl, (Below.refl _ _).alloc (Nat.le_refl _) _⟩
 ·rw [if_neg hl]
  obtain ⟨ad, rfl⟩ := hA hl
  have t0 : ((l : Int) == 0) = false := beq_false_of_ne (by omega)
  have t1 : (0 : Int) < (l : Int) := by omega
  go_enter Tryz.func141, Tryz.ntmps141
  go_wp2_with fail
  refine bodyPost_ret (results_cell_row Tryz.results141 _ _ w.heap.size PT _ (0, 0) _ rfl (heap_alloc_new w _) Tryz.underlying161 rfl (by kernel_rfl)) rfl ⟨rfl, (Below.refl _ _).alloc (Nat.le_refl _) _⟩
open Tr Kd
abbrev LT : TypeId := 157
abbrev RT : TypeId := 163
theorem addWO (x y : Nat) (h : x + y ≤ 9223372036854775807) (w : World) : Calls Tryz.prog 106 #[.int .i64 x, .int .i64 y] w fun e w' => e = .returned (.int .i64 ((x + y : Nat) : Int)) ∧ w' = w := by
 have e0 : IntKind.i64.wrap (9223372036854775807 - (y : Int)) = 9223372036854775807 - (y : Int) := IntWalk.i64_in _ (by omega)
 have t0 : decide (9223372036854775807 - (y : Int) < (x : Int)) = false := decide_eq_false (by omega)
 have e1 : IntKind.i64.wrap ((x : Int) + (y : Int)) = (x : Int) + (y : Int) := IntWalk.i64_in _ (by omega)
 go_enter Tryz.func106, Tryz.ntmps106
 go_wp2_with fail
 go_ret
 exact ⟨by rw [Int.natCast_add]; rfl, rfl⟩
theorem zeroR (w : World) : (zeroValue RT).run Tryz.prog w = .ok (.agg #[.slice none 0 0, .int .i64 0]) w := by kernel_rfl
theorem fieldT (A : Option Addr) (l c : Nat) (x : Int) (w : World) : (Instr.field RT (.agg #[.slice A l c, .int .i64 x]) 1).run Tryz.prog w = .ok (.int .i64 x) w := by kernel_rfl
theorem add0 (mb : Nat) (A : Option Addr) (c : Nat) (m : Int) (w : World) : Calls Tryz.prog 105 #[.map (some mb), .slice A 0 c, .int .i64 m] w fun e w' => e = .returned (.tuple #[]) ∧ w' = w := by
 go_enter Tryz.func105, Tryz.ntmps105
 go_wp2_with fail
 go_end0
 exact ⟨rfl, rfl⟩
theorem add1 (mb : Nat) (h : He Gd.St) (ln : LN Gd.St) (m : Nat) (ad : Addr) (hA : ln.A = some ad) (hne : ln.ks ≠ []) (w : World) (hm : EMap encP w mb (kvH h)) (hP : IsPl w ad.block) (hh : ∀ p ∈ h, PtOk w p.1.key.1) (hbd : getE h ln.key + m ≤ 9223372036854775807) :
  Calls Tryz.prog 105 #[.map (some mb), slv ln, .int .i64 m] w fun e w' => e = .returned (.tuple #[]) ∧ EMap encP w' mb (kvH (addE h ln m)) ∧ w.grownBy w' (some mb) := by
 obtain ⟨A, c, ks⟩ := ln
 obtain rfl : A = some ad := hA
 have hkey : (LN.mk (some ad) c ks).key = (some ad, ks.length) := LN.key_ne hne
 have hput := aput_kvH h ⟨some ad, c, ks⟩ m
 obtain ⟨A0, l0, c0, hget⟩ := aget_kvH h (LN.mk (some ad) c ks).key
 rw [hkey] at hbd hget
 rw [hkey] at hput
 have hpos : 0 < ks.length := List.length_pos_iff.2 hne
 have hlk : ks.length = ks.length := rfl
 show Calls _ _ #[.map (some mb), .slice (some ad) ks.length c, .int .i64 m] w _
 have hput : aput (kvH h) (some ad, ks.length) (.agg #[.slice (some ad) ks.length c, .int .i64 ((getE h (some ad, ks.length) + m : Nat) : Int)]) = kvH (addE h ⟨some ad, c, ks⟩ m) := hput
 generalize ks.length = l at *
 generalize kvH (addE h ⟨some ad, c, ks⟩ m) = fin at *
 generalize hg : getE h (some ad, l) = x at *
 replace hput := hid hput
 replace hget := hid hget
 have tl : decide ((0 : Int) < (l : Int)) = true := decide_eq_true (by omega)
 have hpl := placeOf_any (some ad) l c (fun _ => ⟨ad, rfl⟩) w
 rw [if_neg (by omega)] at hpl
 replace hpl := hid hpl
 have hmb := hm.lt
 have hk : ∀ p ∈ kvH h, PtOk w p.1.1 := fun p hp => by
  obtain ⟨q, hq, rfl⟩ := List.mem_map.1 hp
  exact hh q hq
 replace hk := hid hk
 replace hm := hid hm
 replace hP := hid hP
 generalize kvH h = kvs at *
 clear hh hg hne hkey
 go_enter Tryz.func105, Tryz.ntmps105
 go_wp2_with fail
 refine hpl.out.mono ?_
 rintro e w1 ⟨rfl, hb⟩
 have hb := hid (hb.trans ((box_below w1 (.cells #[.pointer (some ad), .int .i64 (l : Int)] PT)).mono hb.size))
 have hB := Blk.new w1 PT [.pointer (some ad), .int .i64 (l : Int)]
 have hB := hid hB
 clear hpl
 go_wp2_with fail
 obtain ⟨W2, hW2⟩ : ∃ W2 : World, W2 = (w1.alloc (.cells #[.pointer (some ad), .int .i64 (l : Int)] PT)) := ⟨_, rfl⟩
 rw [← hW2] at hb hB ⊢
 have b0 : ({ W2 with drawn := W2.drawn + 1 } : World).cell? ⟨w1.heap.size, 0, none⟩ = some (.pointer (some ad)) := hB.out.cell 0
 have b1 : ({ W2 with drawn := W2.drawn + 1 } : World).cell? ⟨w1.heap.size, 1, none⟩ = some (.int .i64 (l : Int)) := hB.out.cell 1
 have hb3 : Below w.heap.size w ({ W2 with drawn := W2.drawn + 1 } : World) := ⟨hb.out.os, hb.out.tape, hb.out.output, hb.out.size, hb.out.block⟩
 clear hb hB
 refine wp_region_still_tail 10 (by kernel_rfl) (by kernel_rfl) ?_
 generalize ({ W2 with drawn := W2.drawn + 1 } : World) = W3 at *
 have hm3 := hid (hm.out.below hb3 hmb)
 have hD3 := hid (dec_place (w := W3) (k := (some ad, l)) (l := kvs) (PtOk_go (fun a e => by cases e; exact hP.out) hb3) (fun p hp => PtOk_go (hk.out p hp) hb3))
 have hlook : (Instr.lookup LT (.map (some mb)) (encP (some ad, l)) false).run Tryz.prog W3 = .ok (.agg #[.slice A0 l0 c0, .int .i64 (x : Nat)]) W3 := by
  have h1 := run_look hm3.out Tryz.underlying157 wideP hD3.out (zeroR W3) false
  rw [if_neg (by decide), hget.out] at h1
  exact h1
 have hb3 := hid hb3
 simp only [List.take_succ_cons, List.take_zero, List.drop_succ_cons, List.drop_zero]
 have qf := fieldT A0 l0 c0 (x : Nat)
 repeat still_step
 have hadd := hid (addWO x m hbd W3)
 still_call hadd.out
 repeat still_step
 refine wpStill_nil ?_
 go_wp2_with (at_mapUpdate; refine wpList_aput rfl _ _ _ (Or.inr rfl) Tryz.underlying157 wideP mb kvs hm3.out (some ad, l) (.agg #[.slice (some ad) l c, .int .i64 ((x + m : Nat) : Int)]) hD3.out rfl rfl rfl ?_; intro w4 hm4 hg4 _)
 go_end0
 exact ⟨rfl, by rw [← hput.out]; exact hm4, gb_trans ⟨hb3.out.os, hb3.out.tape, hb3.out.output, hb3.out.size, fun k hk _ => hb3.out.block k hk⟩ hg4⟩
end Go.Proofs.YtiogceepjffmkaaGreatDoor.Gs
set_option maxRecDepth 100000
namespace Go.Proofs.YtiogceepjffmkaaGreatDoor.Kd
open Go.RowKit Tr Gd
def kidsS : St → List (List St)
 | .mk _ _ _ bs es => [bs, es]
def rootS : St → St → Bool
 | .mk k s e _ _, .mk k' s' e' _ _ => (k == k') && ((s == s') && eqT e e')
theorem cntL_sum (L : List St) : Gd.cntL L = (L.map cntSt).sum := by
 induction L with
 | nil => simp [Gd.cntL]
 | cons a r ih => simp [Gd.cntL, ih]
def depS (t : St) : Nat := 1 + depSt t
theorem depL_mx {L : List St} (h : L ≠ []) : Gd.depL L = mx depS L := by
 induction L with
 | nil => exact absurd rfl h
 | cons a r ih =>
  simp only [Gd.depL, mx]
  by_cases hr : r = []
  ·subst hr; simp [Gd.depL, mx, depS]
  ·rw [ih hr]; rfl
theorem sameSL_eqLs : ∀ L L' : List St, sameSL L L' = eqLs sameSt L L'
 | [], [] => by rw [sameSL]; rfl
 | a :: r, b :: q => by rw [sameSL, eqLs, sameSL_eqLs r q]
 | [], _ :: _ => by rw [sameSL]; rfl
 | _ :: _, [] => by rw [sameSL]; rfl
def kqS : Kq St where
 kids := kidsS
 cnt := cntSt
 dep := depS
 cnt_eq := fun t => by
  obtain ⟨k, s, e, bs, es⟩ := t
  rw [cntSt, cntL_sum, cntL_sum]
  simp [kidsS]; omega
 dep_eq := fun t => by
  obtain ⟨k, s, e, bs, es⟩ := t
  show 1 + depSt _ = 1 + Nat.max (mx depS bs) (Nat.max (mx depS es) 0)
  rw [depSt, show Nat.max (mx depS es) 0 = mx depS es from Nat.max_eq_left (Nat.zero_le _)]
  have h : ∀ L : List St, (if L.isEmpty = true then 0 else Gd.depL L) = mx depS L := fun L => by
   cases L with
   | nil => rfl
   | cons a r => rw [if_neg (by simp), depL_mx (by simp)]
  rw [h, h]
 two := fun t => by obtain ⟨k, s, e, bs, es⟩ := t; simp [kidsS]
 root := rootS
 eq := sameSt
 eq_eq := fun a b => by
  obtain ⟨k, s, e, bs, es⟩ := a
  obtain ⟨k', s', e', bs', es'⟩ := b
  rw [sameSt_mk, sameSL_eqLs, sameSL_eqLs]
  simp [kidsS, rootS, eqLs, Bool.and_assoc]
 kids_len := fun a b => by cases a; cases b; rfl
abbrev kdS : Kd St := kqS.toKd
theorem cntL_S (L : List St) : kdS.cntL L = Gd.cntL L := (cntL_sum L).symm
end Go.Proofs.YtiogceepjffmkaaGreatDoor.Kd
set_option maxRecDepth 100000
namespace Go.Proofs.YtiogceepjffmkaaGreatDoor.Gs
open Go.RowKit Go.Lib Go.Sort Com Mem Tr Im Ag Pl Kd
def RdN (W : World) (B : Nat) (cs : List Value) (t : Gd.St) : Prop := Gd.Rd8 W B cs t.d
def LdC (W : World) (a : Addr) (cs : List Value) : Prop := cs.length = 8 ∧ Gd.LdN W a cs
structure LAt (W : World) (B : Nat) (l : LN Gd.St) (rows : Nat → List Value) : Prop where
 cell : ∀ j, j < l.ks.length → ∃ ad, l.A = some ad ∧ ad.block < B ∧ LdC W (ad.add (j * 8)) (rows j)
 kid : ∀ j t, l.ks[j]? = some t → RdN W B (rows j) t
 len : l.ks.length ≤ 9223372036854775807
def LA (W : World) (B : Nat) (l : LN Gd.St) : Prop := ∃ rows, LAt W B l rows
theorem ldC_keep {W W' : World} {a : Addr} {cs : List Value} (h : LdC W a cs) (hk : ∀ p : Addr, p.block = a.block → W'.cell? p = W.cell? p) : LdC W' a cs :=
 ⟨h.1, h.2.keep hk⟩
theorem ldC_out {W : World} {a : Addr} {cs : List Value} (h : LdC (pln W) a cs) : LdC W a cs ∧ IsPl W a.block :=
 ⟨⟨h.1, fun i u hu => (pln_cell (h.2 i u hu)).1⟩, by
  have hl := h.1
  have h0 : cs[0]? = some (cs[0]'(by omega)) := List.getElem?_eq_getElem (by omega)
  have := (pln_cell (h.2 0 _ h0)).2
  rw [add_block] at this; exact this⟩
theorem ldC_cells {W : World} {a : Addr} {cs : List Value} (h : LdC W a cs) : ∃ v0 v1 v2 v3 v4 v5 v6 v7, cs = [v0, v1, v2, v3, v4, v5, v6, v7] ∧ W.cell? a = some v0 ∧ W.cell? ⟨a.block, a.off + 1, none⟩ = some v1 ∧ W.cell? ⟨a.block, a.off + 2, none⟩ = some v2 ∧ W.cell? ⟨a.block, a.off + 3, none⟩ = some v3 ∧
  W.cell? ⟨a.block, a.off + 4, none⟩ = some v4 ∧ W.cell? ⟨a.block, a.off + 5, none⟩ = some v5 ∧ W.cell? ⟨a.block, a.off + 6, none⟩ = some v6 ∧ W.cell? ⟨a.block, a.off + 7, none⟩ = some v7 := by
 obtain ⟨hl, h⟩ := h
 match cs, hl with
 | [v0, v1, v2, v3, v4, v5, v6, v7], _ => exact ⟨v0, v1, v2, v3, v4, v5, v6, v7, rfl, Gd.ld8 h⟩
theorem ldC_at {W : World} {a : Addr} {v0 v1 v2 v3 v4 v5 v6 v7 : Value} (h : LdC W a [v0, v1, v2, v3, v4, v5, v6, v7]) : W.cell? a = some v0 ∧ W.cell? ⟨a.block, a.off + 1, none⟩ = some v1 ∧ W.cell? ⟨a.block, a.off + 2, none⟩ = some v2 ∧ W.cell? ⟨a.block, a.off + 3, none⟩ = some v3 ∧
  W.cell? ⟨a.block, a.off + 4, none⟩ = some v4 ∧ W.cell? ⟨a.block, a.off + 5, none⟩ = some v5 ∧ W.cell? ⟨a.block, a.off + 6, none⟩ = some v6 ∧ W.cell? ⟨a.block, a.off + 7, none⟩ = some v7 := Gd.ld8 h.2
theorem ldC_fun {W : World} {a : Addr} {cs cs' : List Value} (h : LdC W a cs) (h' : LdC W a cs') : cs = cs' := by
 apply List.ext_getElem (h.1.trans h'.1.symm)
 intro i h1 h2
 have g1 := h.2 i _ (List.getElem?_eq_getElem h1)
 have g2 := h'.2 i _ (List.getElem?_eq_getElem h2)
 rw [g1] at g2
 exact Option.some.inj g2
theorem rdN_fun {W : World} {B B' : Nat} {cs : List Value} {t t' : Gd.St} (h : RdN W B cs t) (h' : RdN W B' cs t') : t = t' := by
 unfold RdN at h h'
 induction t using Gd.St.ind generalizing cs t' with
 | h k s e bs es ih1 ih2 =>
  obtain ⟨k', s', e', bs', es'⟩ := t'
  rw [Gd.St.d_mk] at h h'
  obtain ⟨ek, en, en', A, l, c, Bb, cb, C, cc, rb, rc, e8, _, hx, hb, _, hc, _⟩ := Gd.st_inv h
  obtain ⟨ek2, en2, en2', A2, l2, c2, Bb2, cb2, C2, cc2, rb2, rc2, e82, _, hx2, hb2, _, hc2, _⟩ := Gd.st_inv h'
  rw [e8] at e82
  unfold Gd.sc at e82
  injection e82 with q0 e82; injection e82 with q1 e82; injection e82 with q2 e82; injection e82 with q3 e82
  injection e82 with q4 e82; injection e82 with q5 e82; injection e82 with q6 e82; injection e82 with q7 _
  injection q0 with _ q0; injection q2 with _ q2; injection q3 with _ q3
  have q1 := sv_inj q1
  have q4 := sv_inj q4
  injection q5 with qA ql qc; injection q6 with qB qbl _; injection q7 with qC qcl _
  subst q0; subst q1; subst q2; subst q3; subst q4; subst qA; subst ql; subst qc; subst qB; subst qC
  have heq : e = e' := ex_fun hx hx2
  subst heq
  have sub : ∀ (x x' : List Gd.St) (A : Option Addr) (r r' : Nat → List Value), Gd.Row W B 1 A (Gd.dl x) r → Gd.Row W B' 1 A (Gd.dl x') r' → (Gd.dl x).length = (Gd.dl x').length →
    (∀ a ∈ x, ∀ {cs : List Value} {t' : Gd.St}, Gd.Rd8 W B cs a.d → Gd.Rd8 W B' cs t'.d → a = t') → x = x' := fun x x' A r r' h1 h2 hl hf => by
   have hl' : x.length = x'.length := by simpa [Gd.dl] using hl
   apply List.ext_getElem hl'
   intro j g1 g2
   obtain ⟨hr1, ad, ea, _, hld⟩ := h1.cell j (by simpa [Gd.dl] using g1)
   obtain ⟨hr2, ad', ea', _, hld'⟩ := h2.cell j (by simpa [Gd.dl] using g2)
   rw [ea] at ea'
   cases ea'
   have hcs : r j = r' j := ldC_fun ⟨hr1, hld⟩ ⟨hr2, hld'⟩
   refine hf x[j] (List.getElem_mem _) (h1.kid j _ (by simp [Gd.dl, List.getElem?_eq_getElem g1])) ?_
   rw [hcs]
   exact h2.kid j _ (by simp [Gd.dl, List.getElem?_eq_getElem g2])
  rw [sub bs bs' _ rb rb2 hb hb2 qbl fun a ha cs t' g1 g2 => ih1 a ha g1 g2, sub es es' _ rc rc2 hc hc2 qcl fun a ha cs t' g1 g2 => ih2 a ha g1 g2]
theorem la_fun {W : World} {B : Nat} : Fnl (LA W B) := by
 rintro ⟨A, c, ks⟩ ⟨A', c', ks'⟩ ⟨r, h⟩ ⟨r', h'⟩ hk
 unfold LN.key at hk
 injection hk with hk1 hk2
 apply List.ext_getElem hk2
 intro j g1 g2
 have g1' : j < ks.length := g1
 rw [if_neg (by show ¬ ks.length = 0; omega), if_neg (by show ¬ ks'.length = 0; have g2' : j < ks'.length := g2; omega)] at hk1
 obtain ⟨ad, ea, _, hld⟩ := h.cell j g1
 obtain ⟨ad', ea', _, hld'⟩ := h'.cell j g2
 have ea : A = some ad := ea
 have ea' : A' = some ad' := ea'
 have hk1 : A = A' := hk1
 rw [ea, ea'] at hk1
 cases hk1
 have hcs := ldC_fun hld hld'
 refine rdN_fun (h.kid j _ (List.getElem?_eq_getElem g1)) (t' := ks'[j]) (B' := B) ?_
 rw [hcs]
 exact h'.kid j _ (List.getElem?_eq_getElem g2)
theorem la_ad {w : World} {B : Nat} {l : LN Gd.St} (h : LA (pln w) B l) (hne : l.ks ≠ []) : ∃ ad, l.A = some ad ∧ IsPl w ad.block ∧ ad.block < B := by
 obtain ⟨rows, h⟩ := h
 obtain ⟨ad, e, hB, hl⟩ := h.cell 0 (List.length_pos_iff.2 hne)
 have := (ldC_out hl).2
 rw [add_block] at this
 exact ⟨ad, e, this, hB⟩
theorem la_pt {w : World} {B : Nat} {l : LN Gd.St} (h : LA (pln w) B l) : PtOk w l.key.1 := PtOk_key fun hne ad e => by
 obtain ⟨ad', e', hp, _⟩ := la_ad h hne
 rw [e] at e'; cases e'; exact hp
theorem la_at {w wr : World} {l : LN Gd.St} {m : Nat} {t : Gd.St} (h : LA (pln w) w.heap.size l) (hb : Below w.heap.size w wr) (ht : l.ks[m]? = some t) :
  ∃ ad v0 v1 v2 v3 v4 v5 v6 v7, l.A = some ad ∧ LdC wr (ad.add (m * 8)) [v0, v1, v2, v3, v4, v5, v6, v7] ∧ RdN (pln w) w.heap.size [v0, v1, v2, v3, v4, v5, v6, v7] t := by
 obtain ⟨rows, h⟩ := h
 have hm : m < l.ks.length := by
  rcases Nat.lt_or_ge m l.ks.length with h1 | h1
  ·exact h1
  ·rw [List.getElem?_eq_none h1] at ht; cases ht
 obtain ⟨ad, e, hB, hl⟩ := h.cell m hm
 have hk := h.kid m t ht
 have h1 := (ldC_out hl).1
 have h2 := ldC_keep h1 (W' := wr) fun p hp => hb.cell (by rw [hp, add_block]; exact hB)
 obtain ⟨v0, v1, v2, v3, v4, v5, v6, v7, ev, _⟩ := ldC_cells h2
 rw [ev] at h2 hk
 exact ⟨ad, v0, v1, v2, v3, v4, v5, v6, v7, e, h2, hk⟩
theorem rdN_form {W : World} {B : Nat} {v0 v1 v2 v3 v4 v5 v6 v7 : Value} {t : Gd.St} (h : RdN W B [v0, v1, v2, v3, v4, v5, v6, v7] t) : ∃ (nk : Int) (ns : List UInt8) (ek en : Int) (es : List UInt8) (nA : Option Addr) (nl nc : Nat) (qA : Option Addr) (ql qc : Nat) (oA : Option Addr) (ol oc : Nat), [v0, v1, v2, v3, v4, v5, v6, v7] = ([.int .i64 nk, sv ns, .int .i64 ek, .int .i64 en, sv es, .slice nA nl nc, .slice qA ql qc, .slice oA ol oc] : List Value) := by
 obtain ⟨k, s, e, bs, es⟩ := t
 unfold RdN at h
 rw [Gd.St.d_mk] at h
 obtain ⟨ek, en, en', A, l, c, Bb, cb, C, cc, rb, rc, e8, _⟩ := Gd.st_inv h
 exact ⟨k, s, ek, en, en', A, l, c, Bb, _, cb, C, _, cc, e8⟩
theorem la_node {w wr : World} {l : LN Gd.St} {m : Nat} {t : Gd.St} (h : LA (pln w) w.heap.size l) (hb : Below w.heap.size w wr) (ht : l.ks[m]? = some t) :
  ∃ (ad : Addr) (nk : Int) (ns : List UInt8) (ek en : Int) (es : List UInt8) (nA : Option Addr) (nl nc : Nat) (qA : Option Addr) (ql qc : Nat) (oA : Option Addr) (ol oc : Nat), l.A = some ad ∧ LdC wr (ad.add (m * 8)) [.int .i64 nk, sv ns, .int .i64 ek, .int .i64 en, sv es, .slice nA nl nc, .slice qA ql qc, .slice oA ol oc] ∧ RdN (pln w) w.heap.size [.int .i64 nk, sv ns, .int .i64 ek, .int .i64 en, sv es, .slice nA nl nc, .slice qA ql qc, .slice oA ol oc] t := by
 obtain ⟨ad, v0, v1, v2, v3, v4, v5, v6, v7, hA, hld, hrd⟩ := la_at h hb ht
 obtain ⟨nk, ns, ek, en, es, nA, nl, nc, qA, ql, qc, oA, ol, oc, e⟩ := rdN_form hrd
 rw [e] at hld hrd
 exact ⟨ad, nk, ns, ek, en, es, nA, nl, nc, qA, ql, qc, oA, ol, oc, hA, hld, hrd⟩
theorem rdN_kids {W : World} {B : Nat} {v0 v1 v2 v3 v4 v5 v6 v7 : Value} {t : Gd.St} (h : RdN W B [v0, v1, v2, v3, v4, v5, v6, v7] t) :
  ∃ KL : List (LN Gd.St), KL.map LN.ks = kidsS t ∧ (∀ l ∈ KL, LA W B l) ∧ KL.map slv = [v6, v7] := by
 obtain ⟨k, s, e, bs, es⟩ := t
 unfold RdN at h
 rw [Gd.St.d_mk] at h
 obtain ⟨ek, en, en', A, l, c, Bb, cb, C, cc, rb, rc, e8, _, hx, hb, hlb, hc, hlc⟩ := Gd.st_inv h
 unfold Gd.sc at e8
 injection e8 with _ e8; injection e8 with _ e8; injection e8 with _ e8; injection e8 with _ e8; injection e8 with _ e8; injection e8 with _ e8; injection e8 with e6 e8; injection e8 with e7 _
 simp only [Gd.dl, List.length_map] at e6 e7 hlb hlc
 have one : ∀ (A : Option Addr) (c : Nat) (L : List Gd.St) (r : Nat → List Value), Gd.Row W B 1 A (Gd.dl L) r → L.length ≤ Gd.maxI → LA W B ⟨A, c, L⟩ := fun A c L r hr hl => by
  refine ⟨r, fun j hj => ?_, fun j t ht => ?_, hl⟩
  ·obtain ⟨hw, ad, ea, hB, hld⟩ := hr.cell j (by simpa [Gd.dl] using hj)
   exact ⟨ad, ea, hB, hw, hld⟩
  ·have ht : L[j]? = some t := ht
   exact hr.kid j _ (by simp [Gd.dl, ht])
 refine ⟨[⟨Bb, cb, bs⟩, ⟨C, cc, es⟩], rfl, fun l hl' => ?_, by rw [e6, e7]; rfl⟩
 rcases List.mem_cons.1 hl' with rfl | hl'
 ·exact one _ _ _ _ hb hlb
 ·rw [List.mem_singleton] at hl'; subst hl'; exact one _ _ _ _ hc hlc
abbrev belowF : Value := .func (Fn.func 92) #[] #[]
abbrev RowT : TypeId := 25
theorem below_c (v0 v1 v2 v3 v4 v5 : Value) (A : Option Addr) (l c : Nat) (A' : Option Addr) (l' c' : Nat) (w : World) : Calls Tryz.prog 92 #[.agg #[v0, v1, v2, v3, v4, v5, .slice A l c, .slice A' l' c']] w fun e w' => ∃ g, e = .returned (.slice (some ⟨g, 0, none⟩) 2 2) ∧ w.heap.size ≤ g ∧ Blk w' g RowT [.slice A l c, .slice A' l' c'] ∧ Below w.heap.size w w' := by
 have hb := hid (box_below w (.cells #[v0, v1, v2, v3, v4, v5, .slice A l c, .slice A' l' c'] 60))
 have hB := hid (Blk.new w 60 [v0, v1, v2, v3, v4, v5, .slice A l c, .slice A' l' c'])
 go_enter Tryz.func92, Tryz.ntmps92
 have p6 : (w.alloc (.cells #[v0, v1, v2, v3, v4, v5, .slice A l c, .slice A' l' c'] 60)).cell? ⟨w.heap.size, 6, none⟩ = some (.slice A l c) := hB.out.cell 6
 have p7 : (w.alloc (.cells #[v0, v1, v2, v3, v4, v5, .slice A l c, .slice A' l' c'] 60)).cell? ⟨w.heap.size, 7, none⟩ = some (.slice A' l' c') := hB.out.cell 7
 go_wp2_with fail
 go_ret
 have hn := Blk.new (w.alloc (.cells #[v0, v1, v2, v3, v4, v5, .slice A l c, .slice A' l' c'] 60)) 25 [.slice A l c, .slice A' l' c']
 rw [size_alloc'] at hn
 exact ⟨_, rfl, Nat.le_succ _, hn, hb.out.trans ((box_below _ _).mono hb.out.size)⟩
theorem below_any {v0 v1 v2 v3 v4 v5 v6 v7 : Value} {t : Gd.St} {W : World} {B : Nat} (h : RdN W B [v0, v1, v2, v3, v4, v5, v6, v7] t) : ∃ KL : List (LN Gd.St), KL.map LN.ks = kidsS t ∧ (∀ l ∈ KL, LA W B l) ∧ KL.length ≤ 2 ∧
  ∀ w, Calls Tryz.prog 92 #[.agg #[v0, v1, v2, v3, v4, v5, v6, v7]] w fun e w' => ∃ g, e = .returned (.slice (some ⟨g, 0, none⟩) KL.length KL.length) ∧ w.heap.size ≤ g ∧ Blk w' g RowT (KL.map slv) ∧ Below w.heap.size w w' := by
 obtain ⟨KL, h1, h2, h3⟩ := rdN_kids h
 have hl : KL.length = 2 := by have := congrArg List.length h3; simpa using this
 obtain ⟨l0, l1, rfl⟩ : ∃ l0 l1, KL = [l0, l1] := by
  match KL, hl with
  | [l0, l1], _ => exact ⟨l0, l1, rfl⟩
 injection h3 with h3 h4
 injection h4 with h4 _
 subst h3; subst h4
 refine ⟨[l0, l1], h1, h2, by simp, fun w => (below_c v0 v1 v2 v3 v4 v5 l0.A l0.ks.length l0.c l1.A l1.ks.length l1.c w).mono fun e w' ⟨g, e1, e2, e3, e4⟩ => ⟨g, e1, e2, e3, e4⟩⟩
end Go.Proofs.YtiogceepjffmkaaGreatDoor.Gs
set_option maxRecDepth 100000
namespace Go.Proofs.YtiogceepjffmkaaGreatDoor.C2
open Go.RowKit Go.Lib Go.Sort Com Mem Ow YtiogceepjffmkaaGreatDoor.Nm
theorem own_compact {w : World} {base g cap q : Nat} {e : TypeId} {cur : Array Value} {zs ts : List (List UInt8)} (hl : ts.length ≤ zs.length) (hbase : base ≤ g) (hb : w.heap[g]? = some (.cells cur e (0, 0))) (h1 : zs.length ≤ cap) (h2 : cap ≤ maxLen) (h3 : cur.size = cap * 1) :
  (putRow encStr (Sort.ahead w q) g 0 (ts ++ List.replicate (zs.length - ts.length) []).toArray).ownsRow base e 1 (.slice (some ⟨g, 0, none⟩) ts.length cap) ts.length (ts.map sv) := by
 have h := ownsRow_sorted (n := q) (os := #[]) (ss := zs) (ts := ts ++ List.replicate (zs.length - ts.length) []) (by simp; omega) hbase hb h1 h2 h3
 rw [grow_empty] at h
 have h' := own_take (k := ts.length) h hl (by simp)
 have e1 : ((ts ++ List.replicate (zs.length - ts.length) []).map encStr).take ts.length = ts.map sv := by
  rw [List.map_append, List.take_append_of_le_length (by simp), List.take_of_length_le (by simp)]
 rw [e1] at h'; exact h'
theorem sort_any (A : Option Addr) (c : Nat) (L : List (List UInt8)) (w : World) (h : Rd w w.heap.size A (L.map sv)) (hA : A = none → c = 0) (hn : L.length ≤ 2000000) :
  Calls Tryz.prog 194 #[.slice A L.length c] w fun e w' => ∃ v, e = .returned v ∧ Grow 9 w w' v ((sortU L).map sv) := by
 have hA' : A = none → L.length = 0 ∧ c = 0 := fun hx => by
  refine ⟨?_, hA hx⟩
  subst hx
  cases L with
  | nil => rfl
  | cons x r => obtain ⟨ad, e, _⟩ := h (by simp); cases e
 have hgr := hid (Grow.nil_ (w := w) w 9 (Below.refl _ _))
 have hone := hid (show ∀ u ∈ L.map sv, u.oneCell' = true from fun u hu => by obtain ⟨l, _, rfl⟩ := List.mem_map.1 hu; rfl)
 have hcs := compact_sort L
 have hlen := List.length_mergeSort (le := fun x y : List UInt8 => decide (x ≤ y)) L
 have hul := sortU_len L
 generalize hM : (L.mergeSort fun x y => decide (x ≤ y)) = M at *
 by_cases h0 : L = []
 ·subst h0
  go_enter Tryz.func194, Tryz.ntmps194
  go_wp2_with (at_builtin; refine hgr.out.appendAll strT A 0 c w.heap.size [] rfl (fun e => ⟨rfl, hA e⟩) Rd.nil_ hone.out (by simp) rfl _ _ rfl rfl rfl ?_; intro v1 w1 hg1 _ hv1; obtain rfl : v1 = .slice none 0 0 := hv1.2 ⟨rfl, rfl⟩; have hg1 := hid hg1)
  refine (Tryz.slices_Sort_string_none none 0 _).mono ?_
  rintro e w2 ⟨rfl, rfl⟩
  go_wp2_with fail
  refine (Tryz.slices_Compact_string_empty none 0 _).mono ?_
  rintro e w2 ⟨rfl, rfl⟩
  go_wp2_with fail
  go_ret
  exact ⟨_, rfl, hg1.out⟩
 ·have hpos : 0 < L.length := List.length_pos_iff.2 h0
  have hrd := hid h
  have hA' := hid hA'
  have hcs := hid hcs
  have hlen := hid hlen
  clear h hA
  go_enter Tryz.func194, Tryz.ntmps194
  go_wp2_with (at_builtin; refine hgr.out.appendAll strT A L.length c w.heap.size (L.map sv) (by simp) hA'.out hrd.out hone.out (by simp; omega) rfl _ _ rfl rfl rfl ?_; intro v1 w1 hg1 _ hv1; have hg1 := hid hg1; obtain ⟨g, cap, cur, rfl, hb, hblk, hnc, hcm, hsz, htk⟩ := hg1.out.some_ (fun e => by have := (hv1.1 e).2; omega); clear hv1)
  simp only [List.nil_append, List.length_map] at hnc htk
  have hgl : g < w1.heap.size := (Array.getElem?_eq_some_iff.1 hblk).1
  have hblk2 := fun n os => heap_sorted (n := n) (os := os) M.toArray hblk
  have hH := hid (holds_of_block hblk (by simpa using htk))
  have hcm := hid hcm
  go_wp2_with fail
  refine (Tryz.slices_Sort_string g 0 cap L w1 hH.out hgl (by omega)).mono ?_
  rintro e w2 ⟨rfl, n, os, rfl⟩
  rw [hM]
  have hb2 := hid (hg1.out.2.grown (grownBy_sorted (n := n) (os := os) M.toArray) hg1.out.2.size (fun j hj => by cases hj; exact hb))
  have hblk2 := hblk2 n os
  have hH2 := hid (holds_of_block (ss := M) hblk2 (take_putCells cur M (by rw [hlen.out]; omega)))
  generalize grow (putRow encStr (Sort.ahead w1 n) g 0 M.toArray) os = w2 at *
  have hsz2 : (putCells encStr 0 M.toArray cur).size = cap * 1 := by simp [putCells]; omega
  have hfin := hid (fun q => own_compact (q := q) (ts := compact M) (compact_length_le M) hb hblk2 (by rw [hlen.out]; exact hnc) hcm.out hsz2)
  have hgb := hid (fun q (d : List (List UInt8)) => by have := grownBy_sorted (w := w2) (g := g) (n := q) (os := #[]) d.toArray; rwa [grow_empty] at this)
  clear hblk2 hblk htk hsz hsz2 hH hgr
  have hcp := hid (Tryz.slices_Compact_string g 0 cap M w2 hH2.out (by rw [hlen.out]; omega) (by rw [hlen.out]; exact hnc))
  rw [hlen.out] at hcp
  go_wp2_with fail
  refine hcp.out.mono ?_
  rintro e w3 ⟨rfl, q, rfl⟩
  have h3 := hid (hb2.out.grown (hgb.out q (compact M ++ List.replicate (L.length - (compact M).length) [])) hb2.out.size (fun j hj => by cases hj; exact hb))
  have h4 := hfin.out q
  rw [hlen.out] at h4
  have h4 := hid h4
  generalize putRow encStr (Sort.ahead w2 q) g 0 (compact M ++ List.replicate (L.length - (compact M).length) []).toArray = w3 at *
  go_wp2_with fail
  go_ret
  rw [← hcs.out]
  exact ⟨_, rfl, by simpa using h4.out, h3.out⟩
end Go.Proofs.YtiogceepjffmkaaGreatDoor.C2
