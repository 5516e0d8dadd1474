/- Places of lists of nodes: keys compared; the place of a list. -/
import Derived.Test.YtnmomlaimffonaaGreatZKd
import Derived.Test.YtnmomlaimffonaaGreatZSt1
import Derived.StillTailTactics
import Derived.Maps.OwnOps
set_option maxHeartbeats 4000000
set_option maxRecDepth 100000
namespace Go.Proofs.YtnmomlaimffonaaGreat.Gs
open Go.RowKit Go.Lib Go.Sort Com Mem Im Ag Pl
abbrev ET : TypeId := 94
abbrev PT : TypeId := 143
theorem wideP : WideK Tryz.prog PT := ⟨_, Tryz.underlying143, fun _ _ => rfl⟩
theorem check_place (A : Option Addr) (n : Nat) (w : World) (em : Bool) : (Instr.checkKey em 10000 PT (encP (A, n))).run Tryz.prog w = .ok () w := by kernel_rfl
theorem sizeE : ∃ i, Tryz.prog.info? ET = some i ∧ i.size ≠ 0 := by
  have h : (Tryz.prog.info? ET).map (fun i => i.size) = some 8 := by kernel_rfl
  obtain ⟨i, hi, e⟩ := Option.map_eq_some_iff.1 h
  exact ⟨i, hi, by rw [e]; decide⟩
theorem part_P (x y : Value) (w : World) : (part 141 #[x, y] 0).run Tryz.prog w = .ok x w := by kernel_rfl
theorem part_N (x y : Value) (w : World) : (part 3 #[x, y] 1).run Tryz.prog w = .ok y w := by kernel_rfl
theorem fields_P : ∃ f g, (Tryz.prog.fieldsOf PT).toList = [f, g] ∧ f.name ≠ "_" ∧ f.type = 141 ∧ f.offset = 0 ∧ g.name ≠ "_" ∧ g.type = 3 ∧ g.offset = 1 := ⟨_, _, rfl, by decide, rfl, rfl, by decide, rfl, rfl⟩
theorem eq_placeD (d : Nat) {w : World} {k k' : Pk} (h : PtOk w k.1) (h' : PtOk w k'.1) : (Op.equalIn (d + 2) PT (encP k) (encP k')).run Tryz.prog w = .ok (decide (k' = k)) w := by
  obtain ⟨i, hi, hz⟩ := sizeE
  have hp : Tryz.prog.underlying 141 = some (.pointer ET) := Tryz.underlying141
  have hn : Tryz.prog.underlying 3 = some (.int .i64) := Tryz.underlying3
  have he := ptr_eq hp hi hz d h h'
  have he2 := int_eqIn (w := w) hn d (k.2 : Int) (k'.2 : Int)
  have hpd := pair_dec k.1 k'.1 k.2 k'.2
  rw [run_equalIn_struct w (d + 1) PT _ _ (by kernel_rfl) (by kernel_rfl)]
  obtain ⟨f, g, e1, e2, e3, e4, e5, e6, e7⟩ := fields_P
  rw [e1]
  unfold Op.eqFields
  rw [if_pos e2, e3, e4]
  simp only [Sem.run_bind, part_P, Result.andThen_ok, he]
  unfold Op.eqFields
  rw [if_pos e5, e6, e7]
  cases hd : decide (k.1 = k'.1) with
  | false =>
    rw [hd, Bool.false_and] at hpd
    rw [← hpd]
    simp
  | true =>
    rw [hd, Bool.true_and] at hpd
    rw [← hpd]
    simp only [Bool.not_true, Bool.false_eq_true, if_false, Sem.run_bind, part_N, Result.andThen_ok, he2]
    unfold Op.eqFields
    cases ((k.2 : Int) == (k'.2 : Int)) <;> simp
theorem eq_place {w : World} {k k' : Pk} (h : PtOk w k.1) (h' : PtOk w k'.1) : (Op.equal PT (encP k) (encP k')).run Tryz.prog w = .ok (decide (k' = k)) w := eq_placeD 9998 h h'
theorem bits_P (k : Pk) : ∀ n, Instr.sameBits (n + 1) (encP k) (encP k) = true := fun n => by simp [Instr.sameBits]
theorem dec_place {w : World} {k : Pk} {l : List (Pk × Value)} (h : PtOk w k.1) (hl : ∀ p ∈ l, PtOk w p.1.1) : Dec Tryz.prog encP PT w k l :=
  ⟨fun w em => check_place k.1 k.2 w em, fun p hp => eq_place h (hl p hp), bits_P k 9999⟩
theorem placeOf_any (A : Option Addr) (l c : Nat) (hA : l ≠ 0 → ∃ ad, A = some ad) (w : World) : Calls Tryz.prog 121 #[.slice A l c] w fun e w' => e = .returned (encP (if l = 0 then none else A, l)) ∧ Below w.heap.size w w' := by
  by_cases hl : l = 0
  · subst hl
    rw [if_pos rfl]
    go_enter Tryz.func121, Tryz.ntmps121
    go_wp2_with fail
    refine bodyPost_ret (results_cell_row Tryz.results121 _ _ w.heap.size PT _ (0, 0) _ rfl (heap_alloc_new w _) Tryz.underlying143 rfl (by kernel_rfl)) rfl ⟨rfl, (Below.refl _ _).alloc (Nat.le_refl _) _⟩
  · rw [if_neg hl]
    obtain ⟨ad, rfl⟩ := hA hl
    have t0 : ((l : Int) == 0) = false := beq_false_of_ne (by omega)
    have t1 : (0 : Int) < (l : Int) := by omega
    go_enter Tryz.func121, Tryz.ntmps121
    go_wp2_with fail
    refine bodyPost_ret (results_cell_row Tryz.results121 _ _ w.heap.size PT _ (0, 0) _ rfl (heap_alloc_new w _) Tryz.underlying143 rfl (by kernel_rfl)) rfl ⟨rfl, (Below.refl _ _).alloc (Nat.le_refl _) _⟩
open Tr Kd
abbrev LT : TypeId := 139
abbrev RT : TypeId := 145
theorem addWO (x y : Nat) (h : x + y ≤ 9223372036854775807) (w : World) : Calls Tryz.prog 103 #[.int .i64 x, .int .i64 y] w fun e w' => e = .returned (.int .i64 ((x + y : Nat) : Int)) ∧ w' = w := by
  have e0 : IntKind.i64.wrap (9223372036854775807 - (y : Int)) = 9223372036854775807 - (y : Int) := IntWalk.i64_in _ (by omega)
  have t0 : decide (9223372036854775807 - (y : Int) < (x : Int)) = false := decide_eq_false (by omega)
  have e1 : IntKind.i64.wrap ((x : Int) + (y : Int)) = (x : Int) + (y : Int) := IntWalk.i64_in _ (by omega)
  go_enter Tryz.func103, Tryz.ntmps103
  go_wp2_with fail
  go_ret
  exact ⟨by rw [Int.natCast_add]; rfl, rfl⟩
theorem zeroR (w : World) : (zeroValue RT).run Tryz.prog w = .ok (.agg #[.slice none 0 0, .int .i64 0]) w := by kernel_rfl
theorem fieldT (A : Option Addr) (l c : Nat) (x : Int) (w : World) : (Instr.field RT (.agg #[.slice A l c, .int .i64 x]) 1).run Tryz.prog w = .ok (.int .i64 x) w := by kernel_rfl
theorem add0 (mb : Nat) (A : Option Addr) (c : Nat) (m : Int) (w : World) : Calls Tryz.prog 102 #[.map (some mb), .slice A 0 c, .int .i64 m] w fun e w' => e = .returned (.tuple #[]) ∧ w' = w := by
  go_enter Tryz.func102, Tryz.ntmps102
  go_wp2_with fail
  go_end0
  exact ⟨rfl, rfl⟩
theorem add1 (mb : Nat) (h : He Gd.St) (ln : LN Gd.St) (m : Nat) (ad : Addr) (hA : ln.A = some ad) (hne : ln.ks ≠ []) (w : World) (hm : EMap encP w mb (kvH h)) (hP : IsPl w ad.block) (hh : ∀ p ∈ h, PtOk w p.1.key.1) (hbd : getE h ln.key + m ≤ 9223372036854775807) :
    Calls Tryz.prog 102 #[.map (some mb), slv ln, .int .i64 m] w fun e w' => e = .returned (.tuple #[]) ∧ EMap encP w' mb (kvH (addE h ln m)) ∧ w.grownBy w' (some mb) := by
  obtain ⟨A, c, ks⟩ := ln
  obtain rfl : A = some ad := hA
  have hkey : (LN.mk (some ad) c ks).key = (some ad, ks.length) := LN.key_ne hne
  have hput := aput_kvH h ⟨some ad, c, ks⟩ m
  obtain ⟨A0, l0, c0, hget⟩ := aget_kvH h (LN.mk (some ad) c ks).key
  rw [hkey] at hbd hget
  rw [hkey] at hput
  have hpos : 0 < ks.length := List.length_pos_iff.2 hne
  have hlk : ks.length = ks.length := rfl
  show Calls _ _ #[.map (some mb), .slice (some ad) ks.length c, .int .i64 m] w _
  have hput : aput (kvH h) (some ad, ks.length) (.agg #[.slice (some ad) ks.length c, .int .i64 ((getE h (some ad, ks.length) + m : Nat) : Int)]) = kvH (addE h ⟨some ad, c, ks⟩ m) := hput
  generalize ks.length = l at *
  generalize kvH (addE h ⟨some ad, c, ks⟩ m) = fin at *
  generalize hg : getE h (some ad, l) = x at *
  replace hput := hid hput
  replace hget := hid hget
  have tl : decide ((0 : Int) < (l : Int)) = true := decide_eq_true (by omega)
  have hpl := placeOf_any (some ad) l c (fun _ => ⟨ad, rfl⟩) w
  rw [if_neg (by omega)] at hpl
  replace hpl := hid hpl
  have hmb := hm.lt
  have hk : ∀ p ∈ kvH h, PtOk w p.1.1 := fun p hp => by
    obtain ⟨q, hq, rfl⟩ := List.mem_map.1 hp
    exact hh q hq
  replace hk := hid hk
  replace hm := hid hm
  replace hP := hid hP
  generalize kvH h = kvs at *
  clear hh hg hne hkey
  go_enter Tryz.func102, Tryz.ntmps102
  go_wp2_with fail
  refine hpl.out.mono ?_
  rintro e w1 ⟨rfl, hb⟩
  have hb := hid (hb.trans ((box_below w1 (.cells #[.pointer (some ad), .int .i64 (l : Int)] PT)).mono hb.size))
  have hB := Blk.new w1 PT [.pointer (some ad), .int .i64 (l : Int)]
  have hB := hid hB
  clear hpl
  go_wp2_with fail
  obtain ⟨W2, hW2⟩ : ∃ W2 : World, W2 = (w1.alloc (.cells #[.pointer (some ad), .int .i64 (l : Int)] PT)) := ⟨_, rfl⟩
  rw [← hW2] at hb hB ⊢
  have b0 : ({ W2 with drawn := W2.drawn + 1 } : World).cell? ⟨w1.heap.size, 0, none⟩ = some (.pointer (some ad)) := hB.out.cell 0
  have b1 : ({ W2 with drawn := W2.drawn + 1 } : World).cell? ⟨w1.heap.size, 1, none⟩ = some (.int .i64 (l : Int)) := hB.out.cell 1
  have hb3 : Below w.heap.size w ({ W2 with drawn := W2.drawn + 1 } : World) := ⟨hb.out.os, hb.out.tape, hb.out.output, hb.out.size, hb.out.block⟩
  clear hb hB
  refine wp_region_still_tail 10 (by kernel_rfl) (by kernel_rfl) ?_
  generalize ({ W2 with drawn := W2.drawn + 1 } : World) = W3 at *
  have hm3 := hid (hm.out.below hb3 hmb)
  have hD3 := hid (dec_place (w := W3) (k := (some ad, l)) (l := kvs) (PtOk_go (fun a e => by cases e; exact hP.out) hb3) (fun p hp => PtOk_go (hk.out p hp) hb3))
  have hlook : (Instr.lookup LT (.map (some mb)) (encP (some ad, l)) false).run Tryz.prog W3 = .ok (.agg #[.slice A0 l0 c0, .int .i64 (x : Nat)]) W3 := by
    have h1 := run_look hm3.out Tryz.underlying139 wideP hD3.out (zeroR W3) false
    rw [if_neg (by decide), hget.out] at h1
    exact h1
  have hb3 := hid hb3
  simp only [List.take_succ_cons, List.take_zero, List.drop_succ_cons, List.drop_zero]
  have qf := fieldT A0 l0 c0 (x : Nat)
  repeat still_step
  have hadd := hid (addWO x m hbd W3)
  still_call hadd.out
  repeat still_step
  refine wpStill_nil ?_
  go_wp2_with (at_mapUpdate; refine wpList_aput rfl _ _ _ (Or.inr rfl) Tryz.underlying139 wideP mb kvs hm3.out (some ad, l) (.agg #[.slice (some ad) l c, .int .i64 ((x + m : Nat) : Int)]) hD3.out rfl rfl rfl ?_; intro w4 hm4 hg4 _)
  go_end0
  exact ⟨rfl, by rw [← hput.out]; exact hm4, gb_trans ⟨hb3.out.os, hb3.out.tape, hb3.out.output, hb3.out.size, fun k hk _ => hb3.out.block k hk⟩ hg4⟩
end Go.Proofs.YtnmomlaimffonaaGreat.Gs
