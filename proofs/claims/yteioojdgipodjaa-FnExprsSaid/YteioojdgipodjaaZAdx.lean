/- A list of nodes put among those of a level. -/
import Derived.Test.YteioojdgipodjaaZPsx
import Derived.Test.YteioojdgipodjaaZKd
import Derived.Test.YteioojdgipodjaaZTr
import Derived.StillTailTactics
import Derived.Maps.OwnOps
set_option maxRecDepth 100000
namespace Go.Proofs.Yteioojdgipodjaa.Gx
open Go.RowKit Go.Lib Go.Sort Go.Proofs.Yteioojdgipodjaa.Com Go.Proofs.Yteioojdgipodjaa.Mem Go.Proofs.Yteioojdgipodjaa.Tr Go.Proofs.Yteioojdgipodjaa.Im Go.Proofs.Yteioojdgipodjaa.Ag Go.Proofs.Yteioojdgipodjaa.Pl Go.Proofs.Yteioojdgipodjaa.Kd

abbrev LT : TypeId := 134
abbrev RT : TypeId := 137
set_option maxHeartbeats 1000000 in
theorem addWO (x y : Nat) (h : x + y ≤ 9223372036854775807) (w : World) : Calls Try.prog 82 #[.int .i64 x, .int .i64 y] w fun e w' => e = .returned (.int .i64 ((x + y : Nat) : Int)) ∧ w' = w := by
  have e0 : IntKind.i64.wrap (9223372036854775807 - (y : Int)) = 9223372036854775807 - (y : Int) := IntWalk.i64_in _ (by omega)
  have t0 : decide (9223372036854775807 - (y : Int) < (x : Int)) = false := decide_eq_false (by omega)
  have e1 : IntKind.i64.wrap ((x : Int) + (y : Int)) = (x : Int) + (y : Int) := IntWalk.i64_in _ (by omega)
  go_enter Try.func82, Try.ntmps82
  go_wp2_with fail
  go_ret
  exact ⟨by rw [Int.natCast_add]; rfl, rfl⟩
theorem zeroR (w : World) : (zeroValue RT).run Try.prog w = .ok (.agg #[.slice none 0 0, .int .i64 0]) w := by kernel_rfl
theorem fieldT (A : Option Addr) (l c : Nat) (x : Int) (w : World) : (Instr.field RT (.agg #[.slice A l c, .int .i64 x]) 1).run Try.prog w = .ok (.int .i64 x) w := by kernel_rfl
set_option maxHeartbeats 1000000 in
theorem add0 (mb : Nat) (A : Option Addr) (c : Nat) (m : Int) (w : World) : Calls Try.prog 98 #[.map (some mb), .slice A 0 c, .int .i64 m] w fun e w' => e = .returned (.tuple #[]) ∧ w' = w := by
  go_enter Try.func98, Try.ntmps98
  go_wp2_with fail
  go_end0
  exact ⟨rfl, rfl⟩
set_option maxHeartbeats 4000000 in
theorem add1 (mb : Nat) (h : He T) (ln : LN T) (m : Nat) (ad : Addr) (hA : ln.A = some ad) (hne : ln.ks ≠ []) (w : World) (hm : EMap encP w mb (kvH h)) (hP : IsPl w ad.block) (hh : ∀ p ∈ h, PtOk w p.1.key.1) (hbd : getE h ln.key + m ≤ 9223372036854775807) :
    Calls Try.prog 98 #[.map (some mb), slv ln, .int .i64 m] w fun e w' => e = .returned (.tuple #[]) ∧ EMap encP w' mb (kvH (addE h ln m)) ∧ w.grownBy w' (some mb) := by
  obtain ⟨A, c, ks⟩ := ln
  obtain rfl : A = some ad := hA
  have hkey : (LN.mk (some ad) c ks).key = (some ad, ks.length) := LN.key_ne hne
  have hput := aput_kvH h ⟨some ad, c, ks⟩ m
  obtain ⟨A0, l0, c0, hget⟩ := aget_kvH h (LN.mk (some ad) c ks).key
  rw [hkey] at hbd hget
  rw [hkey] at hput
  have hpos : 0 < ks.length := List.length_pos_iff.2 hne
  have hlk : ks.length = ks.length := rfl
  show Calls _ _ #[.map (some mb), .slice (some ad) ks.length c, .int .i64 m] w _
  have hput : aput (kvH h) (some ad, ks.length) (.agg #[.slice (some ad) ks.length c, .int .i64 ((getE h (some ad, ks.length) + m : Nat) : Int)]) = kvH (addE h ⟨some ad, c, ks⟩ m) := hput
  generalize ks.length = l at *
  generalize kvH (addE h ⟨some ad, c, ks⟩ m) = fin at *
  generalize hg : getE h (some ad, l) = x at *
  replace hput := hid hput
  replace hget := hid hget
  have tl : decide ((0 : Int) < (l : Int)) = true := decide_eq_true (by omega)
  have hpl := placeOf_any (some ad) l c (fun _ => ⟨ad, rfl⟩) w
  rw [if_neg (by omega)] at hpl
  replace hpl := hid hpl
  have hmb := hm.lt
  have hk : ∀ p ∈ kvH h, PtOk w p.1.1 := fun p hp => by
    obtain ⟨q, hq, rfl⟩ := List.mem_map.1 hp
    exact hh q hq
  replace hk := hid hk
  replace hm := hid hm
  replace hP := hid hP
  generalize kvH h = kvs at *
  clear hh hg hne hkey
  go_enter Try.func98, Try.ntmps98
  go_wp2_with fail
  refine hpl.out.mono ?_
  rintro e w1 ⟨rfl, hb⟩
  have hb := hid (hb.trans ((box_below w1 (.cells #[.pointer (some ad), .int .i64 (l : Int)] PT)).mono hb.size))
  have hB := Blk.new w1 PT [.pointer (some ad), .int .i64 (l : Int)]
  have hB := hid hB
  clear hpl
  go_wp2_with fail
  obtain ⟨W2, hW2⟩ : ∃ W2 : World, W2 = (w1.alloc (.cells #[.pointer (some ad), .int .i64 (l : Int)] PT)) := ⟨_, rfl⟩
  rw [← hW2] at hb hB ⊢
  have b0 : ({ W2 with drawn := W2.drawn + 1 } : World).cell? ⟨w1.heap.size, 0, none⟩ = some (.pointer (some ad)) := hB.out.cell 0
  have b1 : ({ W2 with drawn := W2.drawn + 1 } : World).cell? ⟨w1.heap.size, 1, none⟩ = some (.int .i64 (l : Int)) := hB.out.cell 1
  have hb3 : Below w.heap.size w ({ W2 with drawn := W2.drawn + 1 } : World) := ⟨hb.out.os, hb.out.tape, hb.out.output, hb.out.size, hb.out.block⟩
  clear hb hB
  refine wp_region_still_tail 10 (by kernel_rfl) (by kernel_rfl) ?_
  generalize ({ W2 with drawn := W2.drawn + 1 } : World) = W3 at *
  have hm3 := hid (hm.out.below hb3 hmb)
  have hD3 := hid (dec_place (w := W3) (k := (some ad, l)) (l := kvs) (PtOk_go (fun a e => by cases e; exact hP.out) hb3) (fun p hp => PtOk_go (hk.out p hp) hb3))
  have hlook : (Instr.lookup LT (.map (some mb)) (encP (some ad, l)) false).run Try.prog W3 = .ok (.agg #[.slice A0 l0 c0, .int .i64 (x : Nat)]) W3 := by
    have h1 := run_look hm3.out Try.underlying134 wideP hD3.out (zeroR W3) false
    rw [if_neg (by decide), hget.out] at h1
    exact h1
  have hb3 := hid hb3
  simp only [List.take_succ_cons, List.take_zero, List.drop_succ_cons, List.drop_zero]
  have qf := fieldT A0 l0 c0 (x : Nat)
  repeat still_step
  have hadd := hid (addWO x m hbd W3)
  still_call hadd.out
  repeat still_step
  refine wpStill_nil ?_
  go_wp2_with (at_mapUpdate; refine wpList_aput rfl _ _ _ (Or.inr rfl) Try.underlying134 wideP mb kvs hm3.out (some ad, l) (.agg #[.slice (some ad) l c, .int .i64 ((x + m : Nat) : Int)]) hD3.out rfl rfl rfl ?_; intro w4 hm4 hg4 _)
  go_end0
  exact ⟨rfl, by rw [← hput.out]; exact hm4, gb_trans ⟨hb3.out.os, hb3.out.tape, hb3.out.output, hb3.out.size, fun k hk _ => hb3.out.block k hk⟩ hg4⟩
end Go.Proofs.Yteioojdgipodjaa.Gx
