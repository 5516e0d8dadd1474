/- Statements of the call's own: marked. -/
import Derived.Test.YtjglllpemhkkdaaGreatDoorZSt1
import Derived.Test.YtjglllpemhkkdaaGreatDoorZTr
import Derived.Test.YtjglllpemhkkdaaGreatDoorZIm
import Derived.Test.YtjglllpemhkkdaaGreatDoorZKd
import Derived.StillTailTactics
import Derived.Maps.OwnOps
set_option maxRecDepth 100000
namespace Go.Proofs.YtjglllpemhkkdaaGreatDoor.Gd
open Go.RowKit Go.Lib Go.Sort Com Mem YtjglllpemhkkdaaGreatDoor.Os Tr

section
variable {a b d w w' : World} {R R' : Nat → Prop}
theorem OwnD.sl_inv {A : Option Addr} {l c n : Nat} {L : List (List D)} {cs : List Value} {ds : List D} (h : OwnD w R (.slice A l c :: cs) (.sl n L :: ds)) : l = L.length ∧ L.length ≤ c ∧ c ≤ maxLen ∧ (A = none → c = 0) ∧
    ∃ (R2 : Nat → Prop) (rows : Nat → List Value) (Rs : Nat → Nat → Prop), (∀ ad, A = some ad → ∃ g cs0, ad = ⟨g, 0, none⟩ ∧ R g ∧ ¬ R2 g ∧ Blk w g (tyI n) cs0 ∧ RowsN (wd n) cs0 L.length rows ∧ ∀ j, j < L.length → ¬ Rs j g) ∧
      (∀ j e, L[j]? = some e → OwnD w (Rs j) (rows j) e) ∧ (∀ j g, j < L.length → Rs j g → R g ∧ ¬ R2 g) ∧ (∀ i j g, i < j → j < L.length → Rs i g → ¬ Rs j g) ∧ (∀ g, R2 g → R g) ∧ OwnD w R2 cs ds := by
  cases h with
  | sl rows Rs hl hc h0 hA hk hR' hd' h2' r => exact ⟨rfl, hl, hc, h0, _, rows, Rs, hA, hk, hR', hd', h2', r⟩
theorem OwnD.sl_split {A : Option Addr} {l c n : Nat} {L : List (List D)} {cs : List Value} {ds : List D} (h : OwnD w R (.slice A l c :: cs) (.sl n L :: ds)) :
    ∃ R1 R2 : Nat → Prop, OwnD w R1 [.slice A l c] [.sl n L] ∧ OwnD w R2 cs ds ∧ (∀ g, R1 g → R g ∧ ¬ R2 g) ∧ ∀ g, R2 g → R g := by
  obtain ⟨rfl, hl, hc, h0, R2, rows, Rs, hA, hk, hR', hd', h2', r⟩ := h.sl_inv
  refine ⟨fun g => R g ∧ ¬ R2 g, R2, .sl (R2 := fun _ => False) rows Rs hl hc h0 (fun ad e => ?_) hk (fun j g hj hg => ⟨hR' j g hj hg, fun h => h⟩) hd' (fun g h => h.elim) .nil, r, fun g h => h, h2'⟩
  obtain ⟨g, cs0, e1, h3, h4, h5, h6, h7⟩ := hA ad e
  exact ⟨g, cs0, e1, ⟨h3, h4⟩, fun h => h, h5, h6, h7⟩
theorem own_st_inv {cs : List Value} {k : Int} {s : List UInt8} {e : T} {bs es : List St} (h : OwnD w R cs (St.mk k s e bs es).d) :
    ∃ ek en en' A l c Bb cb C cc lo hi, ∃ R2 R3 : Nat → Prop, cs = sc k s ek en en' A l c Bb bs.length cb C es.length cc ∧ s.length ≤ maxI ∧ OwnX lo hi w (nv ek en en' A l c) e ∧ OwnD w R2 [.slice Bb bs.length cb] [.sl 1 (dl bs)] ∧ OwnD w R3 [.slice C es.length cc] [.sl 1 (dl es)] ∧
      (∀ g, Iv lo hi g → R g ∧ ¬ R2 g ∧ ¬ R3 g) ∧ (∀ g, R2 g → R g ∧ ¬ R3 g) ∧ ∀ g, R3 g → R g := by
  rw [St.d_mk] at h
  obtain ⟨ek, en, en', A, l, c, Bb, cb, C, cc, e8⟩ := own_st8 h
  subst e8
  cases h with
  | i h =>
    generalize hs' : sv s = vs at h
    cases h with
    | s hs h =>
      cases h with
      | x hx h1 h2 h =>
        obtain ⟨R1, R2, o1, h, d1, d2⟩ := h.sl_split
        obtain ⟨R3, R4, o2, h, d3, d4⟩ := h.sl_split
        refine ⟨ek, en, en', A, l, c, Bb, cb, C, cc, _, _, R1, R3, ?_, hs, hx, ?_, ?_, fun g hg => ⟨(h1 g hg).1, fun h => (h1 g hg).2 (d1 g h).1, fun h => (h1 g hg).2 (d2 g (d3 g h).1)⟩, fun g hg => ⟨h2 g (d1 g hg).1, fun h => (d1 g hg).2 (d3 g h).1⟩, fun g hg => h2 g (d2 g (d3 g hg).1)⟩
        · simp [dl, sc]
        · simpa [dl] using o1
        · simpa [dl] using o2
theorem own_st_mk {k ek en : Int} {s en' : List UInt8} {A Bb C : Option Addr} {l c lb cb lc cc lo hi : Nat} {R2 R3 : Nat → Prop} {e : T} {bs es : List St} (hs : s.length ≤ maxI) (h1 : OwnX lo hi w (nv ek en en' A l c) e) (h2 : OwnD w R2 [.slice Bb lb cb] [.sl 1 (dl bs)]) (h3 : OwnD w R3 [.slice C lc cc] [.sl 1 (dl es)])
    (d1 : ∀ g, Iv lo hi g → R g ∧ ¬ R2 g ∧ ¬ R3 g) (d2 : ∀ g, R2 g → R g ∧ ¬ R3 g) (d3 : ∀ g, R3 g → R g) : OwnD w R (sc k s ek en en' A l c Bb lb cb C lc cc) (St.mk k s e bs es).d := by
  rw [St.d_mk]
  exact .i (.s hs (.x (R2 := fun g => R2 g ∨ R3 g) h1 (fun g hg => ⟨(d1 g hg).1, fun h => h.elim (d1 g hg).2.1 (d1 g hg).2.2⟩) (fun g hg => hg.elim (fun h => (d2 g h).1) (d3 g))
    (OwnD.app_sl (R1 := R2) (R2 := R3) h2 (OwnD.app_sl (R1 := R3) (R2 := fun _ => False) h3 .nil (fun g hg => ⟨hg, fun h => h⟩) (fun g hg => hg.elim)) (fun g hg => ⟨.inl hg, (d2 g hg).2⟩) (fun g hg => .inr hg))))
end
mutual
def nSt : St → Nat
  | .mk _ _ e bs es => 2 + 3 * cntT e + nL bs + nL es
def nL : List St → Nat
  | [] => 0
  | a :: r => nSt a + nL r
end
end Go.Proofs.YtjglllpemhkkdaaGreatDoor.Gd

/- Places of lists of nodes: keys compared; the place of a list. -/
set_option maxRecDepth 100000
namespace Go.Proofs.YtjglllpemhkkdaaGreatDoor.Gs
open Go.RowKit Go.Lib Go.Sort Com Mem Im Ag Pl

abbrev ET : TypeId := 87
abbrev PT : TypeId := 161
theorem wideP : WideK Tryz.prog PT := ⟨_, Tryz.underlying161, fun _ _ => rfl⟩
theorem check_place (A : Option Addr) (n : Nat) (w : World) (em : Bool) : (Instr.checkKey em 10000 PT (encP (A, n))).run Tryz.prog w = .ok () w := by kernel_rfl
theorem sizeE : ∃ i, Tryz.prog.info? ET = some i ∧ i.size ≠ 0 := by
  have h : (Tryz.prog.info? ET).map (fun i => i.size) = some 8 := by kernel_rfl
  obtain ⟨i, hi, e⟩ := Option.map_eq_some_iff.1 h
  exact ⟨i, hi, by rw [e]; decide⟩
theorem part_P (x y : Value) (w : World) : (part 159 #[x, y] 0).run Tryz.prog w = .ok x w := by kernel_rfl
theorem part_N (x y : Value) (w : World) : (part 3 #[x, y] 1).run Tryz.prog w = .ok y w := by kernel_rfl
theorem fields_P : ∃ f g, (Tryz.prog.fieldsOf PT).toList = [f, g] ∧ f.name ≠ "_" ∧ f.type = 159 ∧ f.offset = 0 ∧ g.name ≠ "_" ∧ g.type = 3 ∧ g.offset = 1 := ⟨_, _, rfl, by decide, rfl, rfl, by decide, rfl, rfl⟩
theorem eq_placeD (d : Nat) {w : World} {k k' : Pk} (h : PtOk w k.1) (h' : PtOk w k'.1) : (Op.equalIn (d + 2) PT (encP k) (encP k')).run Tryz.prog w = .ok (decide (k' = k)) w := by
  obtain ⟨i, hi, hz⟩ := sizeE
  have hp : Tryz.prog.underlying 159 = some (.pointer ET) := Tryz.underlying159
  have hn : Tryz.prog.underlying 3 = some (.int .i64) := Tryz.underlying3
  have he := ptr_eq hp hi hz d h h'
  have he2 := int_eqIn (w := w) hn d (k.2 : Int) (k'.2 : Int)
  have hpd := pair_dec k.1 k'.1 k.2 k'.2
  rw [run_equalIn_struct w (d + 1) PT _ _ (by kernel_rfl) (by kernel_rfl)]
  obtain ⟨f, g, e1, e2, e3, e4, e5, e6, e7⟩ := fields_P
  rw [e1]
  unfold Op.eqFields
  rw [if_pos e2, e3, e4]
  simp only [Sem.run_bind, part_P, Result.andThen_ok, he]
  unfold Op.eqFields
  rw [if_pos e5, e6, e7]
  cases hd : decide (k.1 = k'.1) with
  | false =>
    rw [hd, Bool.false_and] at hpd
    rw [← hpd]
    simp
  | true =>
    rw [hd, Bool.true_and] at hpd
    rw [← hpd]
    simp only [Bool.not_true, Bool.false_eq_true, if_false, Sem.run_bind, part_N, Result.andThen_ok, he2]
    unfold Op.eqFields
    cases ((k.2 : Int) == (k'.2 : Int)) <;> simp
theorem eq_place {w : World} {k k' : Pk} (h : PtOk w k.1) (h' : PtOk w k'.1) : (Op.equal PT (encP k) (encP k')).run Tryz.prog w = .ok (decide (k' = k)) w := eq_placeD 9998 h h'
theorem bits_P (k : Pk) : ∀ n, Instr.sameBits (n + 1) (encP k) (encP k) = true := fun n => by simp [Instr.sameBits]
theorem dec_place {w : World} {k : Pk} {l : List (Pk × Value)} (h : PtOk w k.1) (hl : ∀ p ∈ l, PtOk w p.1.1) : Dec Tryz.prog encP PT w k l :=
  ⟨fun w em => check_place k.1 k.2 w em, fun p hp => eq_place h (hl p hp), bits_P k 9999⟩
set_option maxHeartbeats 2000000 in
theorem placeOf_any (A : Option Addr) (l c : Nat) (hA : l ≠ 0 → ∃ ad, A = some ad) (w : World) : Calls Tryz.prog 115 #[.slice A l c] w fun e w' => e = .returned (encP (if l = 0 then none else A, l)) ∧ Below w.heap.size w w' := by
  by_cases hl : l = 0
  · subst hl
    rw [if_pos rfl]
    go_enter Tryz.func115, Tryz.ntmps115
    go_wp2_with fail
    refine bodyPost_ret (results_cell_row Tryz.results115 _ _ w.heap.size PT _ (0, 0) _ rfl (heap_alloc_new w _) Tryz.underlying161 rfl (by kernel_rfl)) rfl ⟨rfl, (Below.refl _ _).alloc (Nat.le_refl _) _⟩
  · rw [if_neg hl]
    obtain ⟨ad, rfl⟩ := hA hl
    have t0 : ((l : Int) == 0) = false := beq_false_of_ne (by omega)
    have t1 : (0 : Int) < (l : Int) := by omega
    go_enter Tryz.func115, Tryz.ntmps115
    go_wp2_with fail
    refine bodyPost_ret (results_cell_row Tryz.results115 _ _ w.heap.size PT _ (0, 0) _ rfl (heap_alloc_new w _) Tryz.underlying161 rfl (by kernel_rfl)) rfl ⟨rfl, (Below.refl _ _).alloc (Nat.le_refl _) _⟩
open Tr Kd

abbrev LT : TypeId := 235
abbrev RT : TypeId := 238
set_option maxHeartbeats 1000000 in
theorem addWO (x y : Nat) (h : x + y ≤ 9223372036854775807) (w : World) : Calls Tryz.prog 180 #[.int .i64 x, .int .i64 y] w fun e w' => e = .returned (.int .i64 ((x + y : Nat) : Int)) ∧ w' = w := by
  have e0 : IntKind.i64.wrap (9223372036854775807 - (y : Int)) = 9223372036854775807 - (y : Int) := IntWalk.i64_in _ (by omega)
  have t0 : decide (9223372036854775807 - (y : Int) < (x : Int)) = false := decide_eq_false (by omega)
  have e1 : IntKind.i64.wrap ((x : Int) + (y : Int)) = (x : Int) + (y : Int) := IntWalk.i64_in _ (by omega)
  go_enter Tryz.func180, Tryz.ntmps180
  go_wp2_with fail
  go_ret
  exact ⟨by rw [Int.natCast_add]; rfl, rfl⟩
theorem zeroR (w : World) : (zeroValue RT).run Tryz.prog w = .ok (.agg #[.slice none 0 0, .int .i64 0]) w := by kernel_rfl
theorem fieldT (A : Option Addr) (l c : Nat) (x : Int) (w : World) : (Instr.field RT (.agg #[.slice A l c, .int .i64 x]) 1).run Tryz.prog w = .ok (.int .i64 x) w := by kernel_rfl
set_option maxHeartbeats 1000000 in
theorem add0 (mb : Nat) (A : Option Addr) (c : Nat) (m : Int) (w : World) : Calls Tryz.prog 179 #[.map (some mb), .slice A 0 c, .int .i64 m] w fun e w' => e = .returned (.tuple #[]) ∧ w' = w := by
  go_enter Tryz.func179, Tryz.ntmps179
  go_wp2_with fail
  go_end0
  exact ⟨rfl, rfl⟩
set_option maxHeartbeats 4000000 in
theorem add1 (mb : Nat) (h : He Gd.St) (ln : LN Gd.St) (m : Nat) (ad : Addr) (hA : ln.A = some ad) (hne : ln.ks ≠ []) (w : World) (hm : EMap encP w mb (kvH h)) (hP : IsPl w ad.block) (hh : ∀ p ∈ h, PtOk w p.1.key.1) (hbd : getE h ln.key + m ≤ 9223372036854775807) :
    Calls Tryz.prog 179 #[.map (some mb), slv ln, .int .i64 m] w fun e w' => e = .returned (.tuple #[]) ∧ EMap encP w' mb (kvH (addE h ln m)) ∧ w.grownBy w' (some mb) := by
  obtain ⟨A, c, ks⟩ := ln
  obtain rfl : A = some ad := hA
  have hkey : (LN.mk (some ad) c ks).key = (some ad, ks.length) := LN.key_ne hne
  have hput := aput_kvH h ⟨some ad, c, ks⟩ m
  obtain ⟨A0, l0, c0, hget⟩ := aget_kvH h (LN.mk (some ad) c ks).key
  rw [hkey] at hbd hget
  rw [hkey] at hput
  have hpos : 0 < ks.length := List.length_pos_iff.2 hne
  have hlk : ks.length = ks.length := rfl
  show Calls _ _ #[.map (some mb), .slice (some ad) ks.length c, .int .i64 m] w _
  have hput : aput (kvH h) (some ad, ks.length) (.agg #[.slice (some ad) ks.length c, .int .i64 ((getE h (some ad, ks.length) + m : Nat) : Int)]) = kvH (addE h ⟨some ad, c, ks⟩ m) := hput
  generalize ks.length = l at *
  generalize kvH (addE h ⟨some ad, c, ks⟩ m) = fin at *
  generalize hg : getE h (some ad, l) = x at *
  replace hput := hid hput
  replace hget := hid hget
  have tl : decide ((0 : Int) < (l : Int)) = true := decide_eq_true (by omega)
  have hpl := placeOf_any (some ad) l c (fun _ => ⟨ad, rfl⟩) w
  rw [if_neg (by omega)] at hpl
  replace hpl := hid hpl
  have hmb := hm.lt
  have hk : ∀ p ∈ kvH h, PtOk w p.1.1 := fun p hp => by
    obtain ⟨q, hq, rfl⟩ := List.mem_map.1 hp
    exact hh q hq
  replace hk := hid hk
  replace hm := hid hm
  replace hP := hid hP
  generalize kvH h = kvs at *
  clear hh hg hne hkey
  go_enter Tryz.func179, Tryz.ntmps179
  go_wp2_with fail
  refine hpl.out.mono ?_
  rintro e w1 ⟨rfl, hb⟩
  have hb := hid (hb.trans ((box_below w1 (.cells #[.pointer (some ad), .int .i64 (l : Int)] PT)).mono hb.size))
  have hB := Blk.new w1 PT [.pointer (some ad), .int .i64 (l : Int)]
  have hB := hid hB
  clear hpl
  go_wp2_with fail
  obtain ⟨W2, hW2⟩ : ∃ W2 : World, W2 = (w1.alloc (.cells #[.pointer (some ad), .int .i64 (l : Int)] PT)) := ⟨_, rfl⟩
  rw [← hW2] at hb hB ⊢
  have b0 : ({ W2 with drawn := W2.drawn + 1 } : World).cell? ⟨w1.heap.size, 0, none⟩ = some (.pointer (some ad)) := hB.out.cell 0
  have b1 : ({ W2 with drawn := W2.drawn + 1 } : World).cell? ⟨w1.heap.size, 1, none⟩ = some (.int .i64 (l : Int)) := hB.out.cell 1
  have hb3 : Below w.heap.size w ({ W2 with drawn := W2.drawn + 1 } : World) := ⟨hb.out.os, hb.out.tape, hb.out.output, hb.out.size, hb.out.block⟩
  clear hb hB
  refine wp_region_still_tail 10 (by kernel_rfl) (by kernel_rfl) ?_
  generalize ({ W2 with drawn := W2.drawn + 1 } : World) = W3 at *
  have hm3 := hid (hm.out.below hb3 hmb)
  have hD3 := hid (dec_place (w := W3) (k := (some ad, l)) (l := kvs) (PtOk_go (fun a e => by cases e; exact hP.out) hb3) (fun p hp => PtOk_go (hk.out p hp) hb3))
  have hlook : (Instr.lookup LT (.map (some mb)) (encP (some ad, l)) false).run Tryz.prog W3 = .ok (.agg #[.slice A0 l0 c0, .int .i64 (x : Nat)]) W3 := by
    have h1 := run_look hm3.out Tryz.underlying235 wideP hD3.out (zeroR W3) false
    rw [if_neg (by decide), hget.out] at h1
    exact h1
  have hb3 := hid hb3
  simp only [List.take_succ_cons, List.take_zero, List.drop_succ_cons, List.drop_zero]
  have qf := fieldT A0 l0 c0 (x : Nat)
  repeat still_step
  have hadd := hid (addWO x m hbd W3)
  still_call hadd.out
  repeat still_step
  refine wpStill_nil ?_
  go_wp2_with (at_mapUpdate; refine wpList_aput rfl _ _ _ (Or.inr rfl) Tryz.underlying235 wideP mb kvs hm3.out (some ad, l) (.agg #[.slice (some ad) l c, .int .i64 ((x + m : Nat) : Int)]) hD3.out rfl rfl rfl ?_; intro w4 hm4 hg4 _)
  go_end0
  exact ⟨rfl, by rw [← hput.out]; exact hm4, gb_trans ⟨hb3.out.os, hb3.out.tape, hb3.out.output, hb3.out.size, fun k hk _ => hb3.out.block k hk⟩ hg4⟩
end Go.Proofs.YtjglllpemhkkdaaGreatDoor.Gs
