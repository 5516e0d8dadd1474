/- Chapter 7: the program's table of formatters; LevelOf. -/
import Derived.Test.YtjglllpemhkkdaaGreatDoorZF7a
import Derived.Test.YtjglllpemhkkdaaGreatDoorZIk
import Derived.Test.YtjglllpemhkkdaaGreatDoorZC3b
import Derived.Deep.RegionHeld3
import Derived.Test.YtjglllpemhkkdaaGreatDoorZC1
import Derived.Test.YtjglllpemhkkdaaGreatDoorZShelf
import Derived.Lib.LaidTab
import Derived.Lib.AppendIntMem
import Derived.Test.YtjglllpemhkkdaaGreatDoorZE8
import Derived.Test.YtjglllpemhkkdaaGreatDoorZSt5
import Derived.Test.YtjglllpemhkkdaaGreatDoorZNix
import Derived.Test.YtjglllpemhkkdaaGreatDoorZCom
set_option maxRecDepth 100000
namespace Go.Proofs.YtjglllpemhkkdaaGreatDoor.Tk
open Go.RowKit Go.Lib Go.Sort Num Com Mem YtjglllpemhkkdaaGreatDoor.Os Tr Ik

abbrev FMT : TypeId := 194
abbrev MFT : TypeId := 195
abbrev fn2 (f g : Nat) : Value := .agg #[.func (Fn.func f) #[] #[], .func (Fn.func g) #[] #[]]
def fmtsL : List (Int × Value) := [(1, fn2 188 189), (2, fn2 188 190), (3, fn2 191 192), (4, fn2 193 194)]
theorem zeroF (w : World) : (zeroValue FMT).run Tryz.prog w = .ok (.agg #[.nilFunc, .nilFunc]) w := by kernel_rfl
set_option maxHeartbeats 1000000 in
theorem formatters_any (w : World) : Calls Tryz.prog 142 #[] w fun e w' => e = .returned (.map (some w.heap.size)) ∧ KMap w' w.heap.size fmtsL ∧ Below w.heap.size w w' := by
  have hmm := @run_makeMap Tryz.prog
  have H : KMap (w.alloc (.map #[] 0)) w.heap.size [] ∧ Below w.heap.size w (w.alloc (.map #[] 0)) := ⟨Im.IMap.new w, (Below.refl _ _).alloc (Nat.le_refl _) _⟩
  have H := hid H
  go_enter Tryz.func142, Tryz.ntmps142
  go_wp2_with (refine wpList_put rfl _ _ _ (Or.inl rfl) Tryz.underlying195 Tryz.underlying3 _ _ H.out.1 _ _ rfl rfl rfl (by kernel_rfl) ?_; intro w1 hs1 hg1 hz1; replace H := hid (And.intro hs1 (bgb H.out.2 hg1 H.out.2.size (Nat.le_refl _))); clear hs1 hg1 hz1)
  go_ret
  exact ⟨rfl, H.out.1, H.out.2⟩
theorem look_at {w : World} {b : Nat} (h : KMap w b fmtsL) (k : Int) (ok : Bool) : (Instr.lookup MFT (.map (some b)) (.int .i64 k) ok).run Tryz.prog w = .ok (if ok then .tuple #[(kget fmtsL k).getD (.agg #[.nilFunc, .nilFunc]), .bool (kget fmtsL k).isSome] else (kget fmtsL k).getD (.agg #[.nilFunc, .nilFunc])) w :=
  run_look h Tryz.underlying195 Tryz.underlying3 (zeroF w) ok
theorem kget_none {k : Int} (h1 : k ≠ 1) (h2 : k ≠ 2) (h3 : k ≠ 3) (h4 : k ≠ 4) : kget fmtsL k = none := by
  have e : ∀ a : Int, k ≠ a → (a == k) = false := fun a h => beq_false_of_ne (fun e => h e.symm)
  simp [kget, fmtsL, e _ h1, e _ h2, e _ h3, e _ h4]
theorem look1 {w : World} {b : Nat} (h : KMap w b fmtsL) : (Instr.lookup MFT (.map (some b)) (.int .i64 1) true).run Tryz.prog w = .ok (.tuple #[fn2 188 189, .bool true]) w ∧ (Instr.lookup MFT (.map (some b)) (.int .i64 1) false).run Tryz.prog w = .ok (fn2 188 189) w := ⟨look_at h 1 true, look_at h 1 false⟩
theorem look2 {w : World} {b : Nat} (h : KMap w b fmtsL) : (Instr.lookup MFT (.map (some b)) (.int .i64 2) true).run Tryz.prog w = .ok (.tuple #[fn2 188 190, .bool true]) w ∧ (Instr.lookup MFT (.map (some b)) (.int .i64 2) false).run Tryz.prog w = .ok (fn2 188 190) w := ⟨look_at h 2 true, look_at h 2 false⟩
theorem look3 {w : World} {b : Nat} (h : KMap w b fmtsL) : (Instr.lookup MFT (.map (some b)) (.int .i64 3) true).run Tryz.prog w = .ok (.tuple #[fn2 191 192, .bool true]) w ∧ (Instr.lookup MFT (.map (some b)) (.int .i64 3) false).run Tryz.prog w = .ok (fn2 191 192) w := ⟨look_at h 3 true, look_at h 3 false⟩
theorem look4 {w : World} {b : Nat} (h : KMap w b fmtsL) : (Instr.lookup MFT (.map (some b)) (.int .i64 4) true).run Tryz.prog w = .ok (.tuple #[fn2 193 194, .bool true]) w ∧ (Instr.lookup MFT (.map (some b)) (.int .i64 4) false).run Tryz.prog w = .ok (fn2 193 194) w := ⟨look_at h 4 true, look_at h 4 false⟩
theorem lookN {w : World} {b : Nat} (h : KMap w b fmtsL) {k : Int} (h1 : k ≠ 1) (h2 : k ≠ 2) (h3 : k ≠ 3) (h4 : k ≠ 4) : (Instr.lookup MFT (.map (some b)) (.int .i64 k) true).run Tryz.prog w = .ok (.tuple #[.agg #[.nilFunc, .nilFunc], .bool false]) w := by
  have := look_at h k true
  rw [kget_none h1 h2 h3 h4] at this
  exact this
/-! the levels of the kinds -/
set_option maxHeartbeats 400000 in
theorem lv_atom (k n : Int) (s : List UInt8) (A : Option Addr) (l c : Nat) (w : World) : Calls Tryz.prog 188 #[nv k n s A l c] w fun e w' => e = .returned (.int .i64 7) ∧ Below w.heap.size w w' := by
  have hb1 := hid (box_below w (.cells #[.int .i64 k, .int .i64 n, sv s, .slice A l c] 29))
  go_enter Tryz.func188, Tryz.ntmps188
  go_wp2_with fail
  go_ret
  exact ⟨rfl, hb1.out⟩
set_option maxHeartbeats 400000 in
theorem lv_not (k n : Int) (s : List UInt8) (A : Option Addr) (l c : Nat) (w : World) : Calls Tryz.prog 193 #[nv k n s A l c] w fun e w' => e = .returned (.int .i64 6) ∧ Below w.heap.size w w' := by
  have hb1 := hid (box_below w (.cells #[.int .i64 k, .int .i64 n, sv s, .slice A l c] 29))
  go_enter Tryz.func193, Tryz.ntmps193
  go_wp2_with fail
  go_ret
  exact ⟨rfl, hb1.out⟩
theorem lvl_no8 {n : Int} (h : n < 1 ∨ 8 < n) : lvl 3 n = 7 := lvl_no fun j h1 h2 => by
  have hj : j = 1 ∨ j = 2 ∨ j = 3 ∨ j = 4 ∨ j = 5 := by omega
  rcases hj with rfl | rfl | rfl | rfl | rfl <;> (simp only [opsOf, List.mem_cons, List.not_mem_nil, or_false]; omega)
set_option maxHeartbeats 2000000 in
theorem lv_op (n : Int) (k : Int) (s : List UInt8) (A : Option Addr) (l c : Nat) (w : World) : Calls Tryz.prog 191 #[nv k n s A l c] w fun e w' => e = .returned (.int .i64 (lvl 3 n : Nat)) ∧ Below w.heap.size w w' := by
  have hb1 := hid (box_below w (.cells #[.int .i64 k, .int .i64 n, sv s, .slice A l c] 29))
  by_cases h : 1 ≤ n ∧ n ≤ 8
  · rcases C3.op_cases h.1 h.2 with rfl | rfl | rfl | rfl | rfl | rfl | rfl | rfl
    all_goals
      go_enter Tryz.func191, Tryz.ntmps191
      go_wp2_with fail
      go_ret
      exact ⟨rfl, hb1.out⟩
  · have hf := hid (lvl_no8 (n := n) (by omega))
    have e1 : (n == 1) = false := beq_false_of_ne (by omega)
    have e2 : (n == 2) = false := beq_false_of_ne (by omega)
    have e3 : (n == 3) = false := beq_false_of_ne (by omega)
    have e4 : (n == 4) = false := beq_false_of_ne (by omega)
    have e5 : (n == 5) = false := beq_false_of_ne (by omega)
    have e6 : (n == 6) = false := beq_false_of_ne (by omega)
    have e7 : (n == 7) = false := beq_false_of_ne (by omega)
    have e8 : (n == 8) = false := beq_false_of_ne (by omega)
    clear h
    go_enter Tryz.func191, Tryz.ntmps191
    go_wp2_with fail
    go_ret
    exact ⟨by rw [hf.out]; rfl, hb1.out⟩
def lft (x : Int) : Int := if x = 3 then 4 else x
def rgt (x : Int) : Int := if x = 3 then 4 else x + 1
set_option maxHeartbeats 400000 in
theorem lvs_operands (x : Int) (h0 : 0 ≤ x) (h1 : x ≤ 100) (w : World) : Calls Tryz.prog 227 #[.int .i64 x] w fun e w' => e = .returned (.tuple #[.int .i64 (lft x), .int .i64 (rgt x)]) ∧ w = w' := by
  by_cases h : x = 3
  · subst h
    go_enter Tryz.func227, Tryz.ntmps227
    go_wp2_with fail
    go_ret2
    exact ⟨rfl, rfl⟩
  · have e1 : (x == 3) = false := beq_false_of_ne h
    have e2 : IntKind.i64.wrap (x + 1) = x + 1 := IntWalk.i64_in _ (by omega)
    have hf := hid (show lft x = x by unfold lft; rw [if_neg h])
    have hg := hid (show rgt x = x + 1 by unfold rgt; rw [if_neg h])
    clear h
    go_enter Tryz.func227, Tryz.ntmps227
    go_wp2_with fail
    go_ret2
    exact ⟨by rw [hf.out, hg.out]; rfl, rfl⟩
end Go.Proofs.YtjglllpemhkkdaaGreatDoor.Tk

/- FnExactFormatInt: the program's FormatInt (strconv.Itoa) answers as the model's, for every int. -/
set_option maxRecDepth 100000
namespace Go.Proofs.YtjglllpemhkkdaaGreatDoor.L1b
open Go.RowKit Go.Lib Num Com C1

def Pow (w : World) : Prop := Lib.TabIs Tryz.prog w "internal/strconv.uint64pow10" .u64 Lib.pow10Tab
theorem Pow.below {w w' : World} (h : Pow w) (hb : Below w.heap.size w w') : Pow w' := by
  exact var_below h hb

theorem met_tail {P : Program} {W : World} {x : String × DataW Unit} {r : List (String × DataW Unit)} (h : laidMet P (x :: r) W) : laidMet P r W := by
  obtain ⟨n, d⟩ := x
  obtain ⟨ps, ⟨g, t, cs, fuel, p, q, _, _, _, _, hr, rfl⟩, hnd, hrows⟩ := h
  have hs : q.Sublist (MemPlace.row ⟨g, 0, none⟩ cs.size ++ p ++ q) := List.sublist_append_right _ _
  exact ⟨q, hr, hnd.sublist hs, fun b off hp => hrows b off (hs.subset hp)⟩
set_option maxHeartbeats 400000 in
theorem implFormat (n : Int) (h0 : -9223372036854775808 ≤ n) (h1 : n ≤ 9223372036854775807) (w : World) (hp : Pow w) : Calls Tryz.prog 226 #[.int .i64 n] w fun e w' => e = .returned (.string ⟨(itoa n).toArray⟩) ∧ Below w.heap.size w w' := by
  have hc := hid (Tryz.strconv_Itoa n h0 h1 w hp)
  clear hp
  go_enter Tryz.func226, Tryz.ntmps226
  go_wp2_with fail
  refine hc.out.mono ?_
  rintro e w' ⟨rfl, k, os, rfl⟩
  go_wp2_with fail
  go_ret
  exact ⟨rfl, below_grow _ _ (Nat.le_refl _) _ _⟩

end Go.Proofs.YtjglllpemhkkdaaGreatDoor.L1b

/- Statements in the exact laws' words: marked. -/
set_option maxRecDepth 100000
namespace Go.Proofs.YtjglllpemhkkdaaGreatDoor.Gd
open Go.RowKit Go.Lib Com Mem YtjglllpemhkkdaaGreatDoor.Os Tr

def markCL (L : List St) : Nat := nL L
theorem markCL_sz (L : List St) : markCL L ≤ 5 * szL8 L := by
  have hs : ∀ L : List St, (∀ a ∈ L, nSt a ≤ 5 * (1 + szDR a.d)) → nL L ≤ 5 * (L.length + szDL (dl L)) := fun L hL => by
    induction L with
    | nil => simp [nL]
    | cons b r ih =>
      have := hL b (by simp)
      have := ih fun a ha => hL a (by simp [ha])
      simp only [nL, List.length_cons, dl, List.map_cons, szDL] at *
      omega
  have key : ∀ t : St, nSt t ≤ 5 * (1 + szDR t.d) := fun t => by
    induction t using St.ind with
    | h k s e bs es h1 h2 =>
      have := hs bs h1
      have := hs es h2
      have := cnt_sz e
      rw [St.d_mk, szR_st, nSt_mk]
      simp only [dl, List.length_map] at *
      omega
  have := hs L fun a _ => key a
  unfold markCL szL8
  exact this
theorem markL_own {lo hi : Nat} {v : Value} {L : List St} (kI : Int) (w : World) (h : OwnL lo hi w v L) (h0 : 0 < kI) (h1 : kI + ((markCL L : Nat) : Int) ≤ 9223372036000000000) (hs : hi ≤ w.heap.size) :
    Calls Tryz.prog 33 #[v, .int .i64 kI] w fun e w' => e = .returned (.int .i64 (kI + ((markCL L : Nat) : Int))) ∧ OwnL lo hi w' v (markL kI.toNat L) ∧ Chg w w' lo hi := by
  obtain ⟨k, rfl⟩ : ∃ k : Nat, kI = k := ⟨kI.toNat, by omega⟩
  rw [Int.toNat_natCast]
  obtain ⟨A, c, rows, rfl, hk, hl⟩ := h.row
  unfold markCL at *
  refine (markL_any _ L rfl (Iv lo hi) A L.length c k w h (fun g hg => by have := hg.2; omega) (by omega) (by omega)).mono fun e w' ⟨e1, o, hc⟩ => ⟨?_, o, hc.chg⟩
  rw [e1]
  congr 1
end Go.Proofs.YtjglllpemhkkdaaGreatDoor.Gd

/- The program's ParseExpr by its contract. -/
set_option maxRecDepth 100000
namespace Go.Proofs.YtjglllpemhkkdaaGreatDoor.Tk
open Go.RowKit Go.Lib Go.Sort Num Com Mem YtjglllpemhkkdaaGreatDoor.Os Tr
set_option maxHeartbeats 2000000 in
theorem iparse_any (S : List UInt8) (hS : S.length ≤ 9223372036854775807) (w : World) (hnv : NotV w) (hh : As.Handle w) : Calls Tryz.prog 14 #[.string ⟨S.toArray⟩] w (ParseOk S w) := by
  have b1 : Below w.heap.size w (w.alloc (.cells #[.int .i64 0, .int .i64 0, .string ⟨#[]⟩, .slice none 0 0] ET)) := box_below _ _
  have B1 := hid (Blk.new w ET [.int .i64 0, .int .i64 0, .string ⟨#[]⟩, .slice none 0 0])
  have z1 : (w.alloc (.cells #[.int .i64 0, .int .i64 0, .string ⟨#[]⟩, .slice none 0 0] ET)).heap.size = w.heap.size + 1 := size_alloc' _ _
  have hn := hid (pwhole_any S hS (w.alloc (.cells #[.int .i64 0, .int .i64 0, .string ⟨#[]⟩, .slice none 0 0] ET)) (hnv.below b1) (hand_below hh b1))
  have b1 := hid b1
  clear hnv hh
  go_enter Tryz.func14, Tryz.ntmps14
  go_wp2_with fail
  generalize (w.alloc (.cells #[.int .i64 0, .int .i64 0, .string ⟨#[]⟩, .slice none 0 0] ET)) = w1 at *
  refine hn.out.mono ?_
  rintro e w2 ⟨K, N, s, A, L, cc, rfl, ho, hb⟩
  have z2 := hb.size
  have B2 := B1.out.below hb B1.out.lt
  have b2 := b1.out.trans (hb.mono b1.out.size)
  have hf := ans_fin B2 ho (by omega) (Nat.le_refl _) b2
  have hf1 := hid hf.1
  have hf2 := hid hf.2
  obtain ⟨r0, r1, r2, r3⟩ := four B2
  have y0 := B2.frozen 0
  have y1 := B2.frozen 1
  have y2 := B2.frozen 2
  have y3 := B2.frozen 3
  clear hf B2 b2 hb ho hn B1 b1
  go_wp2_with fail
  exact bodyPost_ret (results_cell2 Tryz.results14 _ _ w.heap.size 29 _ (0, 0) _ rfl hf1.out Tryz.underlying29 rfl (by kernel_rfl)) rfl ⟨_, _, _, _, _, _, rfl, hf2.out.1, hf2.out.2⟩
end Go.Proofs.YtjglllpemhkkdaaGreatDoor.Tk

/- Chapter 4: two expressions compared, in the exact law's words. -/
set_option maxRecDepth 100000
namespace Go.Proofs.YtjglllpemhkkdaaGreatDoor.Tr
open Go.RowKit Go.Lib Com Mem YtjglllpemhkkdaaGreatDoor.Os
end Go.Proofs.YtjglllpemhkkdaaGreatDoor.Tr

/- The laws' look at the code's length. -/
set_option maxRecDepth 100000
namespace Go.Proofs.YtjglllpemhkkdaaGreatDoor.Big
open Go.RowKit
theorem big_any (A : Option Addr) (n c : Nat) (w : World) : Calls Tryz.prog 10 #[.slice A n c] w fun e w' => e = .returned (.bool (decide (1048576 < (n : Int)))) ∧ w = w' := by
  go_enter Tryz.func10, Tryz.ntmps10
  go_wp2_with fail
  go_ret
  exact ⟨rfl, rfl⟩

end Go.Proofs.YtjglllpemhkkdaaGreatDoor.Big
