/- Chapter 1, the specification's own FormatInt: the walk. -/
import Derived.Test.YtklcbagddijkgaaGreatDoorRows
import Derived.Test.YtklcbagddijkgaaGreatDoorZNum
import Derived.Test.YtklcbagddijkgaaGreatDoorZCom
import Derived.Test.YtklcbagddijkgaaGreatDoorZLv
import Derived.Test.YtklcbagddijkgaaGreatDoorZEx4
import Derived.Test.YtklcbagddijkgaaGreatDoorZC3a
set_option maxRecDepth 100000
namespace Go.Proofs.YtklcbagddijkgaaGreatDoor.C1
open Go.RowKit Go.Lib Go.Proofs.YtklcbagddijkgaaGreatDoor.Num Go.Proofs.YtklcbagddijkgaaGreatDoor.Com

theorem rfl0 : itoa 0 = [48] := by unfold itoa; rw [if_neg (by omega)]; exact decDigits_one (by omega)

set_option maxHeartbeats 400000 in
theorem fmt_zero (w : World) : Calls Tryz.prog 95 #[.int .i64 0] w fun e w' => e = .returned (.string ⟨(itoa 0).toArray⟩) ∧ Below w.heap.size w w' := by
  rw [show itoa 0 = [48] from rfl0]
  go_enter Tryz.func95, Tryz.ntmps95
  go_wp2
  go_ret
  exact ⟨rfl, Below.refl _ _⟩

set_option maxHeartbeats 400000 in
theorem fmt_pos (n : Nat) (h0 : 0 < n) (h1 : n ≤ 9223372036854775807) (w : World) : Calls Tryz.prog 95 #[.int .i64 n] w fun e w' => e = .returned (.string ⟨(decDigits n).toArray⟩) ∧ Below w.heap.size w w' := by
  have hn0 : ((n : Int) == 0) = false := beq_eq_false_iff_ne.2 (by omega)
  have hlt : decide ((n : Int) < 0) = false := by simp
  go_enter Tryz.func95, Tryz.ntmps95
  go_wp2
  go_loopw [0, 4] (fun a o wr => ∃ (k : Nat) (l : List UInt8), k ≤ n ∧ a = .int .i64 k ∧ o = .string ⟨l.toArray⟩ ∧ digs k ++ l = digs n ∧ Below w.heap.size w wr) (fun a _ _ => (Go.RowKit.intOf a).toNat)
  case atStart => exact ⟨n, [], Nat.le_refl _, rfl, rfl, List.append_nil _, Below.refl _ _⟩
  case round =>
    obtain ⟨k, l, hk, rfl, rfl, hl, hb⟩ := hrel
    by_cases hk0 : k = 0
    · subst hk0
      go_wp2
      go_ret
      exact ⟨by simp [digs] at hl; rw [if_neg (by omega)] at hl; simp [hl], hb⟩
    · have hkne : ((k : Int) != 0) = true := by rw [bne_iff_ne]; omega
      have hm : decide ((k : Int) % 10 < 0) = false := by simp; omega
      have hcv := run_str1 wr (48 + (k : Int) % 10) (by omega) (by omega)
      have hsz : l.length ≤ 20 := by
        have := congrArg List.length hl
        rw [List.length_append, digs_len n (by omega)] at this
        have := nDigits_le20 n (by omega)
        omega
      go_wp2
      refine ⟨⟨k / 10, UInt8.ofNat (48 + k % 10) :: l, by omega, by go_num, str_cons _ _, ?_, hb.alloc hb.size _⟩, by simp [Go.RowKit.intOf]; omega⟩
      rw [← hl, digs_step hk0]; simp

set_option maxHeartbeats 400000 in
theorem fmt_neg (n : Nat) (h0 : 0 < n) (h1 : n ≤ 9223372036854775808) (w : World) : Calls Tryz.prog 95 #[.int .i64 (-(n : Int))] w fun e w' => e = .returned (.string ⟨(45 :: decDigits n).toArray⟩) ∧ Below w.heap.size w w' := by
  have hn0 : ((-(n : Int)) == 0) = false := beq_eq_false_iff_ne.2 (by omega)
  have hlt : decide (-(n : Int) < 0) = true := by simp; omega
  go_enter Tryz.func95, Tryz.ntmps95
  go_wp2
  go_loopw [0, 4] (fun a o wr => ∃ (k : Nat) (l : List UInt8), k ≤ n ∧ a = .int .i64 (-(k : Int)) ∧ o = .string ⟨l.toArray⟩ ∧ digs k ++ l = digs n ∧ Below w.heap.size w wr) (fun a _ _ => (- Go.RowKit.intOf a).toNat)
  case atStart => exact ⟨n, [], Nat.le_refl _, rfl, rfl, List.append_nil _, Below.refl _ _⟩
  case round =>
    obtain ⟨k, l, hk, rfl, rfl, hl, hb⟩ := hrel
    have hsz : l.length ≤ 20 := by
      have := congrArg List.length hl
      rw [List.length_append, digs_len n (by omega)] at this
      have := nDigits_le20 n (by omega)
      omega
    by_cases hk0 : k = 0
    · subst hk0
      go_wp2
      go_ret
      refine ⟨congrArg Ending.returned (congrArg Value.string ((ByteArray.mk_append_mk [45] l).trans ?_)), hb⟩
      simp [digs] at hl; rw [if_neg (by omega)] at hl; rw [hl]; rfl
    · have hkne : ((-(k : Int)) != 0) = true := by rw [bne_iff_ne]; omega
      have hm : (-(k : Int)).tmod 10 = -((k % 10 : Nat) : Int) := by rw [Int.neg_tmod, Int.tmod_eq_emod_of_nonneg (by omega)]; omega
      have hq : (-(k : Int)).tdiv 10 = -((k / 10 : Nat) : Int) := by rw [Int.neg_tdiv, Int.tdiv_eq_ediv_of_nonneg (by omega)]; omega
      have hst : digs (k / 10) ++ UInt8.ofNat (48 + k % 10) :: l = digs n := by rw [← hl, digs_step hk0]; simp
      by_cases hz : k % 10 = 0
      · have hcv := run_str1 wr 48 (by omega) (by omega)
        have hst := hid hst
        go_wp2
        refine ⟨⟨k / 10, UInt8.ofNat (48 + k % 10) :: l, by omega, by go_num, ?_, hst.out, hb.alloc hb.size _⟩, by simp [Go.RowKit.intOf]; omega⟩
        rw [hz]; exact str_cons 0 l
      · have hcv := run_str1 wr (48 + (k : Int) % 10) (by omega) (by omega)
        have hpos : 0 < (k : Int) % 10 := by omega
        have hst := hid hst
        go_wp2
        refine ⟨⟨k / 10, UInt8.ofNat (48 + k % 10) :: l, by omega, by go_num, str_cons _ _, hst.out, hb.alloc hb.size _⟩, by simp [Go.RowKit.intOf]; omega⟩

/-- spec.FormatInt, for every int -/
theorem fmt_any (n : Int) (h0 : -9223372036854775808 ≤ n) (h1 : n ≤ 9223372036854775807) (w : World) : Calls Tryz.prog 95 #[.int .i64 n] w fun e w' => e = .returned (.string ⟨(itoa n).toArray⟩) ∧ Below w.heap.size w w' := by
  rcases Int.lt_trichotomy n 0 with h | h | h
  · obtain ⟨k, rfl⟩ : ∃ k : Nat, n = -(k : Int) := ⟨n.natAbs, by omega⟩
    have e : itoa (-(k : Int)) = 45 :: decDigits k := by unfold itoa; rw [if_pos h, Int.natAbs_neg, Int.natAbs_natCast]
    rw [e]; exact fmt_neg k (by omega) (by omega) w
  · subst h; exact fmt_zero w
  · obtain ⟨k, rfl⟩ : ∃ k : Nat, n = (k : Int) := ⟨n.toNat, by omega⟩
    have e : itoa (k : Int) = decDigits k := by unfold itoa; rw [if_neg (by omega), Int.toNat_natCast]
    rw [e]; exact fmt_pos k (by omega) (by omega) w
end Go.Proofs.YtklcbagddijkgaaGreatDoor.C1

/- The model's FormatExpr. -/
set_option maxRecDepth 100000
namespace Go.Proofs.YtklcbagddijkgaaGreatDoor.Tk
open Go.RowKit Go.Lib Go.Sort Go.Proofs.YtklcbagddijkgaaGreatDoor.Num Go.Proofs.YtklcbagddijkgaaGreatDoor.Com Go.Proofs.YtklcbagddijkgaaGreatDoor.Mem Go.Proofs.YtklcbagddijkgaaGreatDoor.Os Go.Proofs.YtklcbagddijkgaaGreatDoor.Tr

theorem bapp (a b : List UInt8) : (⟨a.toArray⟩ : ByteArray) ++ ⟨b.toArray⟩ = ⟨(a ++ b).toArray⟩ := by
  apply ByteArray.ext
  simp
theorem paren_len (s : List UInt8) (b : Bool) : s.length ≤ (paren s b).length ∧ (paren s b).length ≤ s.length + 2 := by
  unfold paren
  split
  · simp only [List.length_cons, List.length_append, List.length_nil]; omega
  · omega
/-- what l7Text promises of t -/
def TxS (t : T) : Prop := ∀ (v : Value) (w : World), allT t = true → (txtT7 t).length ≤ 1000000 → Ex w w.heap.size v t → Calls Tryz.prog 47 #[v] w fun e w' => e = .returned (sv (txtT7 t)) ∧ Below w.heap.size w w'
/-- what l7At promises of t -/
def AtS (t : T) (least : Nat) : Prop := ∀ (v : Value) (w : World), allT t = true → (txtT7 t).length ≤ 1000000 → Ex w w.heap.size v t → Calls Tryz.prog 96 #[v, .int .i64 least] w fun e w' => e = .returned (sv (paren (txtT7 t) (decide (lvlT t < least)))) ∧ Below w.heap.size w w'
set_option maxHeartbeats 1000000 in
theorem at_any (t : T) (h : TxS t) (least : Nat) : AtS t least := by
  intro v w hall hlen hv
  obtain ⟨k, n, s, ks⟩ := t
  obtain ⟨A, c, vs, rfl, hs, hl, hk⟩ := hv.kids
  have hb1 := box_below w (.cells #[.int .i64 k, .int .i64 n, sv s, .slice A ks.length c] 27)
  have hblk := hid (box_blk w k n s A ks.length c 27)
  have hcl := hid (h _ _ hall hlen (hv.go hb1))
  replace hb1 := hid hb1
  have hlv := hid (fun w => slevel_any k n s A ks.length c w)
  have hlt : decide (lvl k n < least) = decide (lvlT (.mk k n s ks) < least) := rfl
  generalize decide (lvlT (.mk k n s ks) < least) = q at *
  generalize txtT7 (.mk k n s ks) = x at *
  generalize ks.length = L at *
  clear hk hv hall h hl
  generalize lvl k n = lv at *
  have hbp := hid (bapp [40] x)
  have hbq := hid (bapp (40 :: x) [41])
  go_enter Tryz.func96, Tryz.ntmps96
  go_wp2_with fail
  generalize (w.alloc (.cells #[.int .i64 k, .int .i64 n, sv s, .slice A L c] 27)) = w1 at *
  refine hcl.out.mono ?_
  rintro e w2 ⟨rfl, hb⟩
  have hblk2 := hblk.out.below hb hblk.out.lt
  obtain ⟨k0, k1, k2, k3⟩ := four hblk2
  replace hb := hid (hb1.out.trans (hb.mono hb1.out.size))
  clear hcl hblk2
  go_wp2_with fail
  refine (hlv.out w2).mono ?_
  rintro e w3 ⟨rfl, hb3⟩
  replace hb3 := hid (hb.out.trans (hb3.mono hb.out.size))
  cases q
  · go_wp2_with fail
    go_ret
    exact ⟨rfl, hb3.out⟩
  · go_wp2_with fail
    go_ret
    refine ⟨?_, hb3.out⟩
    show Ending.returned (.string (_ ++ _ ++ _)) = _
    rw [hbp.out]
    show Ending.returned (.string (⟨(40 :: x).toArray⟩ ++ _)) = _
    rw [hbq.out]; rfl
set_option maxHeartbeats 2000000 in
theorem text1 (n : Int) (s : List UInt8) (A : Option Addr) (l c : Nat) (w : World) (hn : 0 ≤ n ∧ n < 4) : Calls Tryz.prog 47 #[nv 1 n s A l c] w fun e w' => e = .returned (sv (itoa n)) ∧ Below w.heap.size w w' := by
  have hb1 := hid (box_below w (.cells #[.int .i64 1, .int .i64 n, sv s, .slice A l c] 27))
  have hf := hid (fun w => C1.fmt_any n (by omega) (by omega) w)
  go_enter Tryz.func47, Tryz.ntmps47
  go_wp2_with fail
  refine (hf.out _).mono ?_
  rintro e w2 ⟨rfl, hb⟩
  replace hb := hid (hb1.out.trans (hb.mono hb1.out.size))
  go_wp2_with fail
  go_ret
  exact ⟨rfl, hb.out⟩
set_option maxHeartbeats 2000000 in
theorem text2 (n : Int) (s : List UInt8) (A : Option Addr) (l c : Nat) (w : World) : Calls Tryz.prog 47 #[nv 2 n s A l c] w fun e w' => e = .returned (sv s) ∧ Below w.heap.size w w' := by
  have hb1 := hid (box_below w (.cells #[.int .i64 2, .int .i64 n, sv s, .slice A l c] 27))
  go_enter Tryz.func47, Tryz.ntmps47
  go_wp2_with fail
  go_ret
  exact ⟨rfl, hb1.out⟩
set_option maxHeartbeats 4000000 in
theorem text4 (n : Int) (s : List UInt8) (a : T) (iha : AtS a 6) (ha : allT a = true) (hlen : (txtT7 (.mk 4 n s [a])).length ≤ 1000000) (A : Option Addr) (c : Nat) (vs : Nat → Value) (w : World) (hk : Tr.Kids w w.heap.size A [a] vs) : Calls Tryz.prog 47 #[nv 4 n s A 1 c] w fun e w' => e = .returned (sv (txtT7 (.mk 4 n s [a]))) ∧ Below w.heap.size w w' := by
  have hb1 := box_below w (.cells #[.int .i64 4, .int .i64 n, sv s, .slice A 1 c] 27)
  have hk1 := hk.go hb1
  replace hb1 := hid hb1
  obtain ⟨ad, hA, _, c0, c1, c2, c3, e0, k0, k1, k2, k3⟩ := hk1.cell 0 (by simp)
  subst hA
  have x0 := hk1.kid 0 a rfl
  rw [e0] at x0
  have p0 : (w.alloc (.cells #[.int .i64 4, .int .i64 n, sv s, .slice (some ad) 1 c] 27)).cell? ad = some c0 := k0
  have p1 : (w.alloc (.cells #[.int .i64 4, .int .i64 n, sv s, .slice (some ad) 1 c] 27)).cell? ⟨ad.block, ad.off + 1, none⟩ = some c1 := k1
  have p2 : (w.alloc (.cells #[.int .i64 4, .int .i64 n, sv s, .slice (some ad) 1 c] 27)).cell? ⟨ad.block, ad.off + 2, none⟩ = some c2 := k2
  have p3 : (w.alloc (.cells #[.int .i64 4, .int .i64 n, sv s, .slice (some ad) 1 c] 27)).cell? ⟨ad.block, ad.off + 3, none⟩ = some c3 := k3
  rw [txt7_4] at hlen ⊢
  have hpl := paren_len (txtT7 a) (decide (lvlT a < 6))
  rw [List.length_cons] at hlen
  have hcl := hid (iha _ _ ha (by omega) x0)
  replace hpl := hid hpl
  generalize paren (txtT7 a) (decide (lvlT a < 6)) = x at *
  have hbp := hid (bapp [33] x)
  clear hk e0 x0 k0 k1 k2 k3 hk1
  go_enter Tryz.func47, Tryz.ntmps47
  go_wp2_with fail
  refine hcl.out.mono ?_
  rintro e w2 ⟨rfl, hb2⟩
  replace hb2 := hid (hb1.out.trans (hb2.mono hb1.out.size))
  clear hcl p0 p1 p2 p3
  go_wp2_with fail
  go_ret
  refine ⟨?_, hb2.out⟩
  show Ending.returned (.string (_ ++ _)) = _
  rw [hbp.out]; rfl
end Go.Proofs.YtklcbagddijkgaaGreatDoor.Tk

/- The model's FormatExpr, whole. -/
set_option maxRecDepth 100000
namespace Go.Proofs.YtklcbagddijkgaaGreatDoor.Tk
open Go.RowKit Go.Lib Go.Sort Go.Proofs.YtklcbagddijkgaaGreatDoor.Num Go.Proofs.YtklcbagddijkgaaGreatDoor.Com Go.Proofs.YtklcbagddijkgaaGreatDoor.Mem Go.Proofs.YtklcbagddijkgaaGreatDoor.Os Go.Proofs.YtklcbagddijkgaaGreatDoor.Tr

theorem symL_len (k : Int) : (C3.symL k).length ≤ 2 := by
  unfold C3.symL
  repeat' split
  all_goals simp
set_option maxHeartbeats 400000 in
theorem text3 (n : Int) (s : List UInt8) (a b : T) (iha : ∀ l, AtS a l) (ihb : ∀ l, AtS b l) (ha : allT a = true) (hb : allT b = true) (hlen : (txtT7 (.mk 3 n s [a, b])).length ≤ 1000000) (A : Option Addr) (c : Nat) (vs : Nat → Value) (w : World) (hk : Tr.Kids w w.heap.size A [a, b] vs) :
    Calls Tryz.prog 47 #[nv 3 n s A 2 c] w fun e w' => e = .returned (sv (txtT7 (.mk 3 n s [a, b]))) ∧ Below w.heap.size w w' := by
  have hb1 := box_below w (.cells #[.int .i64 3, .int .i64 n, sv s, .slice A 2 c] 27)
  have hblk := hid (box_blk w 3 n s A 2 c 27)
  have hk1 := hid (hk.go hb1)
  replace hb1 := hid hb1
  rw [txt7_3] at hlen ⊢
  have hlv := hid (fun w => slevel_any 3 n s A 2 c w)
  have hl7 := lvl_le 3 n
  generalize lvl 3 n = lv at *
  have hpa := paren_len (txtT7 a) (decide (lvlT a < if lv = 3 then 4 else lv))
  have hpb := paren_len (txtT7 b) (decide (lvlT b < lv + 1))
  have hS2 := symL_len n
  simp only [List.length_append, List.length_cons, List.length_nil] at hlen
  have hA := hid (fun v w hv => iha (if lv = 3 then 4 else lv) v w ha (by omega) hv)
  have hB := hid (fun v w hv => ihb (lv + 1) v w hb (by omega) hv)
  have hsy := hid (fun w => C3.ssymbol_any n w)
  generalize paren (txtT7 a) (decide (lvlT a < if lv = 3 then 4 else lv)) = xa at *
  generalize paren (txtT7 b) (decide (lvlT b < lv + 1)) = xb at *
  generalize C3.symL n = xs at *
  have hxa : xa.length ≤ 1000000 := by omega
  have hxb : xb.length ≤ 1000000 := by omega
  clear hk hpa hpb hlen iha ihb
  go_enter Tryz.func47, Tryz.ntmps47
  go_wp2_with fail
  generalize (w.alloc (.cells #[.int .i64 3, .int .i64 n, sv s, .slice A 2 c] 27)) = w1 at *
  refine (hlv.out w1).mono ?_
  rintro e w2 ⟨rfl, hb2⟩
  have hblk2 := hblk.out.below hb2 hblk.out.lt
  have hk2 := hk1.out.go hb2
  have hb2 := hid (hb1.out.trans (hb2.mono hb1.out.size))
  obtain ⟨b0, b1, b2, b3⟩ := four hblk2
  obtain ⟨ad, hA0, _, c0, c1, c2, c3, e0, k0, k1, k2, k3⟩ := hk2.cell 0 (by simp)
  subst hA0
  obtain ⟨ad', hA', _, d0, d1, d2, d3, e1, l0, l1, l2, l3⟩ := hk2.cell 1 (by simp)
  obtain rfl : ad = ad' := Option.some.inj hA'
  have x0 := hk2.kid 0 a rfl
  rw [e0] at x0
  have x1 := hk2.kid 1 b rfl
  rw [e1] at x1
  have p0 : w2.cell? ad = some c0 := k0
  have p1 : w2.cell? ⟨ad.block, ad.off + 1, none⟩ = some c1 := k1
  have p2 : w2.cell? ⟨ad.block, ad.off + 2, none⟩ = some c2 := k2
  have p3 : w2.cell? ⟨ad.block, ad.off + 3, none⟩ = some c3 := k3
  have q0 : w2.cell? ⟨ad.block, ad.off + 4, none⟩ = some d0 := l0
  have q1 : w2.cell? ⟨ad.block, ad.off + 4 + 1, none⟩ = some d1 := l1
  have q2 : w2.cell? ⟨ad.block, ad.off + 4 + 2, none⟩ = some d2 := l2
  have q3 : w2.cell? ⟨ad.block, ad.off + 4 + 3, none⟩ = some d3 := l3
  replace p0 := cell_regrown p0
  replace p1 := cell_regrown p1
  replace p2 := cell_regrown p2
  replace p3 := cell_regrown p3
  replace q0 := cell_regrown q0
  replace q1 := cell_regrown q1
  replace q2 := cell_regrown q2
  replace q3 := cell_regrown q3
  replace b1 := cell_regrown b1
  replace b3 := cell_regrown b3
  have cA := hid (fun (d : Nat) (os : Array Obj) => Calls.regrown_of (d := d) (os := os) (hA.out _ (grow (redrawn w2 d) os) (x0.go (below_regrown w2 d os))))
  have cB := hid (fun (d : Nat) (os : Array Obj) => Calls.regrown_of (d := d) (os := os) (hB.out _ (grow (redrawn w2 d) os) (x1.go (below_regrown w2 d os))))
  have cS := hid (fun (d : Nat) (os : Array Obj) => Calls.regrown_of (d := d) (os := os) (hsy.out (grow (redrawn w2 d) os)))
  have er : ((lv + 1 : Nat) : Int) = (lv : Int) + 1 := by omega
  rw [er] at cB
  have hwr : IntKind.i64.wrap ((lv : Int) + 1) = (lv : Int) + 1 := IntWalk.i64_in _ (by omega)
  clear hA hB hsy x0 x1 e0 e1 k0 k1 k2 k3 l0 l1 l2 l3 hk2 hblk2 hA' b0 b2 hlv er
  by_cases h3 : lv = 3
  · have t3 : ((lv : Int) == 3) = true := beq_iff_eq.2 (by omega)
    have e4 : ((4 : Nat) : Int) = 4 := rfl
    simp only [if_pos h3] at cA
    rw [e4] at cA
    clear e4
    clear h3
    go_wp2_with fail
    refine wp_region_quiet_below (by kernel_rfl) (by kernel_rfl) ?_
    repeat (go_big_quiet_step (first | with_reducible exact cA.out _ _ | with_reducible exact cB.out _ _ | with_reducible exact cS.out _ _))
    refine wpQuiet_nil ?_
    intro _ hw'
    obtain ⟨⟨dq, osq⟩, hw''⟩ := hw'
    subst hw''
    have hq := hid (below_regrown w2 dq osq)
    clear b1 b3 p0 p1 p2 p3 q0 q1 q2 q3 cA cB cS
    generalize grow (redrawn w2 dq) osq = wq at *
    go_wp2_with fail
    go_ret
    refine ⟨?_, hb2.out.trans (hq.out.mono hb2.out.size)⟩
    show Ending.returned (.string (⟨xa.toArray⟩ ++ ⟨[32].toArray⟩ ++ ⟨xs.toArray⟩ ++ ⟨[32].toArray⟩ ++ ⟨xb.toArray⟩)) = _
    rw [bapp, bapp, bapp, bapp]
  · have t3 : ((lv : Int) == 3) = false := beq_false_of_ne (by omega)
    simp only [if_neg h3] at cA
    clear h3
    go_wp2_with fail
    refine wp_region_quiet_below (by kernel_rfl) (by kernel_rfl) ?_
    repeat (go_big_quiet_step (first | with_reducible exact cA.out _ _ | with_reducible exact cB.out _ _ | with_reducible exact cS.out _ _))
    refine wpQuiet_nil ?_
    intro _ hw'
    obtain ⟨⟨dq, osq⟩, hw''⟩ := hw'
    subst hw''
    have hq := hid (below_regrown w2 dq osq)
    clear b1 b3 p0 p1 p2 p3 q0 q1 q2 q3 cA cB cS
    generalize grow (redrawn w2 dq) osq = wq at *
    go_wp2_with fail
    go_ret
    refine ⟨?_, hb2.out.trans (hq.out.mono hb2.out.size)⟩
    show Ending.returned (.string (⟨xa.toArray⟩ ++ ⟨[32].toArray⟩ ++ ⟨xs.toArray⟩ ++ ⟨[32].toArray⟩ ++ ⟨xb.toArray⟩)) = _
    rw [bapp, bapp, bapp, bapp]
theorem text_any (t : T) : TxS t := by
  induction t using T.ind with
  | h k n s ks ih =>
    intro v w hall hlen hv
    obtain ⟨A, c, vs, rfl, hs, hl, hk⟩ := hv.kids
    have hnode : nodeB k n s ks.length = true := by rw [allT_mk, Bool.and_eq_true] at hall; exact hall.2
    rcases node_cases hnode with rfl | rfl | ⟨rfl, a, b, rfl⟩ | ⟨rfl, a, rfl⟩
    · rw [txt7_1]
      refine text1 n s A ks.length c w ?_
      unfold nodeB at hnode
      rw [if_pos rfl, Bool.and_eq_true] at hnode
      exact C3.isW_iff.1 hnode.1
    · rw [txt7_2]
      exact text2 n s A ks.length c w
    · exact text3 n s a b (fun l => at_any a (ih a (by simp)) l) (fun l => at_any b (ih b (by simp)) l) (allT_2 hall).1 (allT_2 hall).2 hlen A c vs w hk
    · exact text4 n s a (at_any a (ih a (by simp)) 6) (allT_1 hall) hlen A c vs w hk
end Go.Proofs.YtklcbagddijkgaaGreatDoor.Tk

/- The model's FormatExpr by its contract; how long a text may be. -/
set_option maxRecDepth 100000
namespace Go.Proofs.YtklcbagddijkgaaGreatDoor.Tk
open Go.RowKit Go.Lib Go.Sort Go.Proofs.YtklcbagddijkgaaGreatDoor.Num Go.Proofs.YtklcbagddijkgaaGreatDoor.Com Go.Proofs.YtklcbagddijkgaaGreatDoor.Mem Go.Proofs.YtklcbagddijkgaaGreatDoor.Os Go.Proofs.YtklcbagddijkgaaGreatDoor.Tr

theorem txt7_len (t : T) : allT t = true → (txtT7 t).length ≤ 30 * cntT t := by
  induction t using T.ind with
  | h k n s ks ih =>
    intro hall
    have hnode : nodeB k n s ks.length = true := by rw [allT_mk, Bool.and_eq_true] at hall; exact hall.2
    have hc := cntT_mk k n s ks
    rcases node_cases hnode with rfl | rfl | ⟨rfl, a, b, rfl⟩ | ⟨rfl, a, rfl⟩
    · rw [txt7_1]
      unfold nodeB at hnode
      rw [if_pos rfl, Bool.and_eq_true] at hnode
      have := C3.isW_iff.1 hnode.1
      have := itoa_size n (by omega) (by omega)
      omega
    · rw [txt7_2]
      unfold nodeB at hnode
      rw [if_neg (by decide), if_pos rfl, Bool.and_eq_true] at hnode
      have h := hnode.1
      unfold C2.validB at h
      rw [Bool.and_eq_true] at h
      have := of_decide_eq_true h.1
      omega
    · rw [txt7_3]
      have h1 := ih a (by simp) (allT_2 hall).1
      have h2 := ih b (by simp) (allT_2 hall).2
      have hpa := paren_len (txtT7 a) (decide (lvlT a < if lvl 3 n = 3 then 4 else lvl 3 n))
      have hpb := paren_len (txtT7 b) (decide (lvlT b < lvl 3 n + 1))
      have hS := symL_len n
      simp only [cntK, List.map_cons, List.map_nil, List.sum_cons, List.sum_nil] at hc
      simp only [List.length_append, List.length_cons, List.length_nil]
      omega
    · rw [txt7_4]
      have h1 := ih a (by simp) (allT_1 hall)
      have hpa := paren_len (txtT7 a) (decide (lvlT a < 6))
      simp only [cntK, List.map_cons, List.map_nil, List.sum_cons, List.sum_nil] at hc
      simp only [List.length_cons]
      omega
theorem ok_parts {t : T} (h : okT t = true) : cntT t ≤ 12 ∧ allT t = true := by
  unfold okT at h
  simp only [Bool.and_eq_true, decide_eq_true_eq] at h
  exact ⟨h.1, h.2.2⟩
theorem fmtX_len (t : T) : (fmtX t).length ≤ 360 := by
  unfold fmtX
  cases h : okT t with
  | true =>
    rw [if_pos rfl]
    have h1 := ok_parts h
    have := txt7_len t h1.2
    omega
  | false => simp
set_option maxHeartbeats 2000000 in
theorem sformat_any (t : T) (v : Value) (w : World) (hv : Ex w w.heap.size v t) (hbd : cntT t ≤ 2000000) : Calls Tryz.prog 17 #[v] w fun e w' => e = .returned (sv (fmtX t)) ∧ Below w.heap.size w w' := by
  obtain ⟨k, n, s, ks⟩ := t
  obtain ⟨A, c, vs, rfl, hs, hl, hk⟩ := hv.kids
  have hb1 := box_below w (.cells #[.int .i64 k, .int .i64 n, sv s, .slice A ks.length c] 27)
  have hblk := hid (box_blk w k n s A ks.length c 27)
  have hv1 := hid (hv.go hb1)
  replace hb1 := hid hb1
  generalize hT : T.mk k n s ks = t at *
  have hck := hid (svalidE t _ _ hv1.out hbd)
  clear hk hv
  go_enter Tryz.func17, Tryz.ntmps17
  go_wp2_with fail
  generalize (w.alloc (.cells #[.int .i64 k, .int .i64 n, sv s, .slice A ks.length c] 27)) = w1 at *
  refine hck.out.mono ?_
  rintro e w2 ⟨rfl, hb2⟩
  have hblk2 := hblk.out.below hb2 hblk.out.lt
  obtain ⟨b0, b1, b2, b3⟩ := four hblk2
  have hv2 := hv1.out.go hb2
  replace hb2 := hid (hb1.out.trans (hb2.mono hb1.out.size))
  clear hck hblk2
  cases hok : okT t with
  | true =>
    have h1 := ok_parts hok
    have hlen := txt7_len t h1.2
    have hf := hid (show fmtX t = txtT7 t by unfold fmtX; rw [if_pos hok])
    have hcl := hid (text_any t _ _ h1.2 (by omega) hv2)
    clear hv2 h1 hlen hok
    go_wp2_with fail
    refine hcl.out.mono ?_
    rintro e w3 ⟨rfl, hb3⟩
    replace hb3 := hid (hb2.out.trans (hb3.mono hb2.out.size))
    go_wp2_with fail
    go_ret
    exact ⟨by rw [hf.out]; rfl, hb3.out⟩
  | false =>
    have hf := hid (show fmtX t = [] by unfold fmtX; rw [if_neg (by rw [hok]; simp)])
    clear hv2 hok
    go_wp2_with fail
    go_ret
    exact ⟨by rw [hf.out]; rfl, hb2.out⟩
end Go.Proofs.YtklcbagddijkgaaGreatDoor.Tk
