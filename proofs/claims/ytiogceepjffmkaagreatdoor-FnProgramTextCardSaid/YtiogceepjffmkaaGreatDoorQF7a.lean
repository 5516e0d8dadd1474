/- The model's LevelOf; the text of an expression. -/
import Derived.Test.YtiogceepjffmkaaGreatDoorQNd8
set_option maxHeartbeats 4000000
set_option maxRecDepth 100000
namespace Go.Proofs.YtiogceepjffmkaaGreatDoor.Tk
open Go.RowKit Go.Lib Go.Sort Num Com Mem YtiogceepjffmkaaGreatDoor.Os Tr
def lvl (k n : Int) : Nat := if k = 4 then 6 else if k = 3 then (if n ∈ opsOf 1 then 1 else if n ∈ opsOf 2 then 2 else if n ∈ opsOf 3 then 3 else if n ∈ opsOf 4 then 4 else if n ∈ opsOf 5 then 5 else 7) else 7
theorem lvl_le (k n : Int) : 1 ≤ lvl k n ∧ lvl k n ≤ 7 := by unfold lvl; refine ⟨?_, ?_⟩ <;> (repeat' split) <;> omega
def lvlT : T → Nat
 | .mk k n _ _ => lvl k n
def NoLev (n : Int) (m : Nat) : Prop := ∀ j, 1 ≤ j → j < m → n ∉ opsOf j
theorem lvl_at {n : Int} {m : Nat} (h1 : 1 ≤ m) (h5 : m ≤ 5) (hno : NoLev n m) (h : n ∈ opsOf m) : lvl 3 n = m := by
 unfold lvl
 rw [if_neg (by decide), if_pos rfl]
 have hm : m = 1 ∨ m = 2 ∨ m = 3 ∨ m = 4 ∨ m = 5 := by omega
 rcases hm with rfl | rfl | rfl | rfl | rfl
 ·rw [if_pos h]
 ·rw [if_neg (hno 1 (by omega) (by omega)), if_pos h]
 ·rw [if_neg (hno 1 (by omega) (by omega)), if_neg (hno 2 (by omega) (by omega)), if_pos h]
 ·rw [if_neg (hno 1 (by omega) (by omega)), if_neg (hno 2 (by omega) (by omega)), if_neg (hno 3 (by omega) (by omega)), if_pos h]
 ·rw [if_neg (hno 1 (by omega) (by omega)), if_neg (hno 2 (by omega) (by omega)), if_neg (hno 3 (by omega) (by omega)), if_neg (hno 4 (by omega) (by omega)), if_pos h]
theorem lvl_no {n : Int} (hno : NoLev n 6) : lvl 3 n = 7 := by
 unfold lvl
 rw [if_neg (by decide), if_pos rfl, if_neg (hno 1 (by omega) (by omega)), if_neg (hno 2 (by omega) (by omega)), if_neg (hno 3 (by omega) (by omega)), if_neg (hno 4 (by omega) (by omega)), if_neg (hno 5 (by omega) (by omega))]
theorem noLev_snoc {n : Int} {m : Nat} (h : NoLev n m) (hm : n ∉ opsOf m) : NoLev n (m + 1) := fun j h1 h2 => by
 by_cases e : j = m
 ·subst e; exact hm
 ·exact h j h1 (by omega)
theorem lvl_oth {k n : Int} (h3 : k ≠ 3) (h4 : k ≠ 4) : lvl k n = 7 := by unfold lvl; rw [if_neg h4, if_neg h3]
def paren (s : List UInt8) (b : Bool) : List UInt8 := if b = true then 40 :: (s ++ [41]) else s
def txtT7 : T → List UInt8
 | .mk k n s ks =>
  if k = 1 then itoa n else if k = 2 then s else
   match ks with
   | [a] => 33 :: paren (txtT7 a) (decide (lvlT a < 6))
   | [a, b] => paren (txtT7 a) (decide (lvlT a < if lvl k n = 3 then 4 else lvl k n)) ++ [32] ++ C3.symL n ++ [32] ++ paren (txtT7 b) (decide (lvlT b < lvl k n + 1))
   | _ => []
termination_by t => SizeOf.sizeOf t
theorem txt7_1 (n : Int) (s : List UInt8) (ks : List T) : txtT7 (.mk 1 n s ks) = itoa n := by unfold txtT7; rfl
theorem txt7_2 (n : Int) (s : List UInt8) (ks : List T) : txtT7 (.mk 2 n s ks) = s := by unfold txtT7; rfl
theorem txt7_4 (n : Int) (s : List UInt8) (a : T) : txtT7 (.mk 4 n s [a]) = 33 :: paren (txtT7 a) (decide (lvlT a < 6)) := by rw [txtT7]; rfl
theorem txt7_3 (n : Int) (s : List UInt8) (a b : T) : txtT7 (.mk 3 n s [a, b]) = paren (txtT7 a) (decide (lvlT a < if lvl 3 n = 3 then 4 else lvl 3 n)) ++ [32] ++ C3.symL n ++ [32] ++ paren (txtT7 b) (decide (lvlT b < lvl 3 n + 1)) := by rw [txtT7]; rfl
def fmtX (t : T) : List UInt8 := if okT t = true then txtT7 t else []
theorem hasInt_any (ks : List Int) (x : Int) (A : Option Addr) (c : Nat) (w : World) (hr : Rd w w.heap.size A (ks.map (Value.int .i64))) (hl : ks.length ≤ 1048576) : Calls Tryz.prog 195 #[.slice A ks.length c, .int .i64 x] w fun e w' => e = .returned (.bool (decide (x ∈ ks))) ∧ Below w.heap.size w w' := by
 have hr := hid hr
 have h8 := hl
 go_enter Tryz.func195, Tryz.ntmps195
 go_wp2_with fail
 go_loopw [5] (fun i wr => ∃ m : Nat, m ≤ ks.length ∧ i = .int .i64 m ∧ (∀ j (hj : j < ks.length), j < m → ks[j] ≠ x) ∧ wr = w) (fun i _ => ks.length - (Go.RowKit.intOf i).toNat)
 case atStart => exact ⟨0, Nat.zero_le _, rfl, fun j _ h => absurd h (Nat.not_lt_zero _), rfl⟩
 case round =>
  obtain ⟨m, hm, rfl, hno, rfl⟩ := hrel
  have hno := hid hno
  by_cases hlt : m < ks.length
  ·have t1 : decide ((m : Int) < (ks.length : Int)) = true := decide_eq_true (by omega)
   obtain ⟨ad, rfl, _, hcm⟩ := hr.out.at_ (k := m) (by simpa using hlt)
   rw [List.getElem_map] at hcm
   by_cases hx : ks[m] = x
   ·have t2 : (ks[m] == x) = true := beq_iff_eq.2 hx
    have hf := hid (show decide (x ∈ ks) = true from decide_eq_true (hx ▸ List.getElem_mem hlt))
    generalize ks[m] = K at *
    go_wp2_with fail
    go_ret
    exact ⟨by rw [hf.out]; rfl, Below.refl _ _⟩
   ·have t2 : (ks[m] == x) = false := beq_false_of_ne hx
    have hn2 := hid (show ∀ j (hj : j < ks.length), j < m + 1 → ks[j] ≠ x from fun j hj h2 => by
     by_cases e : j = m
     ·subst e; exact hx
     ·exact hno.out j hj (by omega))
    clear hx
    generalize ks[m] = K at *
    go_wp2_with fail
    exact ⟨⟨m + 1, hlt, by go_num, hn2.out, trivial⟩, by simp [Go.RowKit.intOf]; omega⟩
  ·obtain rfl : m = ks.length := by omega
   have t1 : decide ((ks.length : Int) < (ks.length : Int)) = false := decide_eq_false (by omega)
   have hf := hid (show decide (x ∈ ks) = false from decide_eq_false (fun hx => by
    obtain ⟨j, hj, e⟩ := List.getElem_of_mem hx
    exact hno.out j hj hj e))
   go_wp2_with fail
   go_ret
   exact ⟨by rw [hf.out]; rfl, Below.refl _ _⟩
theorem slevel_any (k n : Int) (s : List UInt8) (A : Option Addr) (l c : Nat) (w : World) : Calls Tryz.prog 175 #[nv k n s A l c] w fun e w' => e = .returned (.int .i64 (lvl k n : Nat)) ∧ Below w.heap.size w w' := by
 have hb1 := hid (box_below w (.cells #[.int .i64 k, .int .i64 n, sv s, .slice A l c] 58))
 have hblk := hid (box_blk w k n s A l c 58)
 by_cases h4 : k = 4
 ·subst h4
  have hf := hid (show lvl 4 n = 6 from rfl)
  go_enter Tryz.func175, Tryz.ntmps175
  go_wp2_with fail
  go_ret
  exact ⟨by rw [hf.out]; rfl, hb1.out⟩
 ·have e4 : (k == 4) = false := beq_false_of_ne h4
  have hz : (w.alloc (.cells #[.int .i64 k, .int .i64 n, sv s, .slice A l c] 58)).heap.size = w.heap.size + 1 := size_alloc' _ _
  have hlv := hid (levs_any (w.alloc (.cells #[.int .i64 k, .int .i64 n, sv s, .slice A l c] 58)))
  go_enter Tryz.func175, Tryz.ntmps175
  go_wp2_with fail
  generalize (w.alloc (.cells #[.int .i64 k, .int .i64 n, sv s, .slice A l c] 58)) = w1 at *
  refine hlv.out.mono ?_
  rintro e w2 ⟨B, rfl, hb, hrow⟩
  have hblk2 := hid (hblk.out.below hb (by omega))
  have hrow := hid hrow
  have hb2 := hid (hb1.out.trans (hb.mono hb1.out.size))
  clear hlv hb
  go_wp2_with fail
  go_loopw [4] (fun i wr => ∃ m : Nat, 1 ≤ m ∧ m ≤ 6 ∧ i = .int .i64 m ∧ (k = 3 → NoLev n m) ∧ Below w2.heap.size w2 wr) (fun i _ => 6 - (Go.RowKit.intOf i).toNat)
  case atStart => exact ⟨1, by omega, by omega, rfl, fun _ j h1 h2 => by omega, Below.refl _ _⟩
  case round =>
   obtain ⟨m, hm1, hm, rfl, hno, hb⟩ := hrel
   have hno := hid hno
   have hb3 := hid (hb2.out.trans (hb.mono hb2.out.size))
   by_cases hlt : m < 6
   ·have t1 : decide ((m : Int) ≤ 5) = true := decide_eq_true (by omega)
    have hbk := hblk2.out.below hb hblk2.out.lt
    have b0 := hbk.cell 0
    have b1 := hbk.cell 1
    obtain ⟨b, hc, hrd, hbb⟩ := hrow.out m hm1 (by omega)
    have hBl : B < w2.heap.size := by
     rcases Nat.lt_or_ge B w2.heap.size with h | h
     ·exact h
     ·simp [World.cell?, Array.getElem?_eq_none h] at hc
    have hcm : wr.cell? ⟨B, m, none⟩ = some (.slice (some ⟨b, 0, none⟩) (opsOf m).length (opsOf m).length) := (hb.cell (p := ⟨B, m, none⟩) hBl).trans hc
    have hrd := (hrd.below hb).more hb.size
    have h8 := opsOf_few m
    have b0 : wr.cell? ⟨w.heap.size, 0, none⟩ = some (.int .i64 k) := b0
    have b1 : wr.cell? ⟨w.heap.size, 1, none⟩ = some (.int .i64 n) := b1
    have hhi := fun w2 hb => hasInt_any (opsOf m) n (some ⟨b, 0, none⟩) (opsOf m).length w2 ((hrd.below (w' := w2) hb).more hb.size) (by omega)
    have hat := hid (fun hno h => lvl_at (n := n) hm1 (by omega) hno h)
    have hsn := hid (fun hno h => noLev_snoc (n := n) (m := m) hno h)
    have t8 : ((opsOf m).length : Int) ≤ 8 := by omega
    clear hbk hc hBl hbb
    by_cases h3 : k = 3
    ·have e3 : (k == 3) = true := beq_iff_eq.2 h3
     have hn3 := hno.out h3
     cases hin : decide (n ∈ opsOf m) with
     | true =>
      rw [hin] at hhi
      have hf := hid (show lvl k n = m by rw [h3]; exact hat.out hn3 (of_decide_eq_true hin))
      have cM := hid (fun (d : Nat) (os : Array Obj) => Calls.regrown_of (d := d) (os := os) (hhi (grow (redrawn wr d) os) (below_regrown wr d os)))
      generalize opsOf m = ks at *
      replace b0 := cell_regrown b0
      replace b1 := cell_regrown b1
      replace hcm := cell_regrown hcm
      clear hhi hrd hin hat hsn hn3 h8 h3
      go_wp2_with fail
      refine wp_region_quiet_below (by kernel_rfl) (by kernel_rfl) ?_
      repeat (go_big_quiet_step (exact cM.out _ _))
      refine wpQuiet_nil ?_
      intro _ hw'
      obtain ⟨⟨dq, osq⟩, hw''⟩ := hw'
      subst hw''
      have hq := hid (below_regrown wr dq osq)
      clear b0 b1 hcm cM
      generalize grow (redrawn wr dq) osq = wq at *
      go_wp2_with fail
      go_ret
      exact ⟨by rw [hf.out]; rfl, hb3.out.trans (hq.out.mono hb3.out.size)⟩
     | false =>
      rw [hin] at hhi
      have hn2 := hid (show k = 3 → NoLev n (m + 1) from fun _ => hsn.out hn3 (of_decide_eq_false hin))
      have cM := hid (fun (d : Nat) (os : Array Obj) => Calls.regrown_of (d := d) (os := os) (hhi (grow (redrawn wr d) os) (below_regrown wr d os)))
      generalize opsOf m = ks at *
      replace b0 := cell_regrown b0
      replace b1 := cell_regrown b1
      replace hcm := cell_regrown hcm
      replace hb := hid hb
      clear hhi hrd hin hat hsn hn3 h8 h3
      go_wp2_with fail
      refine wp_region_quiet_below (by kernel_rfl) (by kernel_rfl) ?_
      repeat (go_big_quiet_step (exact cM.out _ _))
      refine wpQuiet_nil ?_
      intro _ hw'
      obtain ⟨⟨dq, osq⟩, hw''⟩ := hw'
      subst hw''
      have hq := hid (below_regrown wr dq osq)
      clear b0 b1 hcm cM
      generalize grow (redrawn wr dq) osq = wq at *
      go_wp2_with fail
      exact ⟨⟨m + 1, by omega, by omega, by go_num, hn2.out, hb.out.trans (hq.out.mono hb.out.size)⟩, by simp [Go.RowKit.intOf]; omega⟩
    ·have e3 : (k == 3) = false := beq_false_of_ne h3
     have hn2 := hid (show k = 3 → NoLev n (m + 1) from fun h => absurd h h3)
     generalize opsOf m = ks at *
     replace b0 := cell_regrown b0
     replace b1 := cell_regrown b1
     replace hcm := cell_regrown hcm
     replace hb := hid hb
     clear hhi hrd hat hsn h8 h3
     go_wp2_with fail
     refine wp_region_quiet_below (by kernel_rfl) (by kernel_rfl) ?_
     repeat (go_big_quiet_step (fail))
     refine wpQuiet_nil ?_
     intro _ hw'
     obtain ⟨⟨dq, osq⟩, hw''⟩ := hw'
     subst hw''
     have hq := hid (below_regrown wr dq osq)
     clear b0 b1 hcm
     generalize grow (redrawn wr dq) osq = wq at *
     go_wp2_with fail
     exact ⟨⟨m + 1, by omega, by omega, by go_num, hn2.out, hb.out.trans (hq.out.mono hb.out.size)⟩, by simp [Go.RowKit.intOf]; omega⟩
   ·obtain rfl : m = 6 := by omega
    have t1 : decide (((6 : Nat) : Int) ≤ 5) = false := by decide
    have hf := hid (show lvl k n = 7 by
     by_cases h3 : k = 3
     ·rw [h3]; exact lvl_no (hno.out h3)
     ·exact lvl_oth h3 h4)
    go_wp2_with fail
    go_ret
    exact ⟨by rw [hf.out]; rfl, hb3.out⟩
theorem bapp (a b : List UInt8) : (⟨a.toArray⟩ : ByteArray) ++ ⟨b.toArray⟩ = ⟨(a ++ b).toArray⟩ := by
 apply ByteArray.ext
 simp
theorem paren_len (s : List UInt8) (b : Bool) : s.length ≤ (paren s b).length ∧ (paren s b).length ≤ s.length + 2 := by
 unfold paren
 split
 ·simp only [List.length_cons, List.length_append, List.length_nil]; omega
 ·omega
def TxS (t : T) : Prop := ∀ (v : Value) (w : World), allT t = true → (txtT7 t).length ≤ 1000000 → Ex w w.heap.size v t → Calls Tryz.prog 137 #[v] w fun e w' => e = .returned (sv (txtT7 t)) ∧ Below w.heap.size w w'
def AtS (t : T) (least : Nat) : Prop := ∀ (v : Value) (w : World), allT t = true → (txtT7 t).length ≤ 1000000 → Ex w w.heap.size v t → Calls Tryz.prog 174 #[v, .int .i64 least] w fun e w' => e = .returned (sv (paren (txtT7 t) (decide (lvlT t < least)))) ∧ Below w.heap.size w w'
theorem at_any (t : T) (h : TxS t) (least : Nat) : AtS t least := by
 intro v w hall hlen hv
 obtain ⟨k, n, s, ks⟩ := t
 obtain ⟨A, c, vs, rfl, hs, hl, hk⟩ := hv.kids
 have hb1 := box_below w (.cells #[.int .i64 k, .int .i64 n, sv s, .slice A ks.length c] 58)
 have hblk := hid (box_blk w k n s A ks.length c 58)
 have hcl := hid (h _ _ hall hlen (hv.go hb1))
 replace hb1 := hid hb1
 have hlv := hid (fun w => slevel_any k n s A ks.length c w)
 have hlt : decide (lvl k n < least) = decide (lvlT (.mk k n s ks) < least) := rfl
 generalize decide (lvlT (.mk k n s ks) < least) = q at *
 generalize txtT7 (.mk k n s ks) = x at *
 generalize ks.length = L at *
 clear hk hv hall h hl
 generalize lvl k n = lv at *
 have hbp := hid (bapp [40] x)
 have hbq := hid (bapp (40 :: x) [41])
 go_enter Tryz.func174, Tryz.ntmps174
 go_wp2_with fail
 generalize (w.alloc (.cells #[.int .i64 k, .int .i64 n, sv s, .slice A L c] 58)) = w1 at *
 refine hcl.out.mono ?_
 rintro e w2 ⟨rfl, hb⟩
 have hblk2 := hblk.out.below hb hblk.out.lt
 obtain ⟨k0, k1, k2, k3⟩ := four hblk2
 replace hb := hid (hb1.out.trans (hb.mono hb1.out.size))
 clear hcl hblk2
 go_wp2_with fail
 refine (hlv.out w2).mono ?_
 rintro e w3 ⟨rfl, hb3⟩
 replace hb3 := hid (hb.out.trans (hb3.mono hb.out.size))
 cases q
 ·go_wp2_with fail
  go_ret
  exact ⟨rfl, hb3.out⟩
 ·go_wp2_with fail
  go_ret
  refine ⟨?_, hb3.out⟩
  show Ending.returned (.string (_ ++ _ ++ _)) = _
  rw [hbp.out]
  show Ending.returned (.string (⟨(40 :: x).toArray⟩ ++ _)) = _
  rw [hbq.out]; rfl
theorem text1 (n : Int) (s : List UInt8) (A : Option Addr) (l c : Nat) (w : World) (hn : 0 ≤ n ∧ n < 4) : Calls Tryz.prog 137 #[nv 1 n s A l c] w fun e w' => e = .returned (sv (itoa n)) ∧ Below w.heap.size w w' := by
 have hb1 := hid (box_below w (.cells #[.int .i64 1, .int .i64 n, sv s, .slice A l c] 58))
 have hf := hid (fun w => C1.fmt_any n (by omega) (by omega) w)
 go_enter Tryz.func137, Tryz.ntmps137
 go_wp2_with fail
 refine (hf.out _).mono ?_
 rintro e w2 ⟨rfl, hb⟩
 replace hb := hid (hb1.out.trans (hb.mono hb1.out.size))
 go_wp2_with fail
 go_ret
 exact ⟨rfl, hb.out⟩
theorem text2 (n : Int) (s : List UInt8) (A : Option Addr) (l c : Nat) (w : World) : Calls Tryz.prog 137 #[nv 2 n s A l c] w fun e w' => e = .returned (sv s) ∧ Below w.heap.size w w' := by
 have hb1 := hid (box_below w (.cells #[.int .i64 2, .int .i64 n, sv s, .slice A l c] 58))
 go_enter Tryz.func137, Tryz.ntmps137
 go_wp2_with fail
 go_ret
 exact ⟨rfl, hb1.out⟩
theorem text4 (n : Int) (s : List UInt8) (a : T) (iha : AtS a 6) (ha : allT a = true) (hlen : (txtT7 (.mk 4 n s [a])).length ≤ 1000000) (A : Option Addr) (c : Nat) (vs : Nat → Value) (w : World) (hk : Tr.Kids w w.heap.size A [a] vs) : Calls Tryz.prog 137 #[nv 4 n s A 1 c] w fun e w' => e = .returned (sv (txtT7 (.mk 4 n s [a]))) ∧ Below w.heap.size w w' := by
 have hb1 := box_below w (.cells #[.int .i64 4, .int .i64 n, sv s, .slice A 1 c] 58)
 have hk1 := hk.go hb1
 replace hb1 := hid hb1
 obtain ⟨ad, hA, _, c0, c1, c2, c3, e0, k0, k1, k2, k3⟩ := hk1.cell 0 (by simp)
 subst hA
 have x0 := hk1.kid 0 a rfl
 rw [e0] at x0
 have p0 : (w.alloc (.cells #[.int .i64 4, .int .i64 n, sv s, .slice (some ad) 1 c] 58)).cell? ad = some c0 := k0
 have p1 : (w.alloc (.cells #[.int .i64 4, .int .i64 n, sv s, .slice (some ad) 1 c] 58)).cell? ⟨ad.block, ad.off + 1, none⟩ = some c1 := k1
 have p2 : (w.alloc (.cells #[.int .i64 4, .int .i64 n, sv s, .slice (some ad) 1 c] 58)).cell? ⟨ad.block, ad.off + 2, none⟩ = some c2 := k2
 have p3 : (w.alloc (.cells #[.int .i64 4, .int .i64 n, sv s, .slice (some ad) 1 c] 58)).cell? ⟨ad.block, ad.off + 3, none⟩ = some c3 := k3
 rw [txt7_4] at hlen ⊢
 have hpl := paren_len (txtT7 a) (decide (lvlT a < 6))
 rw [List.length_cons] at hlen
 have hcl := hid (iha _ _ ha (by omega) x0)
 replace hpl := hid hpl
 generalize paren (txtT7 a) (decide (lvlT a < 6)) = x at *
 have hbp := hid (bapp [33] x)
 clear hk e0 x0 k0 k1 k2 k3 hk1
 go_enter Tryz.func137, Tryz.ntmps137
 go_wp2_with fail
 refine hcl.out.mono ?_
 rintro e w2 ⟨rfl, hb2⟩
 replace hb2 := hid (hb1.out.trans (hb2.mono hb1.out.size))
 clear hcl p0 p1 p2 p3
 go_wp2_with fail
 go_ret
 refine ⟨?_, hb2.out⟩
 show Ending.returned (.string (_ ++ _)) = _
 rw [hbp.out]; rfl
theorem symL_len (k : Int) : (C3.symL k).length ≤ 2 := by
 unfold C3.symL
 repeat' split
 all_goals simp
theorem text3 (n : Int) (s : List UInt8) (a b : T) (iha : ∀ l, AtS a l) (ihb : ∀ l, AtS b l) (ha : allT a = true) (hb : allT b = true) (hlen : (txtT7 (.mk 3 n s [a, b])).length ≤ 1000000) (A : Option Addr) (c : Nat) (vs : Nat → Value) (w : World) (hk : Tr.Kids w w.heap.size A [a, b] vs) :
  Calls Tryz.prog 137 #[nv 3 n s A 2 c] w fun e w' => e = .returned (sv (txtT7 (.mk 3 n s [a, b]))) ∧ Below w.heap.size w w' := by
 have hb1 := box_below w (.cells #[.int .i64 3, .int .i64 n, sv s, .slice A 2 c] 58)
 have hblk := hid (box_blk w 3 n s A 2 c 58)
 have hk1 := hid (hk.go hb1)
 replace hb1 := hid hb1
 rw [txt7_3] at hlen ⊢
 have hlv := hid (fun w => slevel_any 3 n s A 2 c w)
 have hl7 := lvl_le 3 n
 generalize lvl 3 n = lv at *
 have hpa := paren_len (txtT7 a) (decide (lvlT a < if lv = 3 then 4 else lv))
 have hpb := paren_len (txtT7 b) (decide (lvlT b < lv + 1))
 have hS2 := symL_len n
 simp only [List.length_append, List.length_cons, List.length_nil] at hlen
 have hA := hid (fun v w hv => iha (if lv = 3 then 4 else lv) v w ha (by omega) hv)
 have hB := hid (fun v w hv => ihb (lv + 1) v w hb (by omega) hv)
 have hsy := hid (fun w => C3.ssymbol_any n w)
 generalize paren (txtT7 a) (decide (lvlT a < if lv = 3 then 4 else lv)) = xa at *
 generalize paren (txtT7 b) (decide (lvlT b < lv + 1)) = xb at *
 generalize C3.symL n = xs at *
 have hxa : xa.length ≤ 1000000 := by omega
 have hxb : xb.length ≤ 1000000 := by omega
 clear hk hpa hpb hlen iha ihb
 go_enter Tryz.func137, Tryz.ntmps137
 go_wp2_with fail
 generalize (w.alloc (.cells #[.int .i64 3, .int .i64 n, sv s, .slice A 2 c] 58)) = w1 at *
 refine (hlv.out w1).mono ?_
 rintro e w2 ⟨rfl, hb2⟩
 have hblk2 := hblk.out.below hb2 hblk.out.lt
 have hk2 := hk1.out.go hb2
 have hb2 := hid (hb1.out.trans (hb2.mono hb1.out.size))
 obtain ⟨b0, b1, b2, b3⟩ := four hblk2
 obtain ⟨ad, hA0, _, c0, c1, c2, c3, e0, k0, k1, k2, k3⟩ := hk2.cell 0 (by simp)
 subst hA0
 obtain ⟨ad', hA', _, d0, d1, d2, d3, e1, l0, l1, l2, l3⟩ := hk2.cell 1 (by simp)
 obtain rfl : ad = ad' := Option.some.inj hA'
 have x0 := hk2.kid 0 a rfl
 rw [e0] at x0
 have x1 := hk2.kid 1 b rfl
 rw [e1] at x1
 have p0 : w2.cell? ad = some c0 := k0
 have p1 : w2.cell? ⟨ad.block, ad.off + 1, none⟩ = some c1 := k1
 have p2 : w2.cell? ⟨ad.block, ad.off + 2, none⟩ = some c2 := k2
 have p3 : w2.cell? ⟨ad.block, ad.off + 3, none⟩ = some c3 := k3
 have q0 : w2.cell? ⟨ad.block, ad.off + 4, none⟩ = some d0 := l0
 have q1 : w2.cell? ⟨ad.block, ad.off + 4 + 1, none⟩ = some d1 := l1
 have q2 : w2.cell? ⟨ad.block, ad.off + 4 + 2, none⟩ = some d2 := l2
 have q3 : w2.cell? ⟨ad.block, ad.off + 4 + 3, none⟩ = some d3 := l3
 replace p0 := cell_regrown p0
 replace p1 := cell_regrown p1
 replace p2 := cell_regrown p2
 replace p3 := cell_regrown p3
 replace q0 := cell_regrown q0
 replace q1 := cell_regrown q1
 replace q2 := cell_regrown q2
 replace q3 := cell_regrown q3
 replace b1 := cell_regrown b1
 replace b3 := cell_regrown b3
 have cA := hid (fun (d : Nat) (os : Array Obj) => Calls.regrown_of (d := d) (os := os) (hA.out _ (grow (redrawn w2 d) os) (x0.go (below_regrown w2 d os))))
 have cB := hid (fun (d : Nat) (os : Array Obj) => Calls.regrown_of (d := d) (os := os) (hB.out _ (grow (redrawn w2 d) os) (x1.go (below_regrown w2 d os))))
 have cS := hid (fun (d : Nat) (os : Array Obj) => Calls.regrown_of (d := d) (os := os) (hsy.out (grow (redrawn w2 d) os)))
 have er : ((lv + 1 : Nat) : Int) = (lv : Int) + 1 := by omega
 rw [er] at cB
 have hwr : IntKind.i64.wrap ((lv : Int) + 1) = (lv : Int) + 1 := IntWalk.i64_in _ (by omega)
 clear hA hB hsy x0 x1 e0 e1 k0 k1 k2 k3 l0 l1 l2 l3 hk2 hblk2 hA' b0 b2 hlv er
 by_cases h3 : lv = 3
 ·have t3 : ((lv : Int) == 3) = true := beq_iff_eq.2 (by omega)
  have e4 : ((4 : Nat) : Int) = 4 := rfl
  simp only [if_pos h3] at cA
  rw [e4] at cA
  clear e4
  clear h3
  go_wp2_with fail
  refine wp_region_quiet_below (by kernel_rfl) (by kernel_rfl) ?_
  repeat (go_big_quiet_step (first | with_reducible exact cA.out _ _ | with_reducible exact cB.out _ _ | with_reducible exact cS.out _ _))
  refine wpQuiet_nil ?_
  intro _ hw'
  obtain ⟨⟨dq, osq⟩, hw''⟩ := hw'
  subst hw''
  have hq := hid (below_regrown w2 dq osq)
  clear b1 b3 p0 p1 p2 p3 q0 q1 q2 q3 cA cB cS
  generalize grow (redrawn w2 dq) osq = wq at *
  go_wp2_with fail
  go_ret
  refine ⟨?_, hb2.out.trans (hq.out.mono hb2.out.size)⟩
  show Ending.returned (.string (⟨xa.toArray⟩ ++ ⟨[32].toArray⟩ ++ ⟨xs.toArray⟩ ++ ⟨[32].toArray⟩ ++ ⟨xb.toArray⟩)) = _
  rw [bapp, bapp, bapp, bapp]
 ·have t3 : ((lv : Int) == 3) = false := beq_false_of_ne (by omega)
  simp only [if_neg h3] at cA
  clear h3
  go_wp2_with fail
  refine wp_region_quiet_below (by kernel_rfl) (by kernel_rfl) ?_
  repeat (go_big_quiet_step (first | with_reducible exact cA.out _ _ | with_reducible exact cB.out _ _ | with_reducible exact cS.out _ _))
  refine wpQuiet_nil ?_
  intro _ hw'
  obtain ⟨⟨dq, osq⟩, hw''⟩ := hw'
  subst hw''
  have hq := hid (below_regrown w2 dq osq)
  clear b1 b3 p0 p1 p2 p3 q0 q1 q2 q3 cA cB cS
  generalize grow (redrawn w2 dq) osq = wq at *
  go_wp2_with fail
  go_ret
  refine ⟨?_, hb2.out.trans (hq.out.mono hb2.out.size)⟩
  show Ending.returned (.string (⟨xa.toArray⟩ ++ ⟨[32].toArray⟩ ++ ⟨xs.toArray⟩ ++ ⟨[32].toArray⟩ ++ ⟨xb.toArray⟩)) = _
  rw [bapp, bapp, bapp, bapp]
theorem text_any (t : T) : TxS t := by
 induction t using T.ind with
 | h k n s ks ih =>
  intro v w hall hlen hv
  obtain ⟨A, c, vs, rfl, hs, hl, hk⟩ := hv.kids
  have hnode : nodeB k n s ks.length = true := by rw [allT_mk, Bool.and_eq_true] at hall; exact hall.2
  rcases node_cases hnode with rfl | rfl | ⟨rfl, a, b, rfl⟩ | ⟨rfl, a, rfl⟩
  ·rw [txt7_1]
   refine text1 n s A ks.length c w ?_
   unfold nodeB at hnode
   rw [if_pos rfl, Bool.and_eq_true] at hnode
   exact C3.isW_iff.1 hnode.1
  ·rw [txt7_2]
   exact text2 n s A ks.length c w
  ·exact text3 n s a b (fun l => at_any a (ih a (by simp)) l) (fun l => at_any b (ih b (by simp)) l) (allT_2 hall).1 (allT_2 hall).2 hlen A c vs w hk
  ·exact text4 n s a (at_any a (ih a (by simp)) 6) (allT_1 hall) hlen A c vs w hk
theorem txt7_len (t : T) : allT t = true → (txtT7 t).length ≤ 30 * cntT t := by
 induction t using T.ind with
 | h k n s ks ih =>
  intro hall
  have hnode : nodeB k n s ks.length = true := by rw [allT_mk, Bool.and_eq_true] at hall; exact hall.2
  have hc := cntT_mk k n s ks
  rcases node_cases hnode with rfl | rfl | ⟨rfl, a, b, rfl⟩ | ⟨rfl, a, rfl⟩
  ·rw [txt7_1]
   unfold nodeB at hnode
   rw [if_pos rfl, Bool.and_eq_true] at hnode
   have := C3.isW_iff.1 hnode.1
   have := itoa_size n (by omega) (by omega)
   omega
  ·rw [txt7_2]
   unfold nodeB at hnode
   rw [if_neg (by decide), if_pos rfl, Bool.and_eq_true] at hnode
   have h := hnode.1
   unfold C2.validB at h
   rw [Bool.and_eq_true] at h
   have := of_decide_eq_true h.1
   omega
  ·rw [txt7_3]
   have h1 := ih a (by simp) (allT_2 hall).1
   have h2 := ih b (by simp) (allT_2 hall).2
   have hpa := paren_len (txtT7 a) (decide (lvlT a < if lvl 3 n = 3 then 4 else lvl 3 n))
   have hpb := paren_len (txtT7 b) (decide (lvlT b < lvl 3 n + 1))
   have hS := symL_len n
   simp only [cntK, List.map_cons, List.map_nil, List.sum_cons, List.sum_nil] at hc
   simp only [List.length_append, List.length_cons, List.length_nil]
   omega
  ·rw [txt7_4]
   have h1 := ih a (by simp) (allT_1 hall)
   have hpa := paren_len (txtT7 a) (decide (lvlT a < 6))
   simp only [cntK, List.map_cons, List.map_nil, List.sum_cons, List.sum_nil] at hc
   simp only [List.length_cons]
   omega
theorem ok_parts {t : T} (h : okT t = true) : cntT t ≤ 12 ∧ allT t = true := by
 unfold okT at h
 simp only [Bool.and_eq_true, decide_eq_true_eq] at h
 exact ⟨h.1, h.2.2⟩
theorem fmtX_len (t : T) : (fmtX t).length ≤ 360 := by
 unfold fmtX
 cases h : okT t with
 | true =>
  rw [if_pos rfl]
  have h1 := ok_parts h
  have := txt7_len t h1.2
  omega
 | false => simp
theorem sformat_any (t : T) (v : Value) (w : World) (hv : Ex w w.heap.size v t) (hbd : cntT t ≤ 2000000) : Calls Tryz.prog 98 #[v] w fun e w' => e = .returned (sv (fmtX t)) ∧ Below w.heap.size w w' := by
 obtain ⟨k, n, s, ks⟩ := t
 obtain ⟨A, c, vs, rfl, hs, hl, hk⟩ := hv.kids
 have hb1 := box_below w (.cells #[.int .i64 k, .int .i64 n, sv s, .slice A ks.length c] 58)
 have hblk := hid (box_blk w k n s A ks.length c 58)
 have hv1 := hid (hv.go hb1)
 replace hb1 := hid hb1
 generalize hT : T.mk k n s ks = t at *
 have hck := hid (svalidE t _ _ hv1.out hbd)
 clear hk hv
 go_enter Tryz.func98, Tryz.ntmps98
 go_wp2_with fail
 generalize (w.alloc (.cells #[.int .i64 k, .int .i64 n, sv s, .slice A ks.length c] 58)) = w1 at *
 refine hck.out.mono ?_
 rintro e w2 ⟨rfl, hb2⟩
 have hblk2 := hblk.out.below hb2 hblk.out.lt
 obtain ⟨b0, b1, b2, b3⟩ := four hblk2
 have hv2 := hv1.out.go hb2
 replace hb2 := hid (hb1.out.trans (hb2.mono hb1.out.size))
 clear hck hblk2
 cases hok : okT t with
 | true =>
  have h1 := ok_parts hok
  have hlen := txt7_len t h1.2
  have hf := hid (show fmtX t = txtT7 t by unfold fmtX; rw [if_pos hok])
  have hcl := hid (text_any t _ _ h1.2 (by omega) hv2)
  clear hv2 h1 hlen hok
  go_wp2_with fail
  refine hcl.out.mono ?_
  rintro e w3 ⟨rfl, hb3⟩
  replace hb3 := hid (hb2.out.trans (hb3.mono hb2.out.size))
  go_wp2_with fail
  go_ret
  exact ⟨by rw [hf.out]; rfl, hb3.out⟩
 | false =>
  have hf := hid (show fmtX t = [] by unfold fmtX; rw [if_neg (by rw [hok]; simp)])
  clear hv2 hok
  go_wp2_with fail
  go_ret
  exact ⟨by rw [hf.out]; rfl, hb2.out⟩
end Go.Proofs.YtiogceepjffmkaaGreatDoor.Tk
