/- The levels of operators; the model's table of them. -/
import Derived.Test.YtklcbagddijkgaaGreatDoorZC3a
import Derived.Test.YtklcbagddijkgaaGreatDoorZLhS
import Derived.Test.YtklcbagddijkgaaGreatDoorZTr5
import Derived.Test.YtklcbagddijkgaaGreatDoorZOi
import Derived.Test.YtklcbagddijkgaaGreatDoorZNum
set_option maxRecDepth 100000
namespace Go.Proofs.YtklcbagddijkgaaGreatDoor.Tk
open Go.RowKit Go.Lib Go.Sort Go.Proofs.YtklcbagddijkgaaGreatDoor.Com Go.Proofs.YtklcbagddijkgaaGreatDoor.Mem Go.Proofs.YtklcbagddijkgaaGreatDoor.Os

def opsOf : Nat → List Int
  | 1 => [8]
  | 2 => [7]
  | 3 => [5, 6]
  | 4 => [1, 2]
  | 5 => [3, 4]
  | _ => []
theorem opsOf_few (l : Nat) : (opsOf l).length ≤ 8 := by
  unfold opsOf
  split <;> simp
theorem lev7 (w : World) (I J : TypeId) (o0 : Obj) (r1 r2 r3 r4 r5 top : List Value) {W : World} (hW : W = ((((((w.alloc o0).alloc (.cells r1.toArray I)).alloc (.cells r2.toArray I)).alloc (.cells r3.toArray I)).alloc (.cells r4.toArray I)).alloc (.cells r5.toArray I)).alloc (.cells top.toArray J)) :
    Below w.heap.size w W ∧ Blk W (w.heap.size + 1) I r1 ∧ Blk W (w.heap.size + 1 + 1) I r2 ∧ Blk W (w.heap.size + 1 + 1 + 1) I r3 ∧ Blk W (w.heap.size + 1 + 1 + 1 + 1) I r4 ∧ Blk W (w.heap.size + 1 + 1 + 1 + 1 + 1) I r5 ∧ Blk W (w.heap.size + 1 + 1 + 1 + 1 + 1 + 1) J top := by
  subst hW
  have e1 := Blk.new (w.alloc o0) I r1
  have e2 := Blk.new ((w.alloc o0).alloc (.cells r1.toArray I)) I r2
  have e3 := Blk.new (((w.alloc o0).alloc (.cells r1.toArray I)).alloc (.cells r2.toArray I)) I r3
  have e4 := Blk.new ((((w.alloc o0).alloc (.cells r1.toArray I)).alloc (.cells r2.toArray I)).alloc (.cells r3.toArray I)) I r4
  have e5 := Blk.new (((((w.alloc o0).alloc (.cells r1.toArray I)).alloc (.cells r2.toArray I)).alloc (.cells r3.toArray I)).alloc (.cells r4.toArray I)) I r5
  have e6 := Blk.new ((((((w.alloc o0).alloc (.cells r1.toArray I)).alloc (.cells r2.toArray I)).alloc (.cells r3.toArray I)).alloc (.cells r4.toArray I)).alloc (.cells r5.toArray I)) J top
  simp only [size_alloc'] at e1 e2 e3 e4 e5 e6
  refine ⟨?_, ((((e1.alloc _).alloc _).alloc _).alloc _).alloc _, (((e2.alloc _).alloc _).alloc _).alloc _, ((e3.alloc _).alloc _).alloc _, (e4.alloc _).alloc _, e5.alloc _, e6⟩
  have g := fun (v : World) (o : Obj) (h : Below w.heap.size w v) => h.alloc h.size o
  exact g _ _ (g _ _ (g _ _ (g _ _ (g _ _ (g _ _ (g _ _ (Below.refl _ _)))))))
theorem levs_any (w : World) : Calls Tryz.prog 138 #[] w fun e w' => ∃ B, e = .returned (.slice (some ⟨B, 0, none⟩) 6 6) ∧ Below w.heap.size w w' ∧
    ∀ l, 1 ≤ l → l ≤ 5 → ∃ b, w'.cell? ⟨B, l, none⟩ = some (.slice (some ⟨b, 0, none⟩) (opsOf l).length (opsOf l).length) ∧ Rd w' w'.heap.size (some ⟨b, 0, none⟩) ((opsOf l).map (Value.int .i64)) ∧ w.heap.size ≤ b := by
  go_enter Tryz.func138, Tryz.ntmps138
  go_wp2_with fail
  go_ret
  obtain ⟨hb, e1, e2, e3, e4, e5, e6⟩ := lev7 w 3 114 (.cells #[] 3) [.int .i64 8] [.int .i64 7] [.int .i64 5, .int .i64 6] [.int .i64 1, .int .i64 2] [.int .i64 3, .int .i64 4]
    [.slice (some ⟨w.heap.size, 0, none⟩) 0 0, .slice (some ⟨w.heap.size + 1, 0, none⟩) 1 1, .slice (some ⟨w.heap.size + 1 + 1, 0, none⟩) 1 1, .slice (some ⟨w.heap.size + 1 + 1 + 1, 0, none⟩) 2 2, .slice (some ⟨w.heap.size + 1 + 1 + 1 + 1, 0, none⟩) 2 2, .slice (some ⟨w.heap.size + 1 + 1 + 1 + 1 + 1, 0, none⟩) 2 2] rfl
  refine ⟨_, rfl, hb, fun l h1 h2 => ?_⟩
  have hl : l = 1 ∨ l = 2 ∨ l = 3 ∨ l = 4 ∨ l = 5 := by omega
  rcases hl with rfl | rfl | rfl | rfl | rfl
  · exact ⟨_, e6.cell 1, e1.rd.more e1.lt, by omega⟩
  · exact ⟨_, e6.cell 2, e2.rd.more e2.lt, by omega⟩
  · exact ⟨_, e6.cell 3, e3.rd.more e3.lt, by omega⟩
  · exact ⟨_, e6.cell 4, e4.rd.more e4.lt, by omega⟩
  · exact ⟨_, e6.cell 5, e5.rd.more e5.lt, by omega⟩
end Go.Proofs.YtklcbagddijkgaaGreatDoor.Tk

/- The model's LevelOf; the text of an expression. -/
set_option maxRecDepth 100000
namespace Go.Proofs.YtklcbagddijkgaaGreatDoor.Tk
open Go.RowKit Go.Lib Go.Sort Go.Proofs.YtklcbagddijkgaaGreatDoor.Num Go.Proofs.YtklcbagddijkgaaGreatDoor.Com Go.Proofs.YtklcbagddijkgaaGreatDoor.Mem Go.Proofs.YtklcbagddijkgaaGreatDoor.Os Go.Proofs.YtklcbagddijkgaaGreatDoor.Tr

/-- the level of a node -/
def lvl (k n : Int) : Nat := if k = 4 then 6 else if k = 3 then (if n ∈ opsOf 1 then 1 else if n ∈ opsOf 2 then 2 else if n ∈ opsOf 3 then 3 else if n ∈ opsOf 4 then 4 else if n ∈ opsOf 5 then 5 else 7) else 7
theorem lvl_le (k n : Int) : 1 ≤ lvl k n ∧ lvl k n ≤ 7 := by unfold lvl; refine ⟨?_, ?_⟩ <;> (repeat' split) <;> omega
def lvlT : T → Nat
  | .mk k n _ _ => lvl k n
/-- nothing found before m -/
def NoLev (n : Int) (m : Nat) : Prop := ∀ j, 1 ≤ j → j < m → n ∉ opsOf j
theorem lvl_at {n : Int} {m : Nat} (h1 : 1 ≤ m) (h5 : m ≤ 5) (hno : NoLev n m) (h : n ∈ opsOf m) : lvl 3 n = m := by
  unfold lvl
  rw [if_neg (by decide), if_pos rfl]
  have hm : m = 1 ∨ m = 2 ∨ m = 3 ∨ m = 4 ∨ m = 5 := by omega
  rcases hm with rfl | rfl | rfl | rfl | rfl
  · rw [if_pos h]
  · rw [if_neg (hno 1 (by omega) (by omega)), if_pos h]
  · rw [if_neg (hno 1 (by omega) (by omega)), if_neg (hno 2 (by omega) (by omega)), if_pos h]
  · rw [if_neg (hno 1 (by omega) (by omega)), if_neg (hno 2 (by omega) (by omega)), if_neg (hno 3 (by omega) (by omega)), if_pos h]
  · rw [if_neg (hno 1 (by omega) (by omega)), if_neg (hno 2 (by omega) (by omega)), if_neg (hno 3 (by omega) (by omega)), if_neg (hno 4 (by omega) (by omega)), if_pos h]
theorem lvl_no {n : Int} (hno : NoLev n 6) : lvl 3 n = 7 := by
  unfold lvl
  rw [if_neg (by decide), if_pos rfl, if_neg (hno 1 (by omega) (by omega)), if_neg (hno 2 (by omega) (by omega)), if_neg (hno 3 (by omega) (by omega)), if_neg (hno 4 (by omega) (by omega)), if_neg (hno 5 (by omega) (by omega))]
theorem noLev_snoc {n : Int} {m : Nat} (h : NoLev n m) (hm : n ∉ opsOf m) : NoLev n (m + 1) := fun j h1 h2 => by
  by_cases e : j = m
  · subst e; exact hm
  · exact h j h1 (by omega)
theorem lvl_oth {k n : Int} (h3 : k ≠ 3) (h4 : k ≠ 4) : lvl k n = 7 := by unfold lvl; rw [if_neg h4, if_neg h3]
def paren (s : List UInt8) (b : Bool) : List UInt8 := if b = true then 40 :: (s ++ [41]) else s
/-- an expression's text -/
def txtT7 : T → List UInt8
  | .mk k n s ks =>
    if k = 1 then itoa n else if k = 2 then s else
      match ks with
      | [a] => 33 :: paren (txtT7 a) (decide (lvlT a < 6))
      | [a, b] => paren (txtT7 a) (decide (lvlT a < if lvl k n = 3 then 4 else lvl k n)) ++ [32] ++ C3.symL n ++ [32] ++ paren (txtT7 b) (decide (lvlT b < lvl k n + 1))
      | _ => []
termination_by t => SizeOf.sizeOf t
theorem txt7_1 (n : Int) (s : List UInt8) (ks : List T) : txtT7 (.mk 1 n s ks) = itoa n := by unfold txtT7; rfl
theorem txt7_2 (n : Int) (s : List UInt8) (ks : List T) : txtT7 (.mk 2 n s ks) = s := by unfold txtT7; rfl
theorem txt7_4 (n : Int) (s : List UInt8) (a : T) : txtT7 (.mk 4 n s [a]) = 33 :: paren (txtT7 a) (decide (lvlT a < 6)) := by rw [txtT7]; rfl
theorem txt7_3 (n : Int) (s : List UInt8) (a b : T) : txtT7 (.mk 3 n s [a, b]) = paren (txtT7 a) (decide (lvlT a < if lvl 3 n = 3 then 4 else lvl 3 n)) ++ [32] ++ C3.symL n ++ [32] ++ paren (txtT7 b) (decide (lvlT b < lvl 3 n + 1)) := by rw [txtT7]; rfl
/-- what FormatExpr answers -/
def fmtX (t : T) : List UInt8 := if okT t = true then txtT7 t else []
set_option maxHeartbeats 1000000 in
theorem hasInt_any (ks : List Int) (x : Int) (A : Option Addr) (c : Nat) (w : World) (hr : Rd w w.heap.size A (ks.map (Value.int .i64))) (hl : ks.length ≤ 1048576) : Calls Tryz.prog 146 #[.slice A ks.length c, .int .i64 x] w fun e w' => e = .returned (.bool (decide (x ∈ ks))) ∧ Below w.heap.size w w' := by
  have hr := hid hr
  have h8 := hl
  go_enter Tryz.func146, Tryz.ntmps146
  go_wp2_with fail
  go_loopw [5] (fun i wr => ∃ m : Nat, m ≤ ks.length ∧ i = .int .i64 m ∧ (∀ j (hj : j < ks.length), j < m → ks[j] ≠ x) ∧ wr = w) (fun i _ => ks.length - (Go.RowKit.intOf i).toNat)
  case atStart => exact ⟨0, Nat.zero_le _, rfl, fun j _ h => absurd h (Nat.not_lt_zero _), rfl⟩
  case round =>
    obtain ⟨m, hm, rfl, hno, rfl⟩ := hrel
    have hno := hid hno
    by_cases hlt : m < ks.length
    · have t1 : decide ((m : Int) < (ks.length : Int)) = true := decide_eq_true (by omega)
      obtain ⟨ad, rfl, _, hcm⟩ := hr.out.at_ (k := m) (by simpa using hlt)
      rw [List.getElem_map] at hcm
      by_cases hx : ks[m] = x
      · have t2 : (ks[m] == x) = true := beq_iff_eq.2 hx
        have hf := hid (show decide (x ∈ ks) = true from decide_eq_true (hx ▸ List.getElem_mem hlt))
        generalize ks[m] = K at *
        go_wp2_with fail
        go_ret
        exact ⟨by rw [hf.out]; rfl, Below.refl _ _⟩
      · have t2 : (ks[m] == x) = false := beq_false_of_ne hx
        have hn2 := hid (show ∀ j (hj : j < ks.length), j < m + 1 → ks[j] ≠ x from fun j hj h2 => by
          by_cases e : j = m
          · subst e; exact hx
          · exact hno.out j hj (by omega))
        clear hx
        generalize ks[m] = K at *
        go_wp2_with fail
        exact ⟨⟨m + 1, hlt, by go_num, hn2.out, trivial⟩, by simp [Go.RowKit.intOf]; omega⟩
    · obtain rfl : m = ks.length := by omega
      have t1 : decide ((ks.length : Int) < (ks.length : Int)) = false := decide_eq_false (by omega)
      have hf := hid (show decide (x ∈ ks) = false from decide_eq_false (fun hx => by
        obtain ⟨j, hj, e⟩ := List.getElem_of_mem hx
        exact hno.out j hj hj e))
      go_wp2_with fail
      go_ret
      exact ⟨by rw [hf.out]; rfl, Below.refl _ _⟩
set_option maxHeartbeats 2000000 in
theorem slevel_any (k n : Int) (s : List UInt8) (A : Option Addr) (l c : Nat) (w : World) : Calls Tryz.prog 97 #[nv k n s A l c] w fun e w' => e = .returned (.int .i64 (lvl k n : Nat)) ∧ Below w.heap.size w w' := by
  have hb1 := hid (box_below w (.cells #[.int .i64 k, .int .i64 n, sv s, .slice A l c] 27))
  have hblk := hid (box_blk w k n s A l c 27)
  by_cases h4 : k = 4
  · subst h4
    have hf := hid (show lvl 4 n = 6 from rfl)
    go_enter Tryz.func97, Tryz.ntmps97
    go_wp2_with fail
    go_ret
    exact ⟨by rw [hf.out]; rfl, hb1.out⟩
  · have e4 : (k == 4) = false := beq_false_of_ne h4
    have hz : (w.alloc (.cells #[.int .i64 k, .int .i64 n, sv s, .slice A l c] 27)).heap.size = w.heap.size + 1 := size_alloc' _ _
    have hlv := hid (levs_any (w.alloc (.cells #[.int .i64 k, .int .i64 n, sv s, .slice A l c] 27)))
    go_enter Tryz.func97, Tryz.ntmps97
    go_wp2_with fail
    generalize (w.alloc (.cells #[.int .i64 k, .int .i64 n, sv s, .slice A l c] 27)) = w1 at *
    refine hlv.out.mono ?_
    rintro e w2 ⟨B, rfl, hb, hrow⟩
    have hblk2 := hid (hblk.out.below hb (by omega))
    have hrow := hid hrow
    have hb2 := hid (hb1.out.trans (hb.mono hb1.out.size))
    clear hlv hb
    go_wp2_with fail
    go_loopw [4] (fun i wr => ∃ m : Nat, 1 ≤ m ∧ m ≤ 6 ∧ i = .int .i64 m ∧ (k = 3 → NoLev n m) ∧ Below w2.heap.size w2 wr) (fun i _ => 6 - (Go.RowKit.intOf i).toNat)
    case atStart => exact ⟨1, by omega, by omega, rfl, fun _ j h1 h2 => by omega, Below.refl _ _⟩
    case round =>
      obtain ⟨m, hm1, hm, rfl, hno, hb⟩ := hrel
      have hno := hid hno
      have hb3 := hid (hb2.out.trans (hb.mono hb2.out.size))
      by_cases hlt : m < 6
      · have t1 : decide ((m : Int) ≤ 5) = true := decide_eq_true (by omega)
        have hbk := hblk2.out.below hb hblk2.out.lt
        have b0 := hbk.cell 0
        have b1 := hbk.cell 1
        obtain ⟨b, hc, hrd, hbb⟩ := hrow.out m hm1 (by omega)
        have hBl : B < w2.heap.size := by
          rcases Nat.lt_or_ge B w2.heap.size with h | h
          · exact h
          · simp [World.cell?, Array.getElem?_eq_none h] at hc
        have hcm : wr.cell? ⟨B, m, none⟩ = some (.slice (some ⟨b, 0, none⟩) (opsOf m).length (opsOf m).length) := (hb.cell (p := ⟨B, m, none⟩) hBl).trans hc
        have hrd := (hrd.below hb).more hb.size
        have h8 := opsOf_few m
        have b0 : wr.cell? ⟨w.heap.size, 0, none⟩ = some (.int .i64 k) := b0
        have b1 : wr.cell? ⟨w.heap.size, 1, none⟩ = some (.int .i64 n) := b1
        have hhi := fun w2 hb => hasInt_any (opsOf m) n (some ⟨b, 0, none⟩) (opsOf m).length w2 ((hrd.below (w' := w2) hb).more hb.size) (by omega)
        have hat := hid (fun hno h => lvl_at (n := n) hm1 (by omega) hno h)
        have hsn := hid (fun hno h => noLev_snoc (n := n) (m := m) hno h)
        have t8 : ((opsOf m).length : Int) ≤ 8 := by omega
        clear hbk hc hBl hbb
        by_cases h3 : k = 3
        · have e3 : (k == 3) = true := beq_iff_eq.2 h3
          have hn3 := hno.out h3
          cases hin : decide (n ∈ opsOf m) with
          | true =>
            rw [hin] at hhi
            have hf := hid (show lvl k n = m by rw [h3]; exact hat.out hn3 (of_decide_eq_true hin))
            have cM := hid (fun (d : Nat) (os : Array Obj) => Calls.regrown_of (d := d) (os := os) (hhi (grow (redrawn wr d) os) (below_regrown wr d os)))
            generalize opsOf m = ks at *
            replace b0 := cell_regrown b0
            replace b1 := cell_regrown b1
            replace hcm := cell_regrown hcm
            clear hhi hrd hin hat hsn hn3 h8 h3
            go_wp2_with fail
            refine wp_region_quiet_below (by kernel_rfl) (by kernel_rfl) ?_
            repeat (go_big_quiet_step (exact cM.out _ _))
            refine wpQuiet_nil ?_
            intro _ hw'
            obtain ⟨⟨dq, osq⟩, hw''⟩ := hw'
            subst hw''
            have hq := hid (below_regrown wr dq osq)
            clear b0 b1 hcm cM
            generalize grow (redrawn wr dq) osq = wq at *
            go_wp2_with fail
            go_ret
            exact ⟨by rw [hf.out]; rfl, hb3.out.trans (hq.out.mono hb3.out.size)⟩
          | false =>
            rw [hin] at hhi
            have hn2 := hid (show k = 3 → NoLev n (m + 1) from fun _ => hsn.out hn3 (of_decide_eq_false hin))
            have cM := hid (fun (d : Nat) (os : Array Obj) => Calls.regrown_of (d := d) (os := os) (hhi (grow (redrawn wr d) os) (below_regrown wr d os)))
            generalize opsOf m = ks at *
            replace b0 := cell_regrown b0
            replace b1 := cell_regrown b1
            replace hcm := cell_regrown hcm
            replace hb := hid hb
            clear hhi hrd hin hat hsn hn3 h8 h3
            go_wp2_with fail
            refine wp_region_quiet_below (by kernel_rfl) (by kernel_rfl) ?_
            repeat (go_big_quiet_step (exact cM.out _ _))
            refine wpQuiet_nil ?_
            intro _ hw'
            obtain ⟨⟨dq, osq⟩, hw''⟩ := hw'
            subst hw''
            have hq := hid (below_regrown wr dq osq)
            clear b0 b1 hcm cM
            generalize grow (redrawn wr dq) osq = wq at *
            go_wp2_with fail
            exact ⟨⟨m + 1, by omega, by omega, by go_num, hn2.out, hb.out.trans (hq.out.mono hb.out.size)⟩, by simp [Go.RowKit.intOf]; omega⟩
        · have e3 : (k == 3) = false := beq_false_of_ne h3
          have hn2 := hid (show k = 3 → NoLev n (m + 1) from fun h => absurd h h3)
          generalize opsOf m = ks at *
          replace b0 := cell_regrown b0
          replace b1 := cell_regrown b1
          replace hcm := cell_regrown hcm
          replace hb := hid hb
          clear hhi hrd hat hsn h8 h3
          go_wp2_with fail
          refine wp_region_quiet_below (by kernel_rfl) (by kernel_rfl) ?_
          repeat (go_big_quiet_step (fail))
          refine wpQuiet_nil ?_
          intro _ hw'
          obtain ⟨⟨dq, osq⟩, hw''⟩ := hw'
          subst hw''
          have hq := hid (below_regrown wr dq osq)
          clear b0 b1 hcm
          generalize grow (redrawn wr dq) osq = wq at *
          go_wp2_with fail
          exact ⟨⟨m + 1, by omega, by omega, by go_num, hn2.out, hb.out.trans (hq.out.mono hb.out.size)⟩, by simp [Go.RowKit.intOf]; omega⟩
      · obtain rfl : m = 6 := by omega
        have t1 : decide (((6 : Nat) : Int) ≤ 5) = false := by decide
        have hf := hid (show lvl k n = 7 by
          by_cases h3 : k = 3
          · rw [h3]; exact lvl_no (hno.out h3)
          · exact lvl_oth h3 h4)
        go_wp2_with fail
        go_ret
        exact ⟨by rw [hf.out]; rfl, hb3.out⟩
end Go.Proofs.YtklcbagddijkgaaGreatDoor.Tk
