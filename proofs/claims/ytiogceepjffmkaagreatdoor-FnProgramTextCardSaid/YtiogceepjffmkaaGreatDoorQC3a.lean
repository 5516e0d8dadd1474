/- Chapter 3: words and single operators. -/
import Derived.Test.YtiogceepjffmkaaGreatDoorQTr
import Derived.Test.YtiogceepjffmkaaGreatDoorQMp
set_option maxHeartbeats 2000000
set_option maxRecDepth 100000
namespace Go.Proofs.YtiogceepjffmkaaGreatDoor.C3
open Go.RowKit Go.Lib Com Mem
def isW (n : Int) : Bool := decide (0 ≤ n) && decide (n < 4)
theorem isW_iff {n : Int} : isW n = true ↔ 0 ≤ n ∧ n < 4 := by simp [isW]
theorem isWord_any (n : Int) (w : World) : Calls Tryz.prog 213 #[.int .i64 n] w fun e w' => e = .returned (.bool (isW n)) ∧ w = w' := by
 by_cases h1 : 0 ≤ n
 ·have t1 : decide ((0 : Int) ≤ n) = true := decide_eq_true h1
  have hf := hid (show isW n = decide (n < 4) by unfold isW; rw [t1, Bool.true_and])
  go_enter Tryz.func213, Tryz.ntmps213
  go_wp2_with fail
  go_ret
  exact ⟨by rw [hf.out]; rfl, rfl⟩
 ·have t1 : decide ((0 : Int) ≤ n) = false := decide_eq_false h1
  have hf := hid (show isW n = false by unfold isW; rw [t1, Bool.false_and])
  go_enter Tryz.func213, Tryz.ntmps213
  go_wp2_with fail
  go_ret
  exact ⟨by rw [hf.out]; rfl, rfl⟩
def inB (n a b : Int) : Bool := decide (a ≤ n) && decide (n ≤ b)
theorem l1In_any (n a b : Int) (w : World) : Calls Tryz.prog 117 #[.int .i64 n, .int .i64 a, .int .i64 b] w fun e w' => e = .returned (.bool (inB n a b)) ∧ w = w' := by
 by_cases h1 : a ≤ n
 ·have t1 : decide (a ≤ n) = true := decide_eq_true h1
  have hf := hid (show inB n a b = decide (n ≤ b) by unfold inB; rw [t1, Bool.true_and])
  go_enter Tryz.func117, Tryz.ntmps117
  go_wp2_with fail
  go_ret
  exact ⟨by rw [hf.out]; rfl, rfl⟩
 ·have t1 : decide (a ≤ n) = false := decide_eq_false h1
  have hf := hid (show inB n a b = false by unfold inB; rw [t1, Bool.false_and])
  go_enter Tryz.func117, Tryz.ntmps117
  go_wp2_with fail
  go_ret
  exact ⟨by rw [hf.out]; rfl, rfl⟩
theorem sisWord_any (n : Int) (w : World) : Calls Tryz.prog 75 #[.int .i64 n] w fun e w' => e = .returned (.bool (isW n)) ∧ w = w' := by
 have hq := hid (l1In_any n 0 3 w)
 have hf := hid (show inB n 0 3 = isW n by unfold inB isW; congr 1; apply decide_eq_decide.2; omega)
 go_enter Tryz.func75, Tryz.ntmps75
 go_wp2_with fail
 refine hq.out.mono ?_
 rw [hf.out]
 rintro e w' ⟨rfl, rfl⟩
 go_wp2_with fail
 go_ret
 exact ⟨rfl, rfl⟩
theorem isOp_any (n : Int) (w : World) : Calls Tryz.prog 214 #[.int .i64 n] w fun e w' => e = .returned (.bool (inB n 1 8)) ∧ w = w' := by
 by_cases h1 : 1 ≤ n
 ·have t1 : decide (1 ≤ n) = true := decide_eq_true h1
  have hf := hid (show inB n 1 8 = decide (n ≤ 8) by unfold inB; rw [t1, Bool.true_and])
  go_enter Tryz.func214, Tryz.ntmps214
  go_wp2_with fail
  go_ret
  exact ⟨by rw [hf.out]; rfl, rfl⟩
 ·have t1 : decide (1 ≤ n) = false := decide_eq_false h1
  have hf := hid (show inB n 1 8 = false by unfold inB; rw [t1, Bool.false_and])
  go_enter Tryz.func214, Tryz.ntmps214
  go_wp2_with fail
  go_ret
  exact ⟨by rw [hf.out]; rfl, rfl⟩
end Go.Proofs.YtiogceepjffmkaaGreatDoor.C3
set_option maxRecDepth 100000
namespace Go.Proofs.YtiogceepjffmkaaGreatDoor.Tr
open Go.RowKit Go.Lib Go.Sort Com Mem C3 C2
def nodeB (k n : Int) (s : List UInt8) (l : Nat) : Bool :=
 if k = 1 then isW n && ((s == []) && ((l : Int) == 0))
 else if k = 2 then validB s && ((n == 0) && ((l : Int) == 0))
 else if k = 3 then inB n 1 8 && ((s == []) && ((l : Int) == 2))
 else if k = 4 then (n == 0) && ((s == []) && ((l : Int) == 1))
 else false
theorem snode1 (n : Int) (s : List UInt8) (A : Option Addr) (l c : Nat) (w : World) : Calls Tryz.prog 191 #[nv 1 n s A l c] w fun e w' => e = .returned (.bool (nodeB 1 n s l)) ∧ Below w.heap.size w w' := by
 have hb := hid (box_below w (.cells #[.int .i64 1, .int .i64 n, sv s, .slice A l c] 58))
 have h1 := sisWord_any n (w.alloc (.cells #[.int .i64 1, .int .i64 n, sv s, .slice A l c] 58))
 have hv := hid (show nodeB 1 n s l = (isW n && ((s == []) && ((l : Int) == 0))) by simp [nodeB])
 cases t1 : isW n
 ·rw [t1] at h1
  have h1 := hid h1
  rw [t1] at hv
  go_enter Tryz.func191, Tryz.ntmps191
  go_wp2_with fail
  refine h1.out.mono ?_
  rintro e w' ⟨rfl, rfl⟩
  go_wp2_with fail
  go_ret
  exact ⟨by rw [hv.out]; rfl, hb.out⟩
 ·rw [t1] at h1
  have h1 := hid h1
  rw [t1] at hv
  cases t2 : (s == [])
  ·rw [t2] at hv
   go_enter Tryz.func191, Tryz.ntmps191
   go_wp2_with fail
   refine h1.out.mono ?_
   rintro e w' ⟨rfl, rfl⟩
   go_wp2_with fail
   go_ret
   exact ⟨by rw [hv.out]; rfl, hb.out⟩
  ·rw [t2] at hv
   go_enter Tryz.func191, Tryz.ntmps191
   go_wp2_with fail
   refine h1.out.mono ?_
   rintro e w' ⟨rfl, rfl⟩
   go_wp2_with fail
   go_ret
   exact ⟨by rw [hv.out]; rfl, hb.out⟩
theorem snode3 (n : Int) (s : List UInt8) (A : Option Addr) (l c : Nat) (w : World) : Calls Tryz.prog 191 #[nv 3 n s A l c] w fun e w' => e = .returned (.bool (nodeB 3 n s l)) ∧ Below w.heap.size w w' := by
 have hb := hid (box_below w (.cells #[.int .i64 3, .int .i64 n, sv s, .slice A l c] 58))
 have h1 := l1In_any n 1 8 (w.alloc (.cells #[.int .i64 3, .int .i64 n, sv s, .slice A l c] 58))
 have hv := hid (show nodeB 3 n s l = (inB n 1 8 && ((s == []) && ((l : Int) == 2))) by simp [nodeB])
 cases t1 : inB n 1 8
 ·rw [t1] at h1
  have h1 := hid h1
  rw [t1] at hv
  go_enter Tryz.func191, Tryz.ntmps191
  go_wp2_with fail
  refine h1.out.mono ?_
  rintro e w' ⟨rfl, rfl⟩
  go_wp2_with fail
  go_ret
  exact ⟨by rw [hv.out]; rfl, hb.out⟩
 ·rw [t1] at h1
  have h1 := hid h1
  rw [t1] at hv
  cases t2 : (s == [])
  ·rw [t2] at hv
   go_enter Tryz.func191, Tryz.ntmps191
   go_wp2_with fail
   refine h1.out.mono ?_
   rintro e w' ⟨rfl, rfl⟩
   go_wp2_with fail
   go_ret
   exact ⟨by rw [hv.out]; rfl, hb.out⟩
  ·rw [t2] at hv
   go_enter Tryz.func191, Tryz.ntmps191
   go_wp2_with fail
   refine h1.out.mono ?_
   rintro e w' ⟨rfl, rfl⟩
   go_wp2_with fail
   go_ret
   exact ⟨by rw [hv.out]; rfl, hb.out⟩
theorem snode4 (n : Int) (s : List UInt8) (A : Option Addr) (l c : Nat) (w : World) : Calls Tryz.prog 191 #[nv 4 n s A l c] w fun e w' => e = .returned (.bool (nodeB 4 n s l)) ∧ Below w.heap.size w w' := by
 have hb := hid (box_below w (.cells #[.int .i64 4, .int .i64 n, sv s, .slice A l c] 58))
 have hv := hid (show nodeB 4 n s l = ((n == 0) && ((s == []) && ((l : Int) == 1))) by simp [nodeB])
 cases t1 : (n == 0)
 ·rw [t1] at hv
  go_enter Tryz.func191, Tryz.ntmps191
  go_wp2_with fail
  go_ret
  exact ⟨by rw [hv.out]; rfl, hb.out⟩
 ·rw [t1] at hv
  cases t2 : (s == [])
  ·rw [t2] at hv
   go_enter Tryz.func191, Tryz.ntmps191
   go_wp2_with fail
   go_ret
   exact ⟨by rw [hv.out]; rfl, hb.out⟩
  ·rw [t2] at hv
   go_enter Tryz.func191, Tryz.ntmps191
   go_wp2_with fail
   go_ret
   exact ⟨by rw [hv.out]; rfl, hb.out⟩
theorem snode2 (n : Int) (s : List UInt8) (hsl : s.length ≤ 9223372036854775807) (A : Option Addr) (l c : Nat) (w : World) : Calls Tryz.prog 191 #[nv 2 n s A l c] w fun e w' => e = .returned (.bool (nodeB 2 n s l)) ∧ Below w.heap.size w w' := by
 have hb := hid (box_below w (.cells #[.int .i64 2, .int .i64 n, sv s, .slice A l c] 58))
 have hB := hid (box_blk w 2 n s A l c 58)
 have h1 := svalid_any s (w.alloc (.cells #[.int .i64 2, .int .i64 n, sv s, .slice A l c] 58)) hsl
 have hv := hid (show nodeB 2 n s l = (validB s && ((n == 0) && ((l : Int) == 0))) by simp [nodeB])
 cases t1 : validB s
 ·rw [t1] at h1
  have h1 := hid h1
  rw [t1] at hv
  go_enter Tryz.func191, Tryz.ntmps191
  go_wp2_with fail
  refine h1.out.mono ?_
  rintro e w' ⟨rfl, hb2⟩
  have b1 : w'.cell? ⟨w.heap.size, 1, none⟩ = some (.int .i64 n) := (hB.out.below hb2 hB.out.lt).cell 1
  have b3 : w'.cell? ⟨w.heap.size, 3, none⟩ = some (.slice A l c) := (hB.out.below hb2 hB.out.lt).cell 3
  have hb3 := hid (hb.out.trans (hb2.mono hb.out.size))
  clear hb2
  go_wp2_with fail
  go_ret
  exact ⟨by rw [hv.out]; rfl, hb3.out⟩
 ·rw [t1] at h1
  have h1 := hid h1
  rw [t1] at hv
  cases t2 : (n == 0)
  ·rw [t2] at hv
   go_enter Tryz.func191, Tryz.ntmps191
   go_wp2_with fail
   refine h1.out.mono ?_
   rintro e w' ⟨rfl, hb2⟩
   have b1 : w'.cell? ⟨w.heap.size, 1, none⟩ = some (.int .i64 n) := (hB.out.below hb2 hB.out.lt).cell 1
   have b3 : w'.cell? ⟨w.heap.size, 3, none⟩ = some (.slice A l c) := (hB.out.below hb2 hB.out.lt).cell 3
   have hb3 := hid (hb.out.trans (hb2.mono hb.out.size))
   clear hb2
   go_wp2_with fail
   go_ret
   exact ⟨by rw [hv.out]; rfl, hb3.out⟩
  ·rw [t2] at hv
   go_enter Tryz.func191, Tryz.ntmps191
   go_wp2_with fail
   refine h1.out.mono ?_
   rintro e w' ⟨rfl, hb2⟩
   have b1 : w'.cell? ⟨w.heap.size, 1, none⟩ = some (.int .i64 n) := (hB.out.below hb2 hB.out.lt).cell 1
   have b3 : w'.cell? ⟨w.heap.size, 3, none⟩ = some (.slice A l c) := (hB.out.below hb2 hB.out.lt).cell 3
   have hb3 := hid (hb.out.trans (hb2.mono hb.out.size))
   clear hb2
   go_wp2_with fail
   go_ret
   exact ⟨by rw [hv.out]; rfl, hb3.out⟩
theorem snode_not (k n : Int) (s : List UInt8) (A : Option Addr) (l c : Nat) (w : World) (h1 : k ≠ 1) (h2 : k ≠ 2) (h3 : k ≠ 3) (h4 : k ≠ 4) : Calls Tryz.prog 191 #[nv k n s A l c] w fun e w' => e = .returned (.bool (nodeB k n s l)) ∧ Below w.heap.size w w' := by
 have hb := hid (box_below w (.cells #[.int .i64 k, .int .i64 n, sv s, .slice A l c] 58))
 have hv := hid (show nodeB k n s l = false by unfold nodeB; rw [if_neg h1, if_neg h2, if_neg h3, if_neg h4])
 have e1 : (k == 1) = false := beq_false_of_ne h1
 have e2 : (k == 2) = false := beq_false_of_ne h2
 have e3 : (k == 3) = false := beq_false_of_ne h3
 have e4 : (k == 4) = false := beq_false_of_ne h4
 clear h1 h2 h3 h4
 go_enter Tryz.func191, Tryz.ntmps191
 go_wp2_with fail
 go_ret
 exact ⟨by rw [hv.out]; rfl, hb.out⟩
theorem snode (k n : Int) (s : List UInt8) (hsl : s.length ≤ 9223372036854775807) (A : Option Addr) (l c : Nat) (w : World) : Calls Tryz.prog 191 #[nv k n s A l c] w fun e w' => e = .returned (.bool (nodeB k n s l)) ∧ Below w.heap.size w w' := by
 by_cases h1 : k = 1
 ·subst h1; exact snode1 n s A l c w
 by_cases h2 : k = 2
 ·subst h2; exact snode2 n s hsl A l c w
 by_cases h3 : k = 3
 ·subst h3; exact snode3 n s A l c w
 by_cases h4 : k = 4
 ·subst h4; exact snode4 n s A l c w
 exact snode_not k n s A l c w h1 h2 h3 h4
def allT : T → Bool
 | .mk k n s ks => (ks.attach.all fun ⟨a, _⟩ => allT a) && nodeB k n s ks.length
termination_by t => SizeOf.sizeOf t
decreasing_by have := List.sizeOf_lt_of_mem ‹_›; simp only [T.mk.sizeOf_spec]; omega
theorem allT_mk (k n : Int) (s : List UInt8) (ks : List T) : allT (.mk k n s ks) = (ks.all allT && nodeB k n s ks.length) := by
 rw [allT]; simp
theorem all_not {ks : List T} {m : Nat} (h : m < ks.length) (hf : allT ks[m] = false) : ks.all allT = false := by
 cases hq : ks.all allT with
 | false => rfl
 | true => rw [List.all_eq_true.1 hq _ (List.getElem_mem h)] at hf; cases hf
theorem all_yes {ks : List T} (h : ∀ j, (hj : j < ks.length) → allT ks[j] = true) : ks.all allT = true := by
 rw [List.all_eq_true]
 intro a ha
 obtain ⟨j, hj, rfl⟩ := List.mem_iff_getElem.1 ha
 exact h j hj
theorem sall (t : T) : ∀ (v : Value) (w : World), Ex w w.heap.size v t → Calls Tryz.prog 165 #[v] w fun e w' => e = .returned (.bool (allT t)) ∧ Below w.heap.size w w' := by
 induction t using T.ind with
 | h k n s ks ih =>
  intro v w hv
  obtain ⟨A, c, vs, rfl, hs, hl, hk⟩ := hv.kids
  have hb1 := box_below w (.cells #[.int .i64 k, .int .i64 n, sv s, .slice A ks.length c] 58)
  have hblk := hid (box_blk w k n s A ks.length c 58)
  have hk1 := hid (hk.go hb1)
  have hmk := hid (allT_mk k n s ks)
  have hnode := hid (snode k n s hs A ks.length c)
  have hb1 := hid hb1
  clear hk hv
  generalize hL : ks.length = N at *
  go_enter Tryz.func165, Tryz.ntmps165
  go_wp2_with fail
  generalize (w.alloc (.cells #[.int .i64 k, .int .i64 n, sv s, .slice A N c] 58)) = w1 at *
  go_loopw [3] (fun i wr => ∃ m : Nat, m ≤ N ∧ i = .int .i64 m ∧ (∀ j, (hj : j < ks.length) → j < m → allT ks[j] = true) ∧ Below w1.heap.size w1 wr) (fun i _ => N - (Go.RowKit.intOf i).toNat)
  case atStart => exact ⟨0, Nat.zero_le _, rfl, fun j _ h => by omega, Below.refl _ _⟩
  case round =>
   obtain ⟨m, hm, rfl, hall, hb⟩ := hrel
   have hblk2 := hblk.out.below hb hblk.out.lt
   have b3 : wr.cell? ⟨w.heap.size, 3, none⟩ = some (.slice A N c) := hblk2.cell 3
   have hall := hid hall
   by_cases hlt : m < N
   ·have hkr := hk1.out.go hb
    obtain ⟨ad, rfl, _, c0, c1, c2, c3, e, k0, k1, k2, k3⟩ := hkr.cell m (by omega)
    have hkid := hkr.kid m _ (List.getElem?_eq_getElem (by omega))
    have hck := ih ks[m] (List.getElem_mem _) _ wr hkid
    rw [e] at hck
    have hb := hid hb
    have hno := hid (fun (hf : allT ks[m] = false) => all_not (ks := ks) (m := m) (by omega) hf)
    have hyes := hid (fun (hf : allT ks[m] = true) (j : Nat) (hj : j < ks.length) (hjm : j < m + 1) => show allT ks[j] = true from by
     by_cases e : j = m
     ·subst e; exact hf
     ·exact hall.out j hj (by omega))
    clear hkid hkr e hblk2
    cases ha : allT ks[m] with
    | true =>
     rw [ha] at hck
     have hck := hid hck
     have hy := hid (hyes.out ha)
     go_wp2_with fail
     refine hck.out.mono ?_
     rintro e w2 ⟨rfl, hb2⟩
     have hb2 := hid (hb.out.trans (hb2.mono hb.out.size))
     go_wp2_with fail
     exact ⟨⟨m + 1, hlt, by go_num, hy.out, hb2.out⟩, by simp [Go.RowKit.intOf]; omega⟩
    | false =>
     rw [ha] at hck
     have hck := hid hck
     have hf := hid (show allT (.mk k n s ks) = false by rw [hmk.out, hno.out ha]; rfl)
     go_wp2_with fail
     refine hck.out.mono ?_
     rintro e w2 ⟨rfl, hb2⟩
     have hb2 := hid (hb.out.trans (hb2.mono hb.out.size))
     go_wp2_with fail
     go_ret
     exact ⟨by rw [hf.out]; rfl, hb1.out.trans (hb2.out.mono hb1.out.size)⟩
   ·obtain rfl : m = N := by omega
    have hf := hid (show allT (.mk k n s ks) = nodeB k n s m by
     rw [hmk.out, all_yes (fun j hj => hall.out j hj (by omega)), Bool.true_and])
    have b0 : wr.cell? ⟨w.heap.size, 0, none⟩ = some (.int .i64 k) := hblk2.cell 0
    have b1 : wr.cell? ⟨w.heap.size, 1, none⟩ = some (.int .i64 n) := hblk2.cell 1
    have b2 : wr.cell? ⟨w.heap.size, 2, none⟩ = some (sv s) := hblk2.cell 2
    have hck := hid (hnode.out wr)
    have hb := hid hb
    clear hblk2
    go_wp2_with fail
    refine hck.out.mono ?_
    rintro e w2 ⟨rfl, hb2⟩
    have hb2 := hid (hb.out.trans (hb2.mono hb.out.size))
    go_wp2_with fail
    go_ret
    exact ⟨by rw [hf.out]; rfl, hb1.out.trans (hb2.out.mono hb1.out.size)⟩
def okT (t : T) : Bool := decide (cntT t ≤ 12) && (decide (depT t ≤ 5) && allT t)
theorem svalidE (t : T) (v : Value) (w : World) (hv : Ex w w.heap.size v t) (hbd : cntT t ≤ 2000000) : Calls Tryz.prog 128 #[v] w fun e w' => e = .returned (.bool (okT t)) ∧ Below w.heap.size w w' := by
 obtain ⟨k, n, s, ks⟩ := t
 obtain ⟨A, c, vs, rfl, hs, hl, hk⟩ := hv.kids
 have hb1 := box_below w (.cells #[.int .i64 k, .int .i64 n, sv s, .slice A ks.length c] 58)
 have hblk := hid (box_blk w k n s A ks.length c 58)
 have hv1 := hid (hv.go hb1)
 have hb1 := hid hb1
 have hdc := dep_cnt (.mk k n s ks)
 generalize hT : T.mk k n s ks = t at *
 have c1 := sleft t 12 _ _ hv1.out (by omega) (by omega)
 clear hk hv
 have hok := hid (show okT t = (decide (cntT t ≤ 12) && (decide (depT t ≤ 5) && allT t)) from rfl)
 by_cases h1 : cntT t ≤ 12
 ·rw [decide_eq_true h1] at hok
  have e1 : szAns (cntT t) 12 = 12 - (cntT t : Int) := by unfold szAns; rw [if_pos (by omega)]
  rw [e1] at c1
  have c1 := hid c1
  have t1 : decide (0 ≤ 12 - (cntT t : Int)) = true := decide_eq_true (by omega)
  clear e1
  go_enter Tryz.func128, Tryz.ntmps128
  go_wp2_with fail
  refine c1.out.mono ?_
  rintro e w2 ⟨rfl, hb2⟩
  have hblk2 := hblk.out.below hb2 hblk.out.lt
  have b0 : w2.cell? ⟨w.heap.size, 0, none⟩ = some (.int .i64 k) := hblk2.cell 0
  have b1 : w2.cell? ⟨w.heap.size, 1, none⟩ = some (.int .i64 n) := hblk2.cell 1
  have b2 : w2.cell? ⟨w.heap.size, 2, none⟩ = some (sv s) := hblk2.cell 2
  have b3 : w2.cell? ⟨w.heap.size, 3, none⟩ = some (.slice A ks.length c) := hblk2.cell 3
  have hv2 := hid (hv1.out.go hb2)
  have c2 := hid (sdepth t _ w2 hv2.out (by omega))
  have hblk2 := hid hblk2
  have hb2 := hid (hb1.out.trans (hb2.mono hb1.out.size))
  go_wp2_with fail
  refine c2.out.mono ?_
  rintro e w3 ⟨rfl, hb3⟩
  have hblk3 := hblk2.out.below hb3 hblk2.out.lt
  clear b0 b1 b2 b3
  have b0 : w3.cell? ⟨w.heap.size, 0, none⟩ = some (.int .i64 k) := hblk3.cell 0
  have b1 : w3.cell? ⟨w.heap.size, 1, none⟩ = some (.int .i64 n) := hblk3.cell 1
  have b2 : w3.cell? ⟨w.heap.size, 2, none⟩ = some (sv s) := hblk3.cell 2
  have b3 : w3.cell? ⟨w.heap.size, 3, none⟩ = some (.slice A ks.length c) := hblk3.cell 3
  have hv3 := hid (hv2.out.go hb3)
  have c3 := hid (sall t _ w3 hv3.out)
  have hb3 := hid (hb2.out.trans (hb3.mono hb2.out.size))
  clear hblk3
  by_cases h2 : depT t ≤ 5
  ·rw [decide_eq_true h2] at hok
   have t2 : decide ((depT t : Int) ≤ 5) = true := decide_eq_true (by omega)
   go_wp2_with fail
   refine c3.out.mono ?_
   rintro e w4 ⟨rfl, hb4⟩
   have hb4 := hid (hb3.out.trans (hb4.mono hb3.out.size))
   go_wp2_with fail
   go_ret
   exact ⟨by rw [hok.out]; rfl, hb4.out⟩
  ·rw [decide_eq_false h2] at hok
   have t2 : decide ((depT t : Int) ≤ 5) = false := decide_eq_false (by omega)
   go_wp2_with fail
   go_ret
   exact ⟨by rw [hok.out]; rfl, hb3.out⟩
 ·rw [decide_eq_false h1] at hok
  have e1 : szAns (cntT t) 12 = -1 := by unfold szAns; rw [if_neg (by omega)]
  rw [e1] at c1
  have c1 := hid c1
  clear e1
  go_enter Tryz.func128, Tryz.ntmps128
  go_wp2_with fail
  refine c1.out.mono ?_
  rintro e w2 ⟨rfl, hb2⟩
  have hb2 := hid (hb1.out.trans (hb2.mono hb1.out.size))
  go_wp2_with fail
  go_ret
  exact ⟨by rw [hok.out]; rfl, hb2.out⟩
end Go.Proofs.YtiogceepjffmkaaGreatDoor.Tr
set_option maxRecDepth 100000
namespace Go.Proofs.YtiogceepjffmkaaGreatDoor.C3
open Go.RowKit Go.Lib Com Mem
theorem inB_lit (k : Int) (h1 : 1 ≤ k) (h2 : k ≤ 8) : inB k 1 8 = true := by simp [inB]; omega
theorem inB_not (k : Int) (h : k < 1 ∨ 8 < k) : inB k 1 8 = false := by
 cases h' : inB k 1 8 with
 | false => rfl
 | true => simp only [inB, Bool.and_eq_true, decide_eq_true_eq] at h'; omega
theorem op_cases {k : Int} (h1 : 1 ≤ k) (h2 : k ≤ 8) : k = 1 ∨ k = 2 ∨ k = 3 ∨ k = 4 ∨ k = 5 ∨ k = 6 ∨ k = 7 ∨ k = 8 := by omega
def symL (k : Int) : List UInt8 :=
 if k = 1 then [43] else if k = 2 then [45] else if k = 3 then [42] else if k = 4 then [47] else if k = 5 then [60]
 else if k = 6 then [61, 61] else if k = 7 then [38] else if k = 8 then [124] else [63]
theorem symL_not {k : Int} (h : k < 1 ∨ 8 < k) : symL k = [63] := by unfold symL; repeat (rw [if_neg (by omega)])
open Go.Sort
theorem ssymbol1 (w : World) : Calls Tryz.prog 176 #[.int .i64 1] w fun e w' => e = .returned (.string ⟨#[43]⟩) ∧ Below w.heap.size w w' := by
 have h0 := hid (l1In_any 1 1 8 w)
 rw [inB_lit 1 (by decide) (by decide)] at h0
 go_enter Tryz.func176, Tryz.ntmps176
 go_wp2_with fail
 refine h0.out.mono ?_
 rintro e w1 ⟨rfl, rfl⟩
 go_wp2_with fail
 go_ret
 exact ⟨rfl, (Below.refl _ _).alloc (Nat.le_refl _) _⟩
theorem ssymbol2 (w : World) : Calls Tryz.prog 176 #[.int .i64 2] w fun e w' => e = .returned (.string ⟨#[45]⟩) ∧ Below w.heap.size w w' := by
 have h0 := hid (l1In_any 2 1 8 w)
 rw [inB_lit 2 (by decide) (by decide)] at h0
 go_enter Tryz.func176, Tryz.ntmps176
 go_wp2_with fail
 refine h0.out.mono ?_
 rintro e w1 ⟨rfl, rfl⟩
 go_wp2_with fail
 go_ret
 exact ⟨rfl, (Below.refl _ _).alloc (Nat.le_refl _) _⟩
theorem ssymbol3 (w : World) : Calls Tryz.prog 176 #[.int .i64 3] w fun e w' => e = .returned (.string ⟨#[42]⟩) ∧ Below w.heap.size w w' := by
 have h0 := hid (l1In_any 3 1 8 w)
 rw [inB_lit 3 (by decide) (by decide)] at h0
 go_enter Tryz.func176, Tryz.ntmps176
 go_wp2_with fail
 refine h0.out.mono ?_
 rintro e w1 ⟨rfl, rfl⟩
 go_wp2_with fail
 go_ret
 exact ⟨rfl, (Below.refl _ _).alloc (Nat.le_refl _) _⟩
theorem ssymbol4 (w : World) : Calls Tryz.prog 176 #[.int .i64 4] w fun e w' => e = .returned (.string ⟨#[47]⟩) ∧ Below w.heap.size w w' := by
 have h0 := hid (l1In_any 4 1 8 w)
 rw [inB_lit 4 (by decide) (by decide)] at h0
 go_enter Tryz.func176, Tryz.ntmps176
 go_wp2_with fail
 refine h0.out.mono ?_
 rintro e w1 ⟨rfl, rfl⟩
 go_wp2_with fail
 go_ret
 exact ⟨rfl, (Below.refl _ _).alloc (Nat.le_refl _) _⟩
theorem ssymbol5 (w : World) : Calls Tryz.prog 176 #[.int .i64 5] w fun e w' => e = .returned (.string ⟨#[60]⟩) ∧ Below w.heap.size w w' := by
 have h0 := hid (l1In_any 5 1 8 w)
 rw [inB_lit 5 (by decide) (by decide)] at h0
 go_enter Tryz.func176, Tryz.ntmps176
 go_wp2_with fail
 refine h0.out.mono ?_
 rintro e w1 ⟨rfl, rfl⟩
 go_wp2_with fail
 go_ret
 exact ⟨rfl, (Below.refl _ _).alloc (Nat.le_refl _) _⟩
theorem ssymbol6 (w : World) : Calls Tryz.prog 176 #[.int .i64 6] w fun e w' => e = .returned (.string ⟨#[61, 61]⟩) ∧ Below w.heap.size w w' := by
 have h0 := hid (l1In_any 6 1 8 w)
 rw [inB_lit 6 (by decide) (by decide)] at h0
 go_enter Tryz.func176, Tryz.ntmps176
 go_wp2_with fail
 refine h0.out.mono ?_
 rintro e w1 ⟨rfl, rfl⟩
 go_wp2_with fail
 go_ret
 exact ⟨rfl, (Below.refl _ _).alloc (Nat.le_refl _) _⟩
theorem ssymbol7 (w : World) : Calls Tryz.prog 176 #[.int .i64 7] w fun e w' => e = .returned (.string ⟨#[38]⟩) ∧ Below w.heap.size w w' := by
 have h0 := hid (l1In_any 7 1 8 w)
 rw [inB_lit 7 (by decide) (by decide)] at h0
 go_enter Tryz.func176, Tryz.ntmps176
 go_wp2_with fail
 refine h0.out.mono ?_
 rintro e w1 ⟨rfl, rfl⟩
 go_wp2_with fail
 go_ret
 exact ⟨rfl, (Below.refl _ _).alloc (Nat.le_refl _) _⟩
theorem ssymbol8 (w : World) : Calls Tryz.prog 176 #[.int .i64 8] w fun e w' => e = .returned (.string ⟨#[124]⟩) ∧ Below w.heap.size w w' := by
 have h0 := hid (l1In_any 8 1 8 w)
 rw [inB_lit 8 (by decide) (by decide)] at h0
 go_enter Tryz.func176, Tryz.ntmps176
 go_wp2_with fail
 refine h0.out.mono ?_
 rintro e w1 ⟨rfl, rfl⟩
 go_wp2_with fail
 go_ret
 exact ⟨rfl, (Below.refl _ _).alloc (Nat.le_refl _) _⟩
theorem ssymbol_not (k : Int) (hk : k < 1 ∨ 8 < k) (w : World) : Calls Tryz.prog 176 #[.int .i64 k] w fun e w' => e = .returned (.string ⟨#[63]⟩) ∧ Below w.heap.size w w' := by
 have h0 := hid (l1In_any k 1 8 w)
 rw [inB_not k hk] at h0
 clear hk
 go_enter Tryz.func176, Tryz.ntmps176
 go_wp2_with fail
 refine h0.out.mono ?_
 rintro e w1 ⟨rfl, rfl⟩
 go_wp2_with fail
 go_ret
 exact ⟨rfl, Below.refl _ _⟩
theorem ssymbol_any (k : Int) (w : World) : Calls Tryz.prog 176 #[.int .i64 k] w fun e w' => e = .returned (.string ⟨(symL k).toArray⟩) ∧ Below w.heap.size w w' := by
 by_cases h : 1 ≤ k ∧ k ≤ 8
 ·rcases op_cases h.1 h.2 with rfl | rfl | rfl | rfl | rfl | rfl | rfl | rfl
  ·exact ssymbol1 w
  ·exact ssymbol2 w
  ·exact ssymbol3 w
  ·exact ssymbol4 w
  ·exact ssymbol5 w
  ·exact ssymbol6 w
  ·exact ssymbol7 w
  ·exact ssymbol8 w
 ·rw [symL_not (by omega)]; exact ssymbol_not k (by omega) w
end Go.Proofs.YtiogceepjffmkaaGreatDoor.C3
