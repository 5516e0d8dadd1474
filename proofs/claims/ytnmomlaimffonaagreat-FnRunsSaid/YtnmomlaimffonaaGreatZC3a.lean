/- Chapter 3: words and single operators. -/
import Derived.Test.YtnmomlaimffonaaGreatZTr
import Derived.Test.YtnmomlaimffonaaGreatZMp
set_option maxHeartbeats 2000000
set_option maxRecDepth 100000
namespace Go.Proofs.YtnmomlaimffonaaGreat.C3
open Go.RowKit Go.Lib Com Mem
def isW (n : Int) : Bool := decide (0 ≤ n) && decide (n < 4)
theorem tmod_split (n : Int) : n.tmod 4 = if 0 ≤ n then n % 4 else -((-n) % 4) := by
  split
  · rename_i h; exact Int.tmod_eq_emod_of_nonneg h
  · rename_i h
    have e : n.tmod 4 = -((-n).tmod 4) := by rw [Int.neg_tmod, Int.neg_neg]
    rw [e, Int.tmod_eq_emod_of_nonneg (by omega)]
theorem wrap_eq (n : Int) : (wrap64 (n.tmod 4 + 4)).tmod 4 = n % 4 := by
  rw [tmod_split, tmod_split]
  unfold wrap64
  split <;> split <;> omega
theorem swrap_any (n : Int) (w : World) : Calls Tryz.prog 154 #[.int .i64 n] w fun e w' => e = .returned (.int .i64 (n % 4)) ∧ w = w' := by
  have hq := hid (wrap_eq n)
  go_enter Tryz.func154, Tryz.ntmps154
  go_wp2_with fail
  rw [hq.out]
  go_ret
  exact ⟨rfl, rfl⟩
theorem wrap_any (n : Int) (w : World) : Calls Tryz.prog 152 #[.int .i64 n] w fun e w' => e = .returned (.int .i64 (n % 4)) ∧ w = w' := by
  have hq := hid (wrap_eq n)
  go_enter Tryz.func152, Tryz.ntmps152
  go_wp2_with fail
  rw [hq.out]
  go_ret
  exact ⟨rfl, rfl⟩
theorem isWord_any (n : Int) (w : World) : Calls Tryz.prog 61 #[.int .i64 n] w fun e w' => e = .returned (.bool (isW n)) ∧ w = w' := by
  by_cases h1 : 0 ≤ n
  · have t1 : decide ((0 : Int) ≤ n) = true := decide_eq_true h1
    have hf := hid (show isW n = decide (n < 4) by unfold isW; rw [t1, Bool.true_and])
    go_enter Tryz.func61, Tryz.ntmps61
    go_wp2_with fail
    go_ret
    exact ⟨by rw [hf.out]; rfl, rfl⟩
  · have t1 : decide ((0 : Int) ≤ n) = false := decide_eq_false h1
    have hf := hid (show isW n = false by unfold isW; rw [t1, Bool.false_and])
    go_enter Tryz.func61, Tryz.ntmps61
    go_wp2_with fail
    go_ret
    exact ⟨by rw [hf.out]; rfl, rfl⟩
def inB (n a b : Int) : Bool := decide (a ≤ n) && decide (n ≤ b)
theorem l1In_any (n a b : Int) (w : World) : Calls Tryz.prog 37 #[.int .i64 n, .int .i64 a, .int .i64 b] w fun e w' => e = .returned (.bool (inB n a b)) ∧ w = w' := by
  by_cases h1 : a ≤ n
  · have t1 : decide (a ≤ n) = true := decide_eq_true h1
    have hf := hid (show inB n a b = decide (n ≤ b) by unfold inB; rw [t1, Bool.true_and])
    go_enter Tryz.func37, Tryz.ntmps37
    go_wp2_with fail
    go_ret
    exact ⟨by rw [hf.out]; rfl, rfl⟩
  · have t1 : decide (a ≤ n) = false := decide_eq_false h1
    have hf := hid (show inB n a b = false by unfold inB; rw [t1, Bool.false_and])
    go_enter Tryz.func37, Tryz.ntmps37
    go_wp2_with fail
    go_ret
    exact ⟨by rw [hf.out]; rfl, rfl⟩
theorem sisWord_any (n : Int) (w : World) : Calls Tryz.prog 67 #[.int .i64 n] w fun e w' => e = .returned (.bool (isW n)) ∧ w = w' := by
  have hq := hid (l1In_any n 0 3 w)
  have hf := hid (show inB n 0 3 = isW n by unfold inB isW; congr 1; apply decide_eq_decide.2; omega)
  go_enter Tryz.func67, Tryz.ntmps67
  go_wp2_with fail
  refine hq.out.mono ?_
  rw [hf.out]
  rintro e w' ⟨rfl, rfl⟩
  go_wp2_with fail
  go_ret
  exact ⟨rfl, rfl⟩
theorem isOp_any (n : Int) (w : World) : Calls Tryz.prog 151 #[.int .i64 n] w fun e w' => e = .returned (.bool (inB n 1 8)) ∧ w = w' := by
  by_cases h1 : 1 ≤ n
  · have t1 : decide (1 ≤ n) = true := decide_eq_true h1
    have hf := hid (show inB n 1 8 = decide (n ≤ 8) by unfold inB; rw [t1, Bool.true_and])
    go_enter Tryz.func151, Tryz.ntmps151
    go_wp2_with fail
    go_ret
    exact ⟨by rw [hf.out]; rfl, rfl⟩
  · have t1 : decide (1 ≤ n) = false := decide_eq_false h1
    have hf := hid (show inB n 1 8 = false by unfold inB; rw [t1, Bool.false_and])
    go_enter Tryz.func151, Tryz.ntmps151
    go_wp2_with fail
    go_ret
    exact ⟨by rw [hf.out]; rfl, rfl⟩
def bit (b : Bool) : Int := if b then 1 else 0
theorem sbit_any (b : Bool) (w : World) : Calls Tryz.prog 145 #[.bool b] w fun e w' => e = .returned (.int .i64 (bit b)) ∧ w = w' := by
  cases b
  all_goals
    go_enter Tryz.func145, Tryz.ntmps145
    go_wp2_with fail
    go_ret
    exact ⟨rfl, rfl⟩
theorem truth_any (b : Bool) (w : World) : Calls Tryz.prog 141 #[.bool b] w fun e w' => e = .returned (.int .i64 (bit b)) ∧ w = w' := by
  cases b
  all_goals
    go_enter Tryz.func141, Tryz.ntmps141
    go_wp2_with fail
    go_ret
    exact ⟨rfl, rfl⟩
def opV (op x y : Int) : Int :=
  if op = 1 then (x + y) % 4 else if op = 2 then (x - y) % 4 else if op = 3 then (x * y) % 4
  else if op = 4 then (if y = 0 then 0 else x / y) else if op = 5 then bit (decide (x < y)) else if op = 6 then bit (x == y)
  else if op = 7 then bit ((x != 0) && (y != 0)) else if op = 8 then bit ((x != 0) || (y != 0)) else 0
def opOk (op y : Int) : Bool := inB op 1 8 && !(op == 4 && y == 0)
end Go.Proofs.YtnmomlaimffonaaGreat.C3
set_option maxRecDepth 100000
namespace Go.Proofs.YtnmomlaimffonaaGreat.Tr
open Go.RowKit Go.Lib Go.Sort Com Mem C3 C2
def nodeB (k n : Int) (s : List UInt8) (l : Nat) : Bool :=
  if k = 1 then isW n && ((s == []) && ((l : Int) == 0))
  else if k = 2 then validB s && ((n == 0) && ((l : Int) == 0))
  else if k = 3 then inB n 1 8 && ((s == []) && ((l : Int) == 2))
  else if k = 4 then (n == 0) && ((s == []) && ((l : Int) == 1))
  else false
theorem snode1 (n : Int) (s : List UInt8) (A : Option Addr) (l c : Nat) (w : World) : Calls Tryz.prog 147 #[nv 1 n s A l c] w fun e w' => e = .returned (.bool (nodeB 1 n s l)) ∧ Below w.heap.size w w' := by
  have hb := hid (box_below w (.cells #[.int .i64 1, .int .i64 n, sv s, .slice A l c] 92))
  have h1 := sisWord_any n (w.alloc (.cells #[.int .i64 1, .int .i64 n, sv s, .slice A l c] 92))
  have hv := hid (show nodeB 1 n s l = (isW n && ((s == []) && ((l : Int) == 0))) by simp [nodeB])
  cases t1 : isW n
  · rw [t1] at h1
    have h1 := hid h1
    rw [t1] at hv
    go_enter Tryz.func147, Tryz.ntmps147
    go_wp2_with fail
    refine h1.out.mono ?_
    rintro e w' ⟨rfl, rfl⟩
    go_wp2_with fail
    go_ret
    exact ⟨by rw [hv.out]; rfl, hb.out⟩
  · rw [t1] at h1
    have h1 := hid h1
    rw [t1] at hv
    cases t2 : (s == [])
    · rw [t2] at hv
      go_enter Tryz.func147, Tryz.ntmps147
      go_wp2_with fail
      refine h1.out.mono ?_
      rintro e w' ⟨rfl, rfl⟩
      go_wp2_with fail
      go_ret
      exact ⟨by rw [hv.out]; rfl, hb.out⟩
    · rw [t2] at hv
      go_enter Tryz.func147, Tryz.ntmps147
      go_wp2_with fail
      refine h1.out.mono ?_
      rintro e w' ⟨rfl, rfl⟩
      go_wp2_with fail
      go_ret
      exact ⟨by rw [hv.out]; rfl, hb.out⟩
theorem snode3 (n : Int) (s : List UInt8) (A : Option Addr) (l c : Nat) (w : World) : Calls Tryz.prog 147 #[nv 3 n s A l c] w fun e w' => e = .returned (.bool (nodeB 3 n s l)) ∧ Below w.heap.size w w' := by
  have hb := hid (box_below w (.cells #[.int .i64 3, .int .i64 n, sv s, .slice A l c] 92))
  have h1 := l1In_any n 1 8 (w.alloc (.cells #[.int .i64 3, .int .i64 n, sv s, .slice A l c] 92))
  have hv := hid (show nodeB 3 n s l = (inB n 1 8 && ((s == []) && ((l : Int) == 2))) by simp [nodeB])
  cases t1 : inB n 1 8
  · rw [t1] at h1
    have h1 := hid h1
    rw [t1] at hv
    go_enter Tryz.func147, Tryz.ntmps147
    go_wp2_with fail
    refine h1.out.mono ?_
    rintro e w' ⟨rfl, rfl⟩
    go_wp2_with fail
    go_ret
    exact ⟨by rw [hv.out]; rfl, hb.out⟩
  · rw [t1] at h1
    have h1 := hid h1
    rw [t1] at hv
    cases t2 : (s == [])
    · rw [t2] at hv
      go_enter Tryz.func147, Tryz.ntmps147
      go_wp2_with fail
      refine h1.out.mono ?_
      rintro e w' ⟨rfl, rfl⟩
      go_wp2_with fail
      go_ret
      exact ⟨by rw [hv.out]; rfl, hb.out⟩
    · rw [t2] at hv
      go_enter Tryz.func147, Tryz.ntmps147
      go_wp2_with fail
      refine h1.out.mono ?_
      rintro e w' ⟨rfl, rfl⟩
      go_wp2_with fail
      go_ret
      exact ⟨by rw [hv.out]; rfl, hb.out⟩
theorem snode4 (n : Int) (s : List UInt8) (A : Option Addr) (l c : Nat) (w : World) : Calls Tryz.prog 147 #[nv 4 n s A l c] w fun e w' => e = .returned (.bool (nodeB 4 n s l)) ∧ Below w.heap.size w w' := by
  have hb := hid (box_below w (.cells #[.int .i64 4, .int .i64 n, sv s, .slice A l c] 92))
  have hv := hid (show nodeB 4 n s l = ((n == 0) && ((s == []) && ((l : Int) == 1))) by simp [nodeB])
  cases t1 : (n == 0)
  · rw [t1] at hv
    go_enter Tryz.func147, Tryz.ntmps147
    go_wp2_with fail
    go_ret
    exact ⟨by rw [hv.out]; rfl, hb.out⟩
  · rw [t1] at hv
    cases t2 : (s == [])
    · rw [t2] at hv
      go_enter Tryz.func147, Tryz.ntmps147
      go_wp2_with fail
      go_ret
      exact ⟨by rw [hv.out]; rfl, hb.out⟩
    · rw [t2] at hv
      go_enter Tryz.func147, Tryz.ntmps147
      go_wp2_with fail
      go_ret
      exact ⟨by rw [hv.out]; rfl, hb.out⟩
theorem snode2 (n : Int) (s : List UInt8) (hsl : s.length ≤ 9223372036854775807) (A : Option Addr) (l c : Nat) (w : World) : Calls Tryz.prog 147 #[nv 2 n s A l c] w fun e w' => e = .returned (.bool (nodeB 2 n s l)) ∧ Below w.heap.size w w' := by
  have hb := hid (box_below w (.cells #[.int .i64 2, .int .i64 n, sv s, .slice A l c] 92))
  have hB := hid (box_blk w 2 n s A l c 92)
  have h1 := svalid_any s (w.alloc (.cells #[.int .i64 2, .int .i64 n, sv s, .slice A l c] 92)) hsl
  have hv := hid (show nodeB 2 n s l = (validB s && ((n == 0) && ((l : Int) == 0))) by simp [nodeB])
  cases t1 : validB s
  · rw [t1] at h1
    have h1 := hid h1
    rw [t1] at hv
    go_enter Tryz.func147, Tryz.ntmps147
    go_wp2_with fail
    refine h1.out.mono ?_
    rintro e w' ⟨rfl, hb2⟩
    have b1 : w'.cell? ⟨w.heap.size, 1, none⟩ = some (.int .i64 n) := (hB.out.below hb2 hB.out.lt).cell 1
    have b3 : w'.cell? ⟨w.heap.size, 3, none⟩ = some (.slice A l c) := (hB.out.below hb2 hB.out.lt).cell 3
    have hb3 := hid (hb.out.trans (hb2.mono hb.out.size))
    clear hb2
    go_wp2_with fail
    go_ret
    exact ⟨by rw [hv.out]; rfl, hb3.out⟩
  · rw [t1] at h1
    have h1 := hid h1
    rw [t1] at hv
    cases t2 : (n == 0)
    · rw [t2] at hv
      go_enter Tryz.func147, Tryz.ntmps147
      go_wp2_with fail
      refine h1.out.mono ?_
      rintro e w' ⟨rfl, hb2⟩
      have b1 : w'.cell? ⟨w.heap.size, 1, none⟩ = some (.int .i64 n) := (hB.out.below hb2 hB.out.lt).cell 1
      have b3 : w'.cell? ⟨w.heap.size, 3, none⟩ = some (.slice A l c) := (hB.out.below hb2 hB.out.lt).cell 3
      have hb3 := hid (hb.out.trans (hb2.mono hb.out.size))
      clear hb2
      go_wp2_with fail
      go_ret
      exact ⟨by rw [hv.out]; rfl, hb3.out⟩
    · rw [t2] at hv
      go_enter Tryz.func147, Tryz.ntmps147
      go_wp2_with fail
      refine h1.out.mono ?_
      rintro e w' ⟨rfl, hb2⟩
      have b1 : w'.cell? ⟨w.heap.size, 1, none⟩ = some (.int .i64 n) := (hB.out.below hb2 hB.out.lt).cell 1
      have b3 : w'.cell? ⟨w.heap.size, 3, none⟩ = some (.slice A l c) := (hB.out.below hb2 hB.out.lt).cell 3
      have hb3 := hid (hb.out.trans (hb2.mono hb.out.size))
      clear hb2
      go_wp2_with fail
      go_ret
      exact ⟨by rw [hv.out]; rfl, hb3.out⟩
theorem snode_not (k n : Int) (s : List UInt8) (A : Option Addr) (l c : Nat) (w : World) (h1 : k ≠ 1) (h2 : k ≠ 2) (h3 : k ≠ 3) (h4 : k ≠ 4) : Calls Tryz.prog 147 #[nv k n s A l c] w fun e w' => e = .returned (.bool (nodeB k n s l)) ∧ Below w.heap.size w w' := by
  have hb := hid (box_below w (.cells #[.int .i64 k, .int .i64 n, sv s, .slice A l c] 92))
  have hv := hid (show nodeB k n s l = false by unfold nodeB; rw [if_neg h1, if_neg h2, if_neg h3, if_neg h4])
  have e1 : (k == 1) = false := beq_false_of_ne h1
  have e2 : (k == 2) = false := beq_false_of_ne h2
  have e3 : (k == 3) = false := beq_false_of_ne h3
  have e4 : (k == 4) = false := beq_false_of_ne h4
  clear h1 h2 h3 h4
  go_enter Tryz.func147, Tryz.ntmps147
  go_wp2_with fail
  go_ret
  exact ⟨by rw [hv.out]; rfl, hb.out⟩
theorem snode (k n : Int) (s : List UInt8) (hsl : s.length ≤ 9223372036854775807) (A : Option Addr) (l c : Nat) (w : World) : Calls Tryz.prog 147 #[nv k n s A l c] w fun e w' => e = .returned (.bool (nodeB k n s l)) ∧ Below w.heap.size w w' := by
  by_cases h1 : k = 1
  · subst h1; exact snode1 n s A l c w
  by_cases h2 : k = 2
  · subst h2; exact snode2 n s hsl A l c w
  by_cases h3 : k = 3
  · subst h3; exact snode3 n s A l c w
  by_cases h4 : k = 4
  · subst h4; exact snode4 n s A l c w
  exact snode_not k n s A l c w h1 h2 h3 h4
def allT : T → Bool
  | .mk k n s ks => (ks.attach.all fun ⟨a, _⟩ => allT a) && nodeB k n s ks.length
termination_by t => SizeOf.sizeOf t
decreasing_by have := List.sizeOf_lt_of_mem ‹_›; simp only [T.mk.sizeOf_spec]; omega
theorem allT_mk (k n : Int) (s : List UInt8) (ks : List T) : allT (.mk k n s ks) = (ks.all allT && nodeB k n s ks.length) := by
  rw [allT]; simp
theorem all_not {ks : List T} {m : Nat} (h : m < ks.length) (hf : allT ks[m] = false) : ks.all allT = false := by
  cases hq : ks.all allT with
  | false => rfl
  | true => rw [List.all_eq_true.1 hq _ (List.getElem_mem h)] at hf; cases hf
theorem all_yes {ks : List T} (h : ∀ j, (hj : j < ks.length) → allT ks[j] = true) : ks.all allT = true := by
  rw [List.all_eq_true]
  intro a ha
  obtain ⟨j, hj, rfl⟩ := List.mem_iff_getElem.1 ha
  exact h j hj
theorem sall (t : T) : ∀ (v : Value) (w : World), Ex w w.heap.size v t → Calls Tryz.prog 133 #[v] w fun e w' => e = .returned (.bool (allT t)) ∧ Below w.heap.size w w' := by
  induction t using T.ind with
  | h k n s ks ih =>
    intro v w hv
    obtain ⟨A, c, vs, rfl, hs, hl, hk⟩ := hv.kids
    have hb1 := box_below w (.cells #[.int .i64 k, .int .i64 n, sv s, .slice A ks.length c] 92)
    have hblk := hid (box_blk w k n s A ks.length c 92)
    have hk1 := hid (hk.go hb1)
    have hmk := hid (allT_mk k n s ks)
    have hnode := hid (snode k n s hs A ks.length c)
    have hb1 := hid hb1
    clear hk hv
    generalize hL : ks.length = N at *
    go_enter Tryz.func133, Tryz.ntmps133
    go_wp2_with fail
    generalize (w.alloc (.cells #[.int .i64 k, .int .i64 n, sv s, .slice A N c] 92)) = w1 at *
    go_loopw [3] (fun i wr => ∃ m : Nat, m ≤ N ∧ i = .int .i64 m ∧ (∀ j, (hj : j < ks.length) → j < m → allT ks[j] = true) ∧ Below w1.heap.size w1 wr) (fun i _ => N - (Go.RowKit.intOf i).toNat)
    case atStart => exact ⟨0, Nat.zero_le _, rfl, fun j _ h => by omega, Below.refl _ _⟩
    case round =>
      obtain ⟨m, hm, rfl, hall, hb⟩ := hrel
      have hblk2 := hblk.out.below hb hblk.out.lt
      have b3 : wr.cell? ⟨w.heap.size, 3, none⟩ = some (.slice A N c) := hblk2.cell 3
      have hall := hid hall
      by_cases hlt : m < N
      · have hkr := hk1.out.go hb
        obtain ⟨ad, rfl, _, c0, c1, c2, c3, e, k0, k1, k2, k3⟩ := hkr.cell m (by omega)
        have hkid := hkr.kid m _ (List.getElem?_eq_getElem (by omega))
        have hck := ih ks[m] (List.getElem_mem _) _ wr hkid
        rw [e] at hck
        have hb := hid hb
        have hno := hid (fun (hf : allT ks[m] = false) => all_not (ks := ks) (m := m) (by omega) hf)
        have hyes := hid (fun (hf : allT ks[m] = true) (j : Nat) (hj : j < ks.length) (hjm : j < m + 1) => show allT ks[j] = true from by
          by_cases e : j = m
          · subst e; exact hf
          · exact hall.out j hj (by omega))
        clear hkid hkr e hblk2
        cases ha : allT ks[m] with
        | true =>
          rw [ha] at hck
          have hck := hid hck
          have hy := hid (hyes.out ha)
          go_wp2_with fail
          refine hck.out.mono ?_
          rintro e w2 ⟨rfl, hb2⟩
          have hb2 := hid (hb.out.trans (hb2.mono hb.out.size))
          go_wp2_with fail
          exact ⟨⟨m + 1, hlt, by go_num, hy.out, hb2.out⟩, by simp [Go.RowKit.intOf]; omega⟩
        | false =>
          rw [ha] at hck
          have hck := hid hck
          have hf := hid (show allT (.mk k n s ks) = false by rw [hmk.out, hno.out ha]; rfl)
          go_wp2_with fail
          refine hck.out.mono ?_
          rintro e w2 ⟨rfl, hb2⟩
          have hb2 := hid (hb.out.trans (hb2.mono hb.out.size))
          go_wp2_with fail
          go_ret
          exact ⟨by rw [hf.out]; rfl, hb1.out.trans (hb2.out.mono hb1.out.size)⟩
      · obtain rfl : m = N := by omega
        have hf := hid (show allT (.mk k n s ks) = nodeB k n s m by
          rw [hmk.out, all_yes (fun j hj => hall.out j hj (by omega)), Bool.true_and])
        have b0 : wr.cell? ⟨w.heap.size, 0, none⟩ = some (.int .i64 k) := hblk2.cell 0
        have b1 : wr.cell? ⟨w.heap.size, 1, none⟩ = some (.int .i64 n) := hblk2.cell 1
        have b2 : wr.cell? ⟨w.heap.size, 2, none⟩ = some (sv s) := hblk2.cell 2
        have hck := hid (hnode.out wr)
        have hb := hid hb
        clear hblk2
        go_wp2_with fail
        refine hck.out.mono ?_
        rintro e w2 ⟨rfl, hb2⟩
        have hb2 := hid (hb.out.trans (hb2.mono hb.out.size))
        go_wp2_with fail
        go_ret
        exact ⟨by rw [hf.out]; rfl, hb1.out.trans (hb2.out.mono hb1.out.size)⟩
def okT (t : T) : Bool := decide (cntT t ≤ 12) && (decide (depT t ≤ 5) && allT t)
theorem svalidE (t : T) (v : Value) (w : World) (hv : Ex w w.heap.size v t) (hbd : cntT t ≤ 2000000) : Calls Tryz.prog 116 #[v] w fun e w' => e = .returned (.bool (okT t)) ∧ Below w.heap.size w w' := by
  obtain ⟨k, n, s, ks⟩ := t
  obtain ⟨A, c, vs, rfl, hs, hl, hk⟩ := hv.kids
  have hb1 := box_below w (.cells #[.int .i64 k, .int .i64 n, sv s, .slice A ks.length c] 92)
  have hblk := hid (box_blk w k n s A ks.length c 92)
  have hv1 := hid (hv.go hb1)
  have hb1 := hid hb1
  have hdc := dep_cnt (.mk k n s ks)
  generalize hT : T.mk k n s ks = t at *
  have c1 := sleft t 12 _ _ hv1.out (by omega) (by omega)
  clear hk hv
  have hok := hid (show okT t = (decide (cntT t ≤ 12) && (decide (depT t ≤ 5) && allT t)) from rfl)
  by_cases h1 : cntT t ≤ 12
  · rw [decide_eq_true h1] at hok
    have e1 : szAns (cntT t) 12 = 12 - (cntT t : Int) := by unfold szAns; rw [if_pos (by omega)]
    rw [e1] at c1
    have c1 := hid c1
    have t1 : decide (0 ≤ 12 - (cntT t : Int)) = true := decide_eq_true (by omega)
    clear e1
    go_enter Tryz.func116, Tryz.ntmps116
    go_wp2_with fail
    refine c1.out.mono ?_
    rintro e w2 ⟨rfl, hb2⟩
    have hblk2 := hblk.out.below hb2 hblk.out.lt
    have b0 : w2.cell? ⟨w.heap.size, 0, none⟩ = some (.int .i64 k) := hblk2.cell 0
    have b1 : w2.cell? ⟨w.heap.size, 1, none⟩ = some (.int .i64 n) := hblk2.cell 1
    have b2 : w2.cell? ⟨w.heap.size, 2, none⟩ = some (sv s) := hblk2.cell 2
    have b3 : w2.cell? ⟨w.heap.size, 3, none⟩ = some (.slice A ks.length c) := hblk2.cell 3
    have hv2 := hid (hv1.out.go hb2)
    have c2 := hid (sdepth t _ w2 hv2.out (by omega))
    have hblk2 := hid hblk2
    have hb2 := hid (hb1.out.trans (hb2.mono hb1.out.size))
    go_wp2_with fail
    refine c2.out.mono ?_
    rintro e w3 ⟨rfl, hb3⟩
    have hblk3 := hblk2.out.below hb3 hblk2.out.lt
    clear b0 b1 b2 b3
    have b0 : w3.cell? ⟨w.heap.size, 0, none⟩ = some (.int .i64 k) := hblk3.cell 0
    have b1 : w3.cell? ⟨w.heap.size, 1, none⟩ = some (.int .i64 n) := hblk3.cell 1
    have b2 : w3.cell? ⟨w.heap.size, 2, none⟩ = some (sv s) := hblk3.cell 2
    have b3 : w3.cell? ⟨w.heap.size, 3, none⟩ = some (.slice A ks.length c) := hblk3.cell 3
    have hv3 := hid (hv2.out.go hb3)
    have c3 := hid (sall t _ w3 hv3.out)
    have hb3 := hid (hb2.out.trans (hb3.mono hb2.out.size))
    clear hblk3
    by_cases h2 : depT t ≤ 5
    · rw [decide_eq_true h2] at hok
      have t2 : decide ((depT t : Int) ≤ 5) = true := decide_eq_true (by omega)
      go_wp2_with fail
      refine c3.out.mono ?_
      rintro e w4 ⟨rfl, hb4⟩
      have hb4 := hid (hb3.out.trans (hb4.mono hb3.out.size))
      go_wp2_with fail
      go_ret
      exact ⟨by rw [hok.out]; rfl, hb4.out⟩
    · rw [decide_eq_false h2] at hok
      have t2 : decide ((depT t : Int) ≤ 5) = false := decide_eq_false (by omega)
      go_wp2_with fail
      go_ret
      exact ⟨by rw [hok.out]; rfl, hb3.out⟩
  · rw [decide_eq_false h1] at hok
    have e1 : szAns (cntT t) 12 = -1 := by unfold szAns; rw [if_neg (by omega)]
    rw [e1] at c1
    have c1 := hid c1
    clear e1
    go_enter Tryz.func116, Tryz.ntmps116
    go_wp2_with fail
    refine c1.out.mono ?_
    rintro e w2 ⟨rfl, hb2⟩
    have hb2 := hid (hb1.out.trans (hb2.mono hb1.out.size))
    go_wp2_with fail
    go_ret
    exact ⟨by rw [hok.out]; rfl, hb2.out⟩
end Go.Proofs.YtnmomlaimffonaaGreat.Tr
set_option maxRecDepth 100000
namespace Go.Proofs.YtnmomlaimffonaaGreat.C3
open Go.RowKit Go.Lib Com Mem
def ans (a : Int) (b : Bool) : Value := .tuple #[.int .i64 a, .bool b]
theorem word_lo (x : Int) : 0 ≤ x % 4 := by omega
theorem word_hi (x : Int) : x % 4 < 4 := by omega
theorem inB_lit (k : Int) (h1 : 1 ≤ k) (h2 : k ≤ 8) : inB k 1 8 = true := by simp [inB]; omega
theorem inB_not (k : Int) (h : k < 1 ∨ 8 < k) : inB k 1 8 = false := by
  cases h' : inB k 1 8 with
  | false => rfl
  | true => simp only [inB, Bool.and_eq_true, decide_eq_true_eq] at h'; omega
theorem op_cases {k : Int} (h1 : 1 ≤ k) (h2 : k ≤ 8) : k = 1 ∨ k = 2 ∨ k = 3 ∨ k = 4 ∨ k = 5 ∨ k = 6 ∨ k = 7 ∨ k = 8 := by omega
def appV (k x y : Int) : Int := opV k (x % 4) (y % 4)
def appOk (k y : Int) : Bool := opOk k (y % 4)
theorem opV_not {k x y : Int} (h : k < 1 ∨ 8 < k) : opV k x y = 0 := by unfold opV; repeat (rw [if_neg (by omega)])
theorem opOk_not {k y : Int} (h : k < 1 ∨ 8 < k) : opOk k y = false := by unfold opOk; rw [inB_not k h, Bool.false_and]
open Go.Sort
theorem sapply1 (x y : Int) (w : World) : Calls Tryz.prog 146 #[.int .i64 1, .int .i64 x, .int .i64 y] w fun e w' => e = .returned (ans (opV 1 (x % 4) (y % 4)) (true)) ∧ w = w' := by
  have h1 := hid (swrap_any x w)
  have h2 := hid (swrap_any y w)
  have wx := word_lo x
  have wx2 := word_hi x
  have wy := word_lo y
  have wy2 := word_hi y
  generalize x % 4 = u at *
  generalize y % 4 = v at *
  have h3 := hid (swrap_any (u + v) w)
  have hv := hid (show opV 1 u v = (u + v) % 4 by simp [opV])
  go_enter Tryz.func146, Tryz.ntmps146
  go_wp2_with fail
  refine h1.out.mono ?_
  rintro e w1 ⟨rfl, rfl⟩
  go_wp2_with fail
  refine h2.out.mono ?_
  rintro e w1 ⟨rfl, rfl⟩
  go_wp2_with fail
  refine h3.out.mono ?_
  rintro e w1 ⟨rfl, rfl⟩
  go_wp2_with fail
  go_ret2
  exact ⟨by rw [hv.out]; rfl, rfl⟩
theorem sapply2 (x y : Int) (w : World) : Calls Tryz.prog 146 #[.int .i64 2, .int .i64 x, .int .i64 y] w fun e w' => e = .returned (ans (opV 2 (x % 4) (y % 4)) (true)) ∧ w = w' := by
  have h1 := hid (swrap_any x w)
  have h2 := hid (swrap_any y w)
  have wx := word_lo x
  have wx2 := word_hi x
  have wy := word_lo y
  have wy2 := word_hi y
  generalize x % 4 = u at *
  generalize y % 4 = v at *
  have h3 := hid (swrap_any (u - v) w)
  have hv := hid (show opV 2 u v = (u - v) % 4 by simp [opV])
  go_enter Tryz.func146, Tryz.ntmps146
  go_wp2_with fail
  refine h1.out.mono ?_
  rintro e w1 ⟨rfl, rfl⟩
  go_wp2_with fail
  refine h2.out.mono ?_
  rintro e w1 ⟨rfl, rfl⟩
  go_wp2_with fail
  refine h3.out.mono ?_
  rintro e w1 ⟨rfl, rfl⟩
  go_wp2_with fail
  go_ret2
  exact ⟨by rw [hv.out]; rfl, rfl⟩
theorem sapply3 (x y : Int) (w : World) : Calls Tryz.prog 146 #[.int .i64 3, .int .i64 x, .int .i64 y] w fun e w' => e = .returned (ans (opV 3 (x % 4) (y % 4)) (true)) ∧ w = w' := by
  have h1 := hid (swrap_any x w)
  have h2 := hid (swrap_any y w)
  have wx := word_lo x
  have wx2 := word_hi x
  have wy := word_lo y
  have wy2 := word_hi y
  generalize x % 4 = u at *
  generalize y % 4 = v at *
  have hm : 0 ≤ u * v ∧ u * v ≤ 9 := ⟨Int.mul_nonneg (by omega) (by omega), by
    have h1 : u * v ≤ 3 * v := Int.mul_le_mul_of_nonneg_right (by omega) (by omega)
    omega⟩
  have hin : wrap64 (u * v) = u * v := by unfold wrap64; omega
  have h3 := hid (swrap_any (u * v) w)
  have hv := hid (show opV 3 u v = (u * v) % 4 by simp [opV])
  go_enter Tryz.func146, Tryz.ntmps146
  go_wp2_with fail
  refine h1.out.mono ?_
  rintro e w1 ⟨rfl, rfl⟩
  go_wp2_with fail
  refine h2.out.mono ?_
  rintro e w1 ⟨rfl, rfl⟩
  go_wp2_with fail
  refine h3.out.mono ?_
  rintro e w1 ⟨rfl, rfl⟩
  go_wp2_with fail
  go_ret2
  exact ⟨by rw [hv.out]; rfl, rfl⟩
theorem sapply4 (x y : Int) (w : World) : Calls Tryz.prog 146 #[.int .i64 4, .int .i64 x, .int .i64 y] w fun e w' => e = .returned (ans (opV 4 (x % 4) (y % 4)) (opOk 4 (y % 4))) ∧ w = w' := by
  have h1 := hid (swrap_any x w)
  have h2 := hid (swrap_any y w)
  have wx := word_lo x
  have wx2 := word_hi x
  have wy := word_lo y
  have wy2 := word_hi y
  generalize x % 4 = u at *
  generalize y % 4 = v at *
  by_cases hz : 0 < v
  · have t1 : decide (0 < v) = true := decide_eq_true hz
    have hv := hid (show opV 4 u v = u / v by simp [opV]; omega)
    have ho := hid (show opOk 4 v = true by simp [opOk, inB]; omega)
    go_enter Tryz.func146, Tryz.ntmps146
    go_wp2_with fail
    refine h1.out.mono ?_
    rintro e w1 ⟨rfl, rfl⟩
    go_wp2_with fail
    refine h2.out.mono ?_
    rintro e w1 ⟨rfl, rfl⟩
    go_wp2_with fail
    go_ret2
    exact ⟨by rw [hv.out, ho.out]; rfl, rfl⟩
  · have t1 : decide (0 < v) = false := decide_eq_false hz
    have hv := hid (show opV 4 u v = 0 by simp [opV]; omega)
    have ho := hid (show opOk 4 v = false by simp [opOk, inB]; omega)
    clear hz
    go_enter Tryz.func146, Tryz.ntmps146
    go_wp2_with fail
    refine h1.out.mono ?_
    rintro e w1 ⟨rfl, rfl⟩
    go_wp2_with fail
    refine h2.out.mono ?_
    rintro e w1 ⟨rfl, rfl⟩
    go_wp2_with fail
    go_ret2
    exact ⟨by rw [hv.out, ho.out]; rfl, rfl⟩
theorem sapply5 (x y : Int) (w : World) : Calls Tryz.prog 146 #[.int .i64 5, .int .i64 x, .int .i64 y] w fun e w' => e = .returned (ans (opV 5 (x % 4) (y % 4)) (true)) ∧ w = w' := by
  have h1 := hid (swrap_any x w)
  have h2 := hid (swrap_any y w)
  have wx := word_lo x
  have wx2 := word_hi x
  have wy := word_lo y
  have wy2 := word_hi y
  generalize x % 4 = u at *
  generalize y % 4 = v at *
  have h3 := hid (sbit_any (decide (u < v)) w)
  have hv := hid (show opV 5 u v = bit (decide (u < v)) by simp [opV])
  go_enter Tryz.func146, Tryz.ntmps146
  go_wp2_with fail
  refine h1.out.mono ?_
  rintro e w1 ⟨rfl, rfl⟩
  go_wp2_with fail
  refine h2.out.mono ?_
  rintro e w1 ⟨rfl, rfl⟩
  go_wp2_with fail
  refine h3.out.mono ?_
  rintro e w1 ⟨rfl, rfl⟩
  go_wp2_with fail
  go_ret2
  exact ⟨by rw [hv.out]; rfl, rfl⟩
theorem sapply6 (x y : Int) (w : World) : Calls Tryz.prog 146 #[.int .i64 6, .int .i64 x, .int .i64 y] w fun e w' => e = .returned (ans (opV 6 (x % 4) (y % 4)) (true)) ∧ w = w' := by
  have h1 := hid (swrap_any x w)
  have h2 := hid (swrap_any y w)
  have wx := word_lo x
  have wx2 := word_hi x
  have wy := word_lo y
  have wy2 := word_hi y
  generalize x % 4 = u at *
  generalize y % 4 = v at *
  have h3 := hid (sbit_any (u == v) w)
  have hv := hid (show opV 6 u v = bit (u == v) by simp [opV])
  go_enter Tryz.func146, Tryz.ntmps146
  go_wp2_with fail
  refine h1.out.mono ?_
  rintro e w1 ⟨rfl, rfl⟩
  go_wp2_with fail
  refine h2.out.mono ?_
  rintro e w1 ⟨rfl, rfl⟩
  go_wp2_with fail
  refine h3.out.mono ?_
  rintro e w1 ⟨rfl, rfl⟩
  go_wp2_with fail
  go_ret2
  exact ⟨by rw [hv.out]; rfl, rfl⟩
theorem sapply7 (x y : Int) (w : World) : Calls Tryz.prog 146 #[.int .i64 7, .int .i64 x, .int .i64 y] w fun e w' => e = .returned (ans (opV 7 (x % 4) (y % 4)) (true)) ∧ w = w' := by
  have h1 := hid (swrap_any x w)
  have h2 := hid (swrap_any y w)
  have wx := word_lo x
  have wx2 := word_hi x
  have wy := word_lo y
  have wy2 := word_hi y
  generalize x % 4 = u at *
  generalize y % 4 = v at *
  cases t1 : (u != 0)
  · have h3 := hid (sbit_any (false) w)
    have hv := hid (show opV 7 u v = bit (false) by simp [opV, t1])
    go_enter Tryz.func146, Tryz.ntmps146
    go_wp2_with fail
    refine h1.out.mono ?_
    rintro e w1 ⟨rfl, rfl⟩
    go_wp2_with fail
    refine h2.out.mono ?_
    rintro e w1 ⟨rfl, rfl⟩
    go_wp2_with fail
    refine h3.out.mono ?_
    rintro e w1 ⟨rfl, rfl⟩
    go_wp2_with fail
    go_ret2
    exact ⟨by rw [hv.out]; rfl, rfl⟩
  · have h3 := hid (sbit_any (v != 0) w)
    have hv := hid (show opV 7 u v = bit (v != 0) by simp [opV, t1])
    go_enter Tryz.func146, Tryz.ntmps146
    go_wp2_with fail
    refine h1.out.mono ?_
    rintro e w1 ⟨rfl, rfl⟩
    go_wp2_with fail
    refine h2.out.mono ?_
    rintro e w1 ⟨rfl, rfl⟩
    go_wp2_with fail
    refine h3.out.mono ?_
    rintro e w1 ⟨rfl, rfl⟩
    go_wp2_with fail
    go_ret2
    exact ⟨by rw [hv.out]; rfl, rfl⟩
theorem sapply8 (x y : Int) (w : World) : Calls Tryz.prog 146 #[.int .i64 8, .int .i64 x, .int .i64 y] w fun e w' => e = .returned (ans (opV 8 (x % 4) (y % 4)) (true)) ∧ w = w' := by
  have h1 := hid (swrap_any x w)
  have h2 := hid (swrap_any y w)
  have wx := word_lo x
  have wx2 := word_hi x
  have wy := word_lo y
  have wy2 := word_hi y
  generalize x % 4 = u at *
  generalize y % 4 = v at *
  cases t1 : (u != 0)
  · have h3 := hid (sbit_any (v != 0) w)
    have hv := hid (show opV 8 u v = bit (v != 0) by simp [opV, t1])
    go_enter Tryz.func146, Tryz.ntmps146
    go_wp2_with fail
    refine h1.out.mono ?_
    rintro e w1 ⟨rfl, rfl⟩
    go_wp2_with fail
    refine h2.out.mono ?_
    rintro e w1 ⟨rfl, rfl⟩
    go_wp2_with fail
    refine h3.out.mono ?_
    rintro e w1 ⟨rfl, rfl⟩
    go_wp2_with fail
    go_ret2
    exact ⟨by rw [hv.out]; rfl, rfl⟩
  · have h3 := hid (sbit_any (true) w)
    have hv := hid (show opV 8 u v = bit (true) by simp [opV, t1])
    go_enter Tryz.func146, Tryz.ntmps146
    go_wp2_with fail
    refine h1.out.mono ?_
    rintro e w1 ⟨rfl, rfl⟩
    go_wp2_with fail
    refine h2.out.mono ?_
    rintro e w1 ⟨rfl, rfl⟩
    go_wp2_with fail
    refine h3.out.mono ?_
    rintro e w1 ⟨rfl, rfl⟩
    go_wp2_with fail
    go_ret2
    exact ⟨by rw [hv.out]; rfl, rfl⟩
theorem sapply_not (k x y : Int) (hk : k < 1 ∨ 8 < k) (w : World) : Calls Tryz.prog 146 #[.int .i64 k, .int .i64 x, .int .i64 y] w fun e w' => e = .returned (ans 0 false) ∧ w = w' := by
  have h1 := hid (swrap_any x w)
  have h2 := hid (swrap_any y w)
  have e1 : (k == 1) = false := beq_false_of_ne (by omega)
  have e2 : (k == 2) = false := beq_false_of_ne (by omega)
  have e3 : (k == 3) = false := beq_false_of_ne (by omega)
  have e4 : (k == 4) = false := beq_false_of_ne (by omega)
  have e5 : (k == 5) = false := beq_false_of_ne (by omega)
  have e6 : (k == 6) = false := beq_false_of_ne (by omega)
  have e7 : (k == 7) = false := beq_false_of_ne (by omega)
  have e8 : (k == 8) = false := beq_false_of_ne (by omega)
  clear hk
  go_enter Tryz.func146, Tryz.ntmps146
  go_wp2_with fail
  refine h1.out.mono ?_
  rintro e w1 ⟨rfl, rfl⟩
  go_wp2_with fail
  refine h2.out.mono ?_
  rintro e w1 ⟨rfl, rfl⟩
  go_wp2_with fail
  go_ret2
  exact ⟨rfl, rfl⟩
theorem sapply_any (k x y : Int) (w : World) : Calls Tryz.prog 146 #[.int .i64 k, .int .i64 x, .int .i64 y] w fun e w' => e = .returned (.tuple #[.int .i64 (appV k x y), .bool (appOk k y)]) ∧ w = w' := by
  unfold appV appOk
  by_cases h : 1 ≤ k ∧ k ≤ 8
  · rcases op_cases h.1 h.2 with rfl | rfl | rfl | rfl | rfl | rfl | rfl | rfl
    · exact sapply1 x y w
    · exact sapply2 x y w
    · exact sapply3 x y w
    · exact sapply4 x y w
    · exact sapply5 x y w
    · exact sapply6 x y w
    · exact sapply7 x y w
    · exact sapply8 x y w
  · rw [opV_not (by omega), opOk_not (by omega)]; exact sapply_not k x y (by omega) w
end Go.Proofs.YtnmomlaimffonaaGreat.C3
