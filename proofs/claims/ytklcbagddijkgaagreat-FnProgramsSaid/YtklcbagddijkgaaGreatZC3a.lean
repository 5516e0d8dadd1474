/- Chapter 3: words and single operators. -/
import Derived.Test.YtklcbagddijkgaaGreatZCom
import Derived.Lib.QuietBelow
import Derived.BigQuiet
import Derived.Test.YtklcbagddijkgaaGreatZTr
import Derived.Test.YtklcbagddijkgaaGreatZMp
set_option maxRecDepth 100000
namespace Go.Proofs.YtklcbagddijkgaaGreat.C3
open Go.RowKit Go.Lib Go.Proofs.YtklcbagddijkgaaGreat.Com Go.Proofs.YtklcbagddijkgaaGreat.Mem

def isW (n : Int) : Bool := decide (0 ≤ n) && decide (n < 4)
theorem isW_iff {n : Int} : isW n = true ↔ 0 ≤ n ∧ n < 4 := by simp [isW]
theorem tmod_split (n : Int) : n.tmod 4 = if 0 ≤ n then n % 4 else -((-n) % 4) := by
  split
  · rename_i h; exact Int.tmod_eq_emod_of_nonneg h
  · rename_i h
    have e : n.tmod 4 = -((-n).tmod 4) := by rw [Int.neg_tmod, Int.neg_neg]
    rw [e, Int.tmod_eq_emod_of_nonneg (by omega)]
theorem wrap_eq (n : Int) : (wrap64 (n.tmod 4 + 4)).tmod 4 = n % 4 := by
  rw [tmod_split, tmod_split]
  unfold wrap64
  split <;> split <;> omega
theorem isW_wrap (n : Int) : isW (n % 4) = true := by rw [isW_iff]; omega
theorem wrap_wrap (n : Int) : n % 4 % 4 = n % 4 := by omega

set_option maxHeartbeats 400000 in
theorem isWord_any (n : Int) (w : World) : Calls Tryz.prog 121 #[.int .i64 n] w fun e w' => e = .returned (.bool (isW n)) ∧ w = w' := by
  by_cases h1 : 0 ≤ n
  · have t1 : decide ((0 : Int) ≤ n) = true := decide_eq_true h1
    have hf := hid (show isW n = decide (n < 4) by unfold isW; rw [t1, Bool.true_and])
    go_enter Tryz.func121, Tryz.ntmps121
    go_wp2_with fail
    go_ret
    exact ⟨by rw [hf.out]; rfl, rfl⟩
  · have t1 : decide ((0 : Int) ≤ n) = false := decide_eq_false h1
    have hf := hid (show isW n = false by unfold isW; rw [t1, Bool.false_and])
    go_enter Tryz.func121, Tryz.ntmps121
    go_wp2_with fail
    go_ret
    exact ⟨by rw [hf.out]; rfl, rfl⟩
def inB (n a b : Int) : Bool := decide (a ≤ n) && decide (n ≤ b)
set_option maxHeartbeats 400000 in
theorem l1In_any (n a b : Int) (w : World) : Calls Tryz.prog 120 #[.int .i64 n, .int .i64 a, .int .i64 b] w fun e w' => e = .returned (.bool (inB n a b)) ∧ w = w' := by
  by_cases h1 : a ≤ n
  · have t1 : decide (a ≤ n) = true := decide_eq_true h1
    have hf := hid (show inB n a b = decide (n ≤ b) by unfold inB; rw [t1, Bool.true_and])
    go_enter Tryz.func120, Tryz.ntmps120
    go_wp2_with fail
    go_ret
    exact ⟨by rw [hf.out]; rfl, rfl⟩
  · have t1 : decide (a ≤ n) = false := decide_eq_false h1
    have hf := hid (show inB n a b = false by unfold inB; rw [t1, Bool.false_and])
    go_enter Tryz.func120, Tryz.ntmps120
    go_wp2_with fail
    go_ret
    exact ⟨by rw [hf.out]; rfl, rfl⟩
set_option maxHeartbeats 400000 in
theorem sisWord_any (n : Int) (w : World) : Calls Tryz.prog 119 #[.int .i64 n] w fun e w' => e = .returned (.bool (isW n)) ∧ w = w' := by
  have hq := hid (l1In_any n 0 3 w)
  have hf := hid (show inB n 0 3 = isW n by unfold inB isW; congr 1; apply decide_eq_decide.2; omega)
  go_enter Tryz.func119, Tryz.ntmps119
  go_wp2_with fail
  refine hq.out.mono ?_
  rw [hf.out]
  rintro e w' ⟨rfl, rfl⟩
  go_wp2_with fail
  go_ret
  exact ⟨rfl, rfl⟩
set_option maxHeartbeats 400000 in
theorem isOp_any (n : Int) (w : World) : Calls Tryz.prog 122 #[.int .i64 n] w fun e w' => e = .returned (.bool (inB n 1 8)) ∧ w = w' := by
  by_cases h1 : 1 ≤ n
  · have t1 : decide (1 ≤ n) = true := decide_eq_true h1
    have hf := hid (show inB n 1 8 = decide (n ≤ 8) by unfold inB; rw [t1, Bool.true_and])
    go_enter Tryz.func122, Tryz.ntmps122
    go_wp2_with fail
    go_ret
    exact ⟨by rw [hf.out]; rfl, rfl⟩
  · have t1 : decide (1 ≤ n) = false := decide_eq_false h1
    have hf := hid (show inB n 1 8 = false by unfold inB; rw [t1, Bool.false_and])
    go_enter Tryz.func122, Tryz.ntmps122
    go_wp2_with fail
    go_ret
    exact ⟨by rw [hf.out]; rfl, rfl⟩
def bit (b : Bool) : Int := if b then 1 else 0

/-- what the operator does with two words -/
def opV (op x y : Int) : Int :=
  if op = 1 then (x + y) % 4 else if op = 2 then (x - y) % 4 else if op = 3 then (x * y) % 4
  else if op = 4 then (if y = 0 then 0 else x / y) else if op = 5 then bit (decide (x < y)) else if op = 6 then bit (x == y)
  else if op = 7 then bit ((x != 0) && (y != 0)) else if op = 8 then bit ((x != 0) || (y != 0)) else 0
def opOk (op y : Int) : Bool := inB op 1 8 && !(op == 4 && y == 0)
end Go.Proofs.YtklcbagddijkgaaGreat.C3

/- Expressions as trees: which are valid, by the model. -/
set_option maxRecDepth 100000
namespace Go.Proofs.YtklcbagddijkgaaGreat.Tr
open Go.RowKit Go.Lib Go.Sort Go.Proofs.YtklcbagddijkgaaGreat.Com Go.Proofs.YtklcbagddijkgaaGreat.Mem Go.Proofs.YtklcbagddijkgaaGreat.C3 Go.Proofs.YtklcbagddijkgaaGreat.C2

/-- is a node right, by its own fields and the number of its kids -/
def nodeB (k n : Int) (s : List UInt8) (l : Nat) : Bool :=
  if k = 1 then isW n && ((s == []) && ((l : Int) == 0))
  else if k = 2 then validB s && ((n == 0) && ((l : Int) == 0))
  else if k = 3 then inB n 1 8 && ((s == []) && ((l : Int) == 2))
  else if k = 4 then (n == 0) && ((s == []) && ((l : Int) == 1))
  else false

set_option maxHeartbeats 2000000 in
theorem snode1 (n : Int) (s : List UInt8) (A : Option Addr) (l c : Nat) (w : World) : Calls Tryz.prog 115 #[nv 1 n s A l c] w fun e w' => e = .returned (.bool (nodeB 1 n s l)) ∧ Below w.heap.size w w' := by
  have hb := hid (box_below w (.cells #[.int .i64 1, .int .i64 n, sv s, .slice A l c] 48))
  have h1 := sisWord_any n (w.alloc (.cells #[.int .i64 1, .int .i64 n, sv s, .slice A l c] 48))
  have hv := hid (show nodeB 1 n s l = (isW n && ((s == []) && ((l : Int) == 0))) by simp [nodeB])
  cases t1 : isW n
  · rw [t1] at h1
    have h1 := hid h1
    rw [t1] at hv
    go_enter Tryz.func115, Tryz.ntmps115
    go_wp2_with fail
    refine h1.out.mono ?_
    rintro e w' ⟨rfl, rfl⟩
    go_wp2_with fail
    go_ret
    exact ⟨by rw [hv.out]; rfl, hb.out⟩
  · rw [t1] at h1
    have h1 := hid h1
    rw [t1] at hv
    cases t2 : (s == [])
    · rw [t2] at hv
      go_enter Tryz.func115, Tryz.ntmps115
      go_wp2_with fail
      refine h1.out.mono ?_
      rintro e w' ⟨rfl, rfl⟩
      go_wp2_with fail
      go_ret
      exact ⟨by rw [hv.out]; rfl, hb.out⟩
    · rw [t2] at hv
      go_enter Tryz.func115, Tryz.ntmps115
      go_wp2_with fail
      refine h1.out.mono ?_
      rintro e w' ⟨rfl, rfl⟩
      go_wp2_with fail
      go_ret
      exact ⟨by rw [hv.out]; rfl, hb.out⟩
set_option maxHeartbeats 2000000 in
theorem snode3 (n : Int) (s : List UInt8) (A : Option Addr) (l c : Nat) (w : World) : Calls Tryz.prog 115 #[nv 3 n s A l c] w fun e w' => e = .returned (.bool (nodeB 3 n s l)) ∧ Below w.heap.size w w' := by
  have hb := hid (box_below w (.cells #[.int .i64 3, .int .i64 n, sv s, .slice A l c] 48))
  have h1 := l1In_any n 1 8 (w.alloc (.cells #[.int .i64 3, .int .i64 n, sv s, .slice A l c] 48))
  have hv := hid (show nodeB 3 n s l = (inB n 1 8 && ((s == []) && ((l : Int) == 2))) by simp [nodeB])
  cases t1 : inB n 1 8
  · rw [t1] at h1
    have h1 := hid h1
    rw [t1] at hv
    go_enter Tryz.func115, Tryz.ntmps115
    go_wp2_with fail
    refine h1.out.mono ?_
    rintro e w' ⟨rfl, rfl⟩
    go_wp2_with fail
    go_ret
    exact ⟨by rw [hv.out]; rfl, hb.out⟩
  · rw [t1] at h1
    have h1 := hid h1
    rw [t1] at hv
    cases t2 : (s == [])
    · rw [t2] at hv
      go_enter Tryz.func115, Tryz.ntmps115
      go_wp2_with fail
      refine h1.out.mono ?_
      rintro e w' ⟨rfl, rfl⟩
      go_wp2_with fail
      go_ret
      exact ⟨by rw [hv.out]; rfl, hb.out⟩
    · rw [t2] at hv
      go_enter Tryz.func115, Tryz.ntmps115
      go_wp2_with fail
      refine h1.out.mono ?_
      rintro e w' ⟨rfl, rfl⟩
      go_wp2_with fail
      go_ret
      exact ⟨by rw [hv.out]; rfl, hb.out⟩
set_option maxHeartbeats 2000000 in
theorem snode4 (n : Int) (s : List UInt8) (A : Option Addr) (l c : Nat) (w : World) : Calls Tryz.prog 115 #[nv 4 n s A l c] w fun e w' => e = .returned (.bool (nodeB 4 n s l)) ∧ Below w.heap.size w w' := by
  have hb := hid (box_below w (.cells #[.int .i64 4, .int .i64 n, sv s, .slice A l c] 48))
  have hv := hid (show nodeB 4 n s l = ((n == 0) && ((s == []) && ((l : Int) == 1))) by simp [nodeB])
  cases t1 : (n == 0)
  · rw [t1] at hv
    go_enter Tryz.func115, Tryz.ntmps115
    go_wp2_with fail
    go_ret
    exact ⟨by rw [hv.out]; rfl, hb.out⟩
  · rw [t1] at hv
    cases t2 : (s == [])
    · rw [t2] at hv
      go_enter Tryz.func115, Tryz.ntmps115
      go_wp2_with fail
      go_ret
      exact ⟨by rw [hv.out]; rfl, hb.out⟩
    · rw [t2] at hv
      go_enter Tryz.func115, Tryz.ntmps115
      go_wp2_with fail
      go_ret
      exact ⟨by rw [hv.out]; rfl, hb.out⟩
set_option maxHeartbeats 2000000 in
theorem snode2 (n : Int) (s : List UInt8) (hsl : s.length ≤ 9223372036854775807) (A : Option Addr) (l c : Nat) (w : World) : Calls Tryz.prog 115 #[nv 2 n s A l c] w fun e w' => e = .returned (.bool (nodeB 2 n s l)) ∧ Below w.heap.size w w' := by
  have hb := hid (box_below w (.cells #[.int .i64 2, .int .i64 n, sv s, .slice A l c] 48))
  have hB := hid (box_blk w 2 n s A l c 48)
  have h1 := svalid_any s (w.alloc (.cells #[.int .i64 2, .int .i64 n, sv s, .slice A l c] 48)) hsl
  have hv := hid (show nodeB 2 n s l = (validB s && ((n == 0) && ((l : Int) == 0))) by simp [nodeB])
  cases t1 : validB s
  · rw [t1] at h1
    have h1 := hid h1
    rw [t1] at hv
    go_enter Tryz.func115, Tryz.ntmps115
    go_wp2_with fail
    refine h1.out.mono ?_
    rintro e w' ⟨rfl, hb2⟩
    have b1 : w'.cell? ⟨w.heap.size, 1, none⟩ = some (.int .i64 n) := (hB.out.below hb2 hB.out.lt).cell 1
    have b3 : w'.cell? ⟨w.heap.size, 3, none⟩ = some (.slice A l c) := (hB.out.below hb2 hB.out.lt).cell 3
    have hb3 := hid (hb.out.trans (hb2.mono hb.out.size))
    clear hb2
    go_wp2_with fail
    go_ret
    exact ⟨by rw [hv.out]; rfl, hb3.out⟩
  · rw [t1] at h1
    have h1 := hid h1
    rw [t1] at hv
    cases t2 : (n == 0)
    · rw [t2] at hv
      go_enter Tryz.func115, Tryz.ntmps115
      go_wp2_with fail
      refine h1.out.mono ?_
      rintro e w' ⟨rfl, hb2⟩
      have b1 : w'.cell? ⟨w.heap.size, 1, none⟩ = some (.int .i64 n) := (hB.out.below hb2 hB.out.lt).cell 1
      have b3 : w'.cell? ⟨w.heap.size, 3, none⟩ = some (.slice A l c) := (hB.out.below hb2 hB.out.lt).cell 3
      have hb3 := hid (hb.out.trans (hb2.mono hb.out.size))
      clear hb2
      go_wp2_with fail
      go_ret
      exact ⟨by rw [hv.out]; rfl, hb3.out⟩
    · rw [t2] at hv
      go_enter Tryz.func115, Tryz.ntmps115
      go_wp2_with fail
      refine h1.out.mono ?_
      rintro e w' ⟨rfl, hb2⟩
      have b1 : w'.cell? ⟨w.heap.size, 1, none⟩ = some (.int .i64 n) := (hB.out.below hb2 hB.out.lt).cell 1
      have b3 : w'.cell? ⟨w.heap.size, 3, none⟩ = some (.slice A l c) := (hB.out.below hb2 hB.out.lt).cell 3
      have hb3 := hid (hb.out.trans (hb2.mono hb.out.size))
      clear hb2
      go_wp2_with fail
      go_ret
      exact ⟨by rw [hv.out]; rfl, hb3.out⟩
set_option maxHeartbeats 2000000 in
theorem snode_not (k n : Int) (s : List UInt8) (A : Option Addr) (l c : Nat) (w : World) (h1 : k ≠ 1) (h2 : k ≠ 2) (h3 : k ≠ 3) (h4 : k ≠ 4) : Calls Tryz.prog 115 #[nv k n s A l c] w fun e w' => e = .returned (.bool (nodeB k n s l)) ∧ Below w.heap.size w w' := by
  have hb := hid (box_below w (.cells #[.int .i64 k, .int .i64 n, sv s, .slice A l c] 48))
  have hv := hid (show nodeB k n s l = false by unfold nodeB; rw [if_neg h1, if_neg h2, if_neg h3, if_neg h4])
  have e1 : (k == 1) = false := beq_false_of_ne h1
  have e2 : (k == 2) = false := beq_false_of_ne h2
  have e3 : (k == 3) = false := beq_false_of_ne h3
  have e4 : (k == 4) = false := beq_false_of_ne h4
  clear h1 h2 h3 h4
  go_enter Tryz.func115, Tryz.ntmps115
  go_wp2_with fail
  go_ret
  exact ⟨by rw [hv.out]; rfl, hb.out⟩
theorem snode (k n : Int) (s : List UInt8) (hsl : s.length ≤ 9223372036854775807) (A : Option Addr) (l c : Nat) (w : World) : Calls Tryz.prog 115 #[nv k n s A l c] w fun e w' => e = .returned (.bool (nodeB k n s l)) ∧ Below w.heap.size w w' := by
  by_cases h1 : k = 1
  · subst h1; exact snode1 n s A l c w
  by_cases h2 : k = 2
  · subst h2; exact snode2 n s hsl A l c w
  by_cases h3 : k = 3
  · subst h3; exact snode3 n s A l c w
  by_cases h4 : k = 4
  · subst h4; exact snode4 n s A l c w
  exact snode_not k n s A l c w h1 h2 h3 h4
def allT : T → Bool
  | .mk k n s ks => (ks.attach.all fun ⟨a, _⟩ => allT a) && nodeB k n s ks.length
termination_by t => SizeOf.sizeOf t
decreasing_by have := List.sizeOf_lt_of_mem ‹_›; simp only [T.mk.sizeOf_spec]; omega
theorem allT_mk (k n : Int) (s : List UInt8) (ks : List T) : allT (.mk k n s ks) = (ks.all allT && nodeB k n s ks.length) := by
  rw [allT]; simp
theorem all_not {ks : List T} {m : Nat} (h : m < ks.length) (hf : allT ks[m] = false) : ks.all allT = false := by
  cases hq : ks.all allT with
  | false => rfl
  | true => rw [List.all_eq_true.1 hq _ (List.getElem_mem h)] at hf; cases hf
theorem all_yes {ks : List T} (h : ∀ j, (hj : j < ks.length) → allT ks[j] = true) : ks.all allT = true := by
  rw [List.all_eq_true]
  intro a ha
  obtain ⟨j, hj, rfl⟩ := List.mem_iff_getElem.1 ha
  exact h j hj
set_option maxHeartbeats 2000000 in
theorem sall (t : T) : ∀ (v : Value) (w : World), Ex w w.heap.size v t → Calls Tryz.prog 105 #[v] w fun e w' => e = .returned (.bool (allT t)) ∧ Below w.heap.size w w' := by
  induction t using T.ind with
  | h k n s ks ih =>
    intro v w hv
    obtain ⟨A, c, vs, rfl, hs, hl, hk⟩ := hv.kids
    have hb1 := box_below w (.cells #[.int .i64 k, .int .i64 n, sv s, .slice A ks.length c] 48)
    have hblk := hid (box_blk w k n s A ks.length c 48)
    have hk1 := hid (hk.go hb1)
    have hmk := hid (allT_mk k n s ks)
    have hnode := hid (snode k n s hs A ks.length c)
    have hb1 := hid hb1
    clear hk hv
    generalize hL : ks.length = N at *
    go_enter Tryz.func105, Tryz.ntmps105
    go_wp2_with fail
    generalize (w.alloc (.cells #[.int .i64 k, .int .i64 n, sv s, .slice A N c] 48)) = w1 at *
    go_loopw [3] (fun i wr => ∃ m : Nat, m ≤ N ∧ i = .int .i64 m ∧ (∀ j, (hj : j < ks.length) → j < m → allT ks[j] = true) ∧ Below w1.heap.size w1 wr) (fun i _ => N - (Go.RowKit.intOf i).toNat)
    case atStart => exact ⟨0, Nat.zero_le _, rfl, fun j _ h => by omega, Below.refl _ _⟩
    case round =>
      obtain ⟨m, hm, rfl, hall, hb⟩ := hrel
      have hblk2 := hblk.out.below hb hblk.out.lt
      have b3 : wr.cell? ⟨w.heap.size, 3, none⟩ = some (.slice A N c) := hblk2.cell 3
      have hall := hid hall
      by_cases hlt : m < N
      · have hkr := hk1.out.go hb
        obtain ⟨ad, rfl, _, c0, c1, c2, c3, e, k0, k1, k2, k3⟩ := hkr.cell m (by omega)
        have hkid := hkr.kid m _ (List.getElem?_eq_getElem (by omega))
        have hck := ih ks[m] (List.getElem_mem _) _ wr hkid
        rw [e] at hck
        have hb := hid hb
        have hno := hid (fun (hf : allT ks[m] = false) => all_not (ks := ks) (m := m) (by omega) hf)
        have hyes := hid (fun (hf : allT ks[m] = true) (j : Nat) (hj : j < ks.length) (hjm : j < m + 1) => show allT ks[j] = true from by
          by_cases e : j = m
          · subst e; exact hf
          · exact hall.out j hj (by omega))
        clear hkid hkr e hblk2
        cases ha : allT ks[m] with
        | true =>
          rw [ha] at hck
          have hck := hid hck
          have hy := hid (hyes.out ha)
          go_wp2_with fail
          refine hck.out.mono ?_
          rintro e w2 ⟨rfl, hb2⟩
          have hb2 := hid (hb.out.trans (hb2.mono hb.out.size))
          go_wp2_with fail
          exact ⟨⟨m + 1, hlt, by go_num, hy.out, hb2.out⟩, by simp [Go.RowKit.intOf]; omega⟩
        | false =>
          rw [ha] at hck
          have hck := hid hck
          have hf := hid (show allT (.mk k n s ks) = false by rw [hmk.out, hno.out ha]; rfl)
          go_wp2_with fail
          refine hck.out.mono ?_
          rintro e w2 ⟨rfl, hb2⟩
          have hb2 := hid (hb.out.trans (hb2.mono hb.out.size))
          go_wp2_with fail
          go_ret
          exact ⟨by rw [hf.out]; rfl, hb1.out.trans (hb2.out.mono hb1.out.size)⟩
      · obtain rfl : m = N := by omega
        have hf := hid (show allT (.mk k n s ks) = nodeB k n s m by
          rw [hmk.out, all_yes (fun j hj => hall.out j hj (by omega)), Bool.true_and])
        have b0 : wr.cell? ⟨w.heap.size, 0, none⟩ = some (.int .i64 k) := hblk2.cell 0
        have b1 : wr.cell? ⟨w.heap.size, 1, none⟩ = some (.int .i64 n) := hblk2.cell 1
        have b2 : wr.cell? ⟨w.heap.size, 2, none⟩ = some (sv s) := hblk2.cell 2
        have hck := hid (hnode.out wr)
        have hb := hid hb
        clear hblk2
        go_wp2_with fail
        refine hck.out.mono ?_
        rintro e w2 ⟨rfl, hb2⟩
        have hb2 := hid (hb.out.trans (hb2.mono hb.out.size))
        go_wp2_with fail
        go_ret
        exact ⟨by rw [hf.out]; rfl, hb1.out.trans (hb2.out.mono hb1.out.size)⟩
/-- is an expression valid -/
def okT (t : T) : Bool := decide (cntT t ≤ 12) && (decide (depT t ≤ 5) && allT t)
set_option maxHeartbeats 2000000 in
theorem svalidE (t : T) (v : Value) (w : World) (hv : Ex w w.heap.size v t) (hbd : cntT t ≤ 2000000) : Calls Tryz.prog 78 #[v] w fun e w' => e = .returned (.bool (okT t)) ∧ Below w.heap.size w w' := by
  obtain ⟨k, n, s, ks⟩ := t
  obtain ⟨A, c, vs, rfl, hs, hl, hk⟩ := hv.kids
  have hb1 := box_below w (.cells #[.int .i64 k, .int .i64 n, sv s, .slice A ks.length c] 48)
  have hblk := hid (box_blk w k n s A ks.length c 48)
  have hv1 := hid (hv.go hb1)
  have hb1 := hid hb1
  have hdc := dep_cnt (.mk k n s ks)
  generalize hT : T.mk k n s ks = t at *
  have c1 := sleft t 12 _ _ hv1.out (by omega) (by omega)
  clear hk hv
  have hok := hid (show okT t = (decide (cntT t ≤ 12) && (decide (depT t ≤ 5) && allT t)) from rfl)
  by_cases h1 : cntT t ≤ 12
  · rw [decide_eq_true h1] at hok
    have e1 : szAns (cntT t) 12 = 12 - (cntT t : Int) := by unfold szAns; rw [if_pos (by omega)]
    rw [e1] at c1
    have c1 := hid c1
    have t1 : decide (0 ≤ 12 - (cntT t : Int)) = true := decide_eq_true (by omega)
    clear e1
    go_enter Tryz.func78, Tryz.ntmps78
    go_wp2_with fail
    refine c1.out.mono ?_
    rintro e w2 ⟨rfl, hb2⟩
    have hblk2 := hblk.out.below hb2 hblk.out.lt
    have b0 : w2.cell? ⟨w.heap.size, 0, none⟩ = some (.int .i64 k) := hblk2.cell 0
    have b1 : w2.cell? ⟨w.heap.size, 1, none⟩ = some (.int .i64 n) := hblk2.cell 1
    have b2 : w2.cell? ⟨w.heap.size, 2, none⟩ = some (sv s) := hblk2.cell 2
    have b3 : w2.cell? ⟨w.heap.size, 3, none⟩ = some (.slice A ks.length c) := hblk2.cell 3
    have hv2 := hid (hv1.out.go hb2)
    have c2 := hid (sdepth t _ w2 hv2.out (by omega))
    have hblk2 := hid hblk2
    have hb2 := hid (hb1.out.trans (hb2.mono hb1.out.size))
    go_wp2_with fail
    refine c2.out.mono ?_
    rintro e w3 ⟨rfl, hb3⟩
    have hblk3 := hblk2.out.below hb3 hblk2.out.lt
    clear b0 b1 b2 b3
    have b0 : w3.cell? ⟨w.heap.size, 0, none⟩ = some (.int .i64 k) := hblk3.cell 0
    have b1 : w3.cell? ⟨w.heap.size, 1, none⟩ = some (.int .i64 n) := hblk3.cell 1
    have b2 : w3.cell? ⟨w.heap.size, 2, none⟩ = some (sv s) := hblk3.cell 2
    have b3 : w3.cell? ⟨w.heap.size, 3, none⟩ = some (.slice A ks.length c) := hblk3.cell 3
    have hv3 := hid (hv2.out.go hb3)
    have c3 := hid (sall t _ w3 hv3.out)
    have hb3 := hid (hb2.out.trans (hb3.mono hb2.out.size))
    clear hblk3
    by_cases h2 : depT t ≤ 5
    · rw [decide_eq_true h2] at hok
      have t2 : decide ((depT t : Int) ≤ 5) = true := decide_eq_true (by omega)
      go_wp2_with fail
      refine c3.out.mono ?_
      rintro e w4 ⟨rfl, hb4⟩
      have hb4 := hid (hb3.out.trans (hb4.mono hb3.out.size))
      go_wp2_with fail
      go_ret
      exact ⟨by rw [hok.out]; rfl, hb4.out⟩
    · rw [decide_eq_false h2] at hok
      have t2 : decide ((depT t : Int) ≤ 5) = false := decide_eq_false (by omega)
      go_wp2_with fail
      go_ret
      exact ⟨by rw [hok.out]; rfl, hb3.out⟩
  · rw [decide_eq_false h1] at hok
    have e1 : szAns (cntT t) 12 = -1 := by unfold szAns; rw [if_neg (by omega)]
    rw [e1] at c1
    have c1 := hid c1
    clear e1
    go_enter Tryz.func78, Tryz.ntmps78
    go_wp2_with fail
    refine c1.out.mono ?_
    rintro e w2 ⟨rfl, hb2⟩
    have hb2 := hid (hb1.out.trans (hb2.mono hb1.out.size))
    go_wp2_with fail
    go_ret
    exact ⟨by rw [hok.out]; rfl, hb2.out⟩
end Go.Proofs.YtklcbagddijkgaaGreat.Tr
