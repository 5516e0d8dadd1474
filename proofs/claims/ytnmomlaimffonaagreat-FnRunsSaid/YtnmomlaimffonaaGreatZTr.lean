/- Expressions as trees: what a value of the struct reads as. -/
import Derived.Laws.EntriesVeiled
import Derived.Laws.Rows
import Derived.Test.YtnmomlaimffonaaGreatZLhS
set_option maxHeartbeats 1000000
set_option maxRecDepth 100000
namespace Go.Proofs.YtnmomlaimffonaaGreat.Tr
open Go.RowKit Go.Lib Com Mem
inductive T where
  | mk (k n : Int) (s : List UInt8) (ks : List T)
theorem T.ind {P : T → Prop} (h : ∀ k n s ks, (∀ a ∈ ks, P a) → P (.mk k n s ks)) : ∀ t, P t
  | .mk k n s ks => h k n s ks fun a ha => by
    have := List.sizeOf_lt_of_mem ha
    exact T.ind h a
termination_by t => SizeOf.sizeOf t
decreasing_by simp only [T.mk.sizeOf_spec]; omega
abbrev nv (k n : Int) (s : List UInt8) (A : Option Addr) (l c : Nat) : Value := .agg #[.int .i64 k, .int .i64 n, sv s, .slice A l c]
def Ld4 (w : World) (a : Addr) (v : Value) : Prop := ∃ c0 c1 c2 c3, v = .agg #[c0, c1, c2, c3] ∧ w.cell? a = some c0 ∧ w.cell? ⟨a.block, a.off + 1, none⟩ = some c1 ∧ w.cell? ⟨a.block, a.off + 2, none⟩ = some c2 ∧ w.cell? ⟨a.block, a.off + 3, none⟩ = some c3
inductive Ex (w : World) (B : Nat) : Value → T → Prop where
  | mk {k n : Int} {s : List UInt8} {ks : List T} (A : Option Addr) (c : Nat) (vs : Nat → Value) (hs : s.length ≤ 9223372036854775807) (ha : ks.length ≤ 9223372036854775807)
      (hc : ∀ j, j < ks.length → ∃ ad, A = some ad ∧ ad.block < B ∧ Ld4 w (ad.add (j * 4)) (vs j)) (hk : ∀ j a, ks[j]? = some a → Ex w B (vs j) a) : Ex w B (nv k n s A ks.length c) (.mk k n s ks)
theorem Ex.inv {w : World} {B : Nat} {v : Value} {k n : Int} {s : List UInt8} {ks : List T} (h : Ex w B v (.mk k n s ks)) :
    ∃ (A : Option Addr) (c : Nat) (vs : Nat → Value), v = nv k n s A ks.length c ∧ s.length ≤ 9223372036854775807 ∧ ks.length ≤ 9223372036854775807 ∧ (∀ j, j < ks.length → ∃ ad, A = some ad ∧ ad.block < B ∧ Ld4 w (ad.add (j * 4)) (vs j)) ∧ ∀ j a, ks[j]? = some a → Ex w B (vs j) a := by
  cases h with
  | mk A c vs hs ha hc hk => exact ⟨A, c, vs, rfl, hs, ha, hc, hk⟩
theorem Ld4.keep {w w' : World} {a : Addr} {v : Value} (h : Ld4 w a v) (hk : ∀ p : Addr, p.block = a.block → w'.cell? p = w.cell? p) : Ld4 w' a v := by
  obtain ⟨c0, c1, c2, c3, e, h0, h1, h2, h3⟩ := h
  exact ⟨c0, c1, c2, c3, e, (hk _ rfl).trans h0, (hk ⟨a.block, a.off + 1, none⟩ rfl).trans h1, (hk ⟨a.block, a.off + 2, none⟩ rfl).trans h2, (hk ⟨a.block, a.off + 3, none⟩ rfl).trans h3⟩
theorem Ex.blw {w w' : World} {B : Nat} {v : Value} {t : T} (h : Ex w B v t) (hb : Below B w w') : Ex w' B v t := by
  induction h with
  | mk A c vs hs ha hc hk ih =>
    refine .mk A c vs hs ha (fun j hj => ?_) ih
    obtain ⟨ad, e, hB, hl⟩ := hc j hj
    exact ⟨ad, e, hB, hl.keep fun p hp => hb.cell (by rw [hp, add_block]; exact hB)⟩
theorem Ex.more {w : World} {B B' : Nat} {v : Value} {t : T} (h : Ex w B v t) (hB : B ≤ B') : Ex w B' v t := by
  induction h with
  | mk A c vs hs ha hc hk ih =>
    refine .mk A c vs hs ha (fun j hj => ?_) ih
    obtain ⟨ad, e, hB', hl⟩ := hc j hj
    exact ⟨ad, e, by omega, hl⟩
theorem Ex.go {w w' : World} {v : Value} {t : T} (h : Ex w w.heap.size v t) (hb : Below w.heap.size w w') : Ex w' w'.heap.size v t := (h.blw hb).more hb.size
def szT : T → Nat
  | .mk _ _ s ks => s.length + (ks.length + (ks.attach.map fun ⟨a, _⟩ => szT a).sum)
termination_by t => SizeOf.sizeOf t
decreasing_by have := List.sizeOf_lt_of_mem ‹_›; simp only [T.mk.sizeOf_spec]; omega
theorem szT_mk (k n : Int) (s : List UInt8) (ks : List T) : szT (.mk k n s ks) = s.length + (ks.length + (ks.map szT).sum) := by
  rw [szT]; simp
def szK (ks : List T) : Nat := (ks.map szT).sum
def szAns (tot : Nat) (left : Int) : Int := if (tot : Int) ≤ left then left - tot else -1
structure Kids (w : World) (B : Nat) (A : Option Addr) (ks : List T) (vs : Nat → Value) : Prop where
  cell : ∀ j, j < ks.length → ∃ ad, A = some ad ∧ ad.block < B ∧ Ld4 w (ad.add (j * 4)) (vs j)
  kid : ∀ j a, ks[j]? = some a → Ex w B (vs j) a
theorem Kids.go {w w' : World} {A : Option Addr} {ks : List T} {vs : Nat → Value} (h : Kids w w.heap.size A ks vs) (hb : Below w.heap.size w w') : Kids w' w'.heap.size A ks vs :=
  ⟨fun j hj => by
    obtain ⟨ad, e, hB, hl⟩ := h.cell j hj
    exact ⟨ad, e, Nat.lt_of_lt_of_le hB hb.size, hl.keep fun p hp => hb.cell (by rw [hp, add_block]; exact hB)⟩, fun j a ha => (h.kid j a ha).go hb⟩
theorem Ex.kids {w : World} {B : Nat} {v : Value} {k n : Int} {s : List UInt8} {ks : List T} (h : Ex w B v (.mk k n s ks)) :
    ∃ (A : Option Addr) (c : Nat) (vs : Nat → Value), v = nv k n s A ks.length c ∧ s.length ≤ 9223372036854775807 ∧ ks.length ≤ 9223372036854775807 ∧ Kids w B A ks vs := by
  obtain ⟨A, c, vs, e, h1, h2, h3, h4⟩ := h.inv
  exact ⟨A, c, vs, e, h1, h2, h3, h4⟩
def cntT : T → Nat
  | .mk _ _ _ ks => 1 + (ks.attach.map fun ⟨a, _⟩ => cntT a).sum
termination_by t => SizeOf.sizeOf t
decreasing_by have := List.sizeOf_lt_of_mem ‹_›; simp only [T.mk.sizeOf_spec]; omega
def cntK (ks : List T) : Nat := (ks.map cntT).sum
theorem cntT_mk (k n : Int) (s : List UInt8) (ks : List T) : cntT (.mk k n s ks) = 1 + cntK ks := by
  rw [cntT]; simp [cntK]
theorem cntK_take {ks : List T} {m : Nat} (h : m < ks.length) : cntK (ks.take (m + 1)) = cntK (ks.take m) + cntT ks[m] := by
  unfold cntK
  rw [List.take_succ_eq_append_getElem h, List.map_append, List.sum_append]; rfl
theorem cntK_le (ks : List T) (m : Nat) : cntK (ks.take m) ≤ cntK ks := by
  unfold cntK
  conv => rhs; rw [← List.take_append_drop m ks]
  rw [List.map_append, List.sum_append]; omega
theorem cnt_sum (ks : List T) (h : ∀ a ∈ ks, cntT a ≤ 1 + szT a) : cntK ks ≤ ks.length + szK ks := by
  induction ks with
  | nil => simp [cntK, szK]
  | cons a r ih =>
    have h1 := ih fun x hx => h x (by simp [hx])
    have h2 := h a (by simp)
    simp only [cntK, szK, List.map_cons, List.sum_cons, List.length_cons] at *
    omega
theorem cnt_sz (t : T) : cntT t ≤ 1 + szT t := by
  induction t using T.ind with
  | h k n s ks ih =>
    have := cnt_sum ks ih
    rw [cntT_mk, szT_mk]
    unfold szK at this
    omega
theorem cnt_pos (t : T) : 1 ≤ cntT t := by cases t; rw [cntT_mk]; omega
def depK (ks : List T) (f : T → Nat) : Nat := ks.foldl (fun n a => max n (f a)) 0
def depT : T → Nat
  | .mk _ _ _ ks => (ks.attach.foldl (fun n ⟨a, _⟩ => max n (depT a)) 0) + 1
termination_by t => SizeOf.sizeOf t
decreasing_by have := List.sizeOf_lt_of_mem ‹_›; simp only [T.mk.sizeOf_spec]; omega
theorem depT_mk (k n : Int) (s : List UInt8) (ks : List T) : depT (.mk k n s ks) = depK ks depT + 1 := by
  rw [depT]; simp [depK]
theorem depK_take {ks : List T} {f : T → Nat} {m : Nat} (h : m < ks.length) : depK (ks.take (m + 1)) f = max (depK (ks.take m) f) (f ks[m]) := by
  unfold depK
  rw [List.take_succ_eq_append_getElem h, List.foldl_append]; rfl
theorem depK_bd (ks : List T) (f : T → Nat) (B : Nat) (h : ∀ a ∈ ks, f a ≤ B) : depK ks f ≤ B := by
  have : ∀ (ks : List T) (n : Nat), n ≤ B → (∀ a ∈ ks, f a ≤ B) → ks.foldl (fun n a => max n (f a)) n ≤ B := by
    intro ks
    induction ks with
    | nil => intro n hn _; simpa using hn
    | cons a r ih =>
      intro n hn h
      rw [List.foldl_cons]
      exact ih _ (Nat.max_le.2 ⟨hn, h a (by simp)⟩) fun x hx => h x (by simp [hx])
  exact this ks 0 (Nat.zero_le _) h
theorem cntK_mem {ks : List T} {a : T} (h : a ∈ ks) : cntT a ≤ cntK ks := by
  induction ks with
  | nil => cases h
  | cons b r ih =>
    simp only [cntK, List.map_cons, List.sum_cons]
    rcases List.mem_cons.1 h with rfl | h
    · omega
    · have := ih h; simp only [cntK] at this; omega
theorem dep_cnt (t : T) : depT t ≤ cntT t := by
  induction t using T.ind with
  | h k n s ks ih =>
    rw [depT_mk, cntT_mk]
    have := depK_bd ks depT (cntK ks) fun a ha => Nat.le_trans (ih a ha) (cntK_mem ha)
    omega
theorem box_blk (w : World) (k n : Int) (s : List UInt8) (A : Option Addr) (l c : Nat) (ty : TypeId) : Blk (w.alloc (.cells #[.int .i64 k, .int .i64 n, sv s, .slice A l c] ty)) w.heap.size ty [.int .i64 k, .int .i64 n, sv s, .slice A l c] := Blk.new w ty _
theorem box_below (w : World) (o : Obj) : Below w.heap.size w (w.alloc o) := (Below.refl _ _).alloc (Nat.le_refl _) _
theorem smax_any (p q : Nat) (w : World) : Calls Tryz.prog 89 #[.int .i64 p, .int .i64 q] w fun e w' => e = .returned (.int .i64 ((max p q : Nat) : Int)) ∧ w = w' := by
  by_cases h : q < p
  · have t1 : decide ((q : Int) < (p : Int)) = true := decide_eq_true (by omega)
    have hf := hid (show ((max p q : Nat) : Int) = p by omega)
    go_enter Tryz.func89, Tryz.ntmps89
    go_wp2_with fail
    go_ret
    exact ⟨by rw [hf.out]; rfl, rfl⟩
  · have t1 : decide ((q : Int) < (p : Int)) = false := decide_eq_false (by omega)
    have hf := hid (show ((max p q : Nat) : Int) = q by omega)
    go_enter Tryz.func89, Tryz.ntmps89
    go_wp2_with fail
    go_ret
    exact ⟨by rw [hf.out]; rfl, rfl⟩
theorem sdepth (t : T) : ∀ (v : Value) (w : World), Ex w w.heap.size v t → cntT t ≤ 2000000 → Calls Tryz.prog 132 #[v] w fun e w' => e = .returned (.int .i64 (depT t)) ∧ Below w.heap.size w w' := by
  induction t using T.ind with
  | h k n s ks ih =>
    intro v w hv hbd
    obtain ⟨A, c, vs, rfl, hs, hl, hk⟩ := hv.kids
    have hb1 := box_below w (.cells #[.int .i64 k, .int .i64 n, sv s, .slice A ks.length c] 92)
    have hblk := hid (box_blk w k n s A ks.length c 92)
    have hk1 := hid (hk.go hb1)
    have hmk := hid (depT_mk k n s ks)
    have hd := dep_cnt (.mk k n s ks)
    rw [hmk.out] at hd
    rw [cntT_mk] at hbd
    have h0 := hid (show depK (ks.take 0) depT = 0 by simp [depK])
    have hb1 := hid hb1
    clear hk hv hd
    generalize hL : ks.length = N at *
    go_enter Tryz.func132, Tryz.ntmps132
    go_wp2_with fail
    generalize (w.alloc (.cells #[.int .i64 k, .int .i64 n, sv s, .slice A N c] 92)) = w1 at *
    go_loopw [3, 4] (fun a i wr => ∃ m : Nat, m ≤ N ∧ i = .int .i64 m ∧ a = .int .i64 (depK (ks.take m) depT : Nat) ∧ Below w1.heap.size w1 wr) (fun _ i _ => N - (Go.RowKit.intOf i).toNat)
    case atStart => exact ⟨0, Nat.zero_le _, rfl, by rw [h0.out]; rfl, Below.refl _ _⟩
    case round =>
      obtain ⟨m, hm, rfl, rfl, hb⟩ := hrel
      have b3 : wr.cell? ⟨w.heap.size, 3, none⟩ = some (.slice A N c) := (hblk.out.below hb hblk.out.lt).cell 3
      by_cases hlt : m < N
      · have hkr := hk1.out.go hb
        obtain ⟨ad, rfl, _, c0, c1, c2, c3, e, k0, k1, k2, k3⟩ := hkr.cell m (by omega)
        have hkid := hkr.kid m _ (List.getElem?_eq_getElem (by omega))
        have hst := hid (depK_take (ks := ks) (f := depT) (m := m) (by omega))
        have hmem := cntK_mem (List.getElem_mem (l := ks) (n := m) (by omega))
        have hck := hid (ih ks[m] (List.getElem_mem _) _ wr hkid (by omega))
        rw [e] at hck
        have hmx := hid (smax_any (depK (ks.take m) depT) (depT ks[m]))
        have hb := hid hb
        clear hkid hkr e hmem
        go_wp2_with fail
        refine hck.out.mono ?_
        rintro e w2 ⟨rfl, hb2⟩
        have hb2 := hid (hb.out.trans (hb2.mono hb.out.size))
        go_wp2_with fail
        refine (hmx.out _).mono ?_
        rintro e w3 ⟨rfl, rfl⟩
        go_wp2_with fail
        exact ⟨⟨m + 1, hlt, by go_num, by rw [hst.out], hb2.out⟩, by simp [Go.RowKit.intOf]; omega⟩
      · obtain rfl : m = N := by omega
        have hd := dep_cnt (.mk k n s ks)
        rw [hmk.out, cntT_mk] at hd
        have hf := hid (show (depT (.mk k n s ks) : Int) = (depK (ks.take m) depT : Nat) + 1 by
          rw [List.take_of_length_le (by omega), hmk.out]; omega)
        have hbb : depK (ks.take m) depT ≤ 2000000 := by rw [List.take_of_length_le (by omega)]; omega
        have hb := hid hb
        clear hd
        go_wp2_with fail
        go_ret
        exact ⟨by rw [hf.out]; rfl, hb1.out.trans (hb.out.mono hb1.out.size)⟩
theorem left_next {p q tot : Nat} {left L : Int} (hLe : L = left - 1 - (p : Int)) (hle : p + q ≤ tot) : (0 ≤ szAns q L ∧ szAns q L = left - 1 - ((p + q : Nat) : Int)) ∨ (szAns q L = -1 ∧ left < 1 + (tot : Int)) := by
  unfold szAns
  by_cases hq : (q : Int) ≤ L
  · rw [if_pos hq]; left; omega
  · rw [if_neg hq]; right; omega
theorem sleft (t : T) : ∀ (left : Int) (v : Value) (w : World), Ex w w.heap.size v t → 0 ≤ left → left ≤ 1000000 → Calls Tryz.prog 131 #[v, .int .i64 left] w fun e w' => e = .returned (.int .i64 (szAns (cntT t) left)) ∧ Below w.heap.size w w' := by
  induction t using T.ind with
  | h k n s ks ih =>
    intro left v w hv h0 h1
    obtain ⟨A, c, vs, rfl, hs, hl, hk⟩ := hv.kids
    have hb1 := box_below w (.cells #[.int .i64 k, .int .i64 n, sv s, .slice A ks.length c] 92)
    have hblk := hid (box_blk w k n s A ks.length c 92)
    have hk1 := hid (hk.go hb1)
    have hmk := hid (cntT_mk k n s ks)
    have hz := hid (show cntK (ks.take 0) = 0 by simp [cntK])
    have hb1 := hid hb1
    clear hk hv
    generalize hL : ks.length = N at *
    go_enter Tryz.func131, Tryz.ntmps131
    go_wp2_with fail
    generalize (w.alloc (.cells #[.int .i64 k, .int .i64 n, sv s, .slice A N c] 92)) = w1 at *
    go_loopw [1, 5] (fun a i wr => ∃ (m : Nat) (L : Int), m ≤ N ∧ i = .int .i64 m ∧ a = .int .i64 L ∧ ((0 ≤ L ∧ L = left - 1 - (cntK (ks.take m) : Int)) ∨ (L = -1 ∧ left < 1 + (cntK ks : Int))) ∧ Below w1.heap.size w1 wr) (fun _ i _ => N - (Go.RowKit.intOf i).toNat)
    case atStart => exact ⟨0, left - 1, Nat.zero_le _, rfl, rfl, by rw [hz.out]; omega, Below.refl _ _⟩
    case round =>
      obtain ⟨m, L, hm, rfl, rfl, hcase, hb⟩ := hrel
      have b3 : wr.cell? ⟨w.heap.size, 3, none⟩ = some (.slice A N c) := (hblk.out.below hb hblk.out.lt).cell 3
      rcases hcase with ⟨hL0, hLe⟩ | ⟨hLe, hover⟩
      · have t2 : decide (0 ≤ L) = true := decide_eq_true hL0
        by_cases hlt : m < N
        · have hkr := hk1.out.go hb
          obtain ⟨ad, rfl, _, c0, c1, c2, c3, e, k0, k1, k2, k3⟩ := hkr.cell m (by omega)
          have hkid := hkr.kid m _ (List.getElem?_eq_getElem (by omega))
          have hst := hid (cntK_take (ks := ks) (m := m) (by omega))
          have hle := hid (cntK_le ks (m + 1))
          have hck := hid (ih ks[m] (List.getElem_mem _) L _ wr hkid hL0 (by omega))
          rw [e] at hck
          have hnext := hid (show (0 ≤ szAns (cntT ks[m]) L ∧ szAns (cntT ks[m]) L = left - 1 - (cntK (ks.take (m + 1)) : Int)) ∨ (szAns (cntT ks[m]) L = -1 ∧ left < 1 + (cntK ks : Int)) by
            have h2 := hle.out
            rw [hst.out] at h2 ⊢
            exact left_next hLe h2)
          have hb := hid hb
          replace hLe := hid hLe
          clear hkid hkr e hle
          generalize szAns (cntT ks[m]) L = L' at *
          go_wp2_with fail
          refine hck.out.mono ?_
          rintro e w2 ⟨rfl, hb2⟩
          have hb2 := hid (hb.out.trans (hb2.mono hb.out.size))
          go_wp2_with fail
          exact ⟨⟨m + 1, L', hlt, by go_num, rfl, hnext.out, hb2.out⟩, by simp [Go.RowKit.intOf]; omega⟩
        · obtain rfl : m = N := by omega
          have hf := hid (show szAns (cntT (.mk k n s ks)) left = L by
            rw [List.take_of_length_le (by omega)] at hLe
            rw [hmk.out]; unfold szAns; rw [if_pos (by omega)]; omega)
          have hb := hid hb
          replace hLe := hid hLe
          go_wp2_with fail
          go_ret
          exact ⟨by rw [hf.out]; rfl, hb1.out.trans (hb.out.mono hb1.out.size)⟩
      · subst hLe
        have hf := hid (show szAns (cntT (.mk k n s ks)) left = -1 by
          rw [hmk.out]; unfold szAns; rw [if_neg (by omega)])
        have hb := hid hb
        clear hover
        by_cases hlt : m < N
        · go_wp2_with fail
          go_ret
          exact ⟨by rw [hf.out]; rfl, hb1.out.trans (hb.out.mono hb1.out.size)⟩
        · obtain rfl : m = N := by omega
          go_wp2_with fail
          go_ret
          exact ⟨by rw [hf.out]; rfl, hb1.out.trans (hb.out.mono hb1.out.size)⟩
open Go.Sort
mutual
def eqT : T → T → Bool
  | .mk k n s ks, .mk k' n' s' ks' => (k == k') && ((n == n') && ((s == s') && eqL ks ks'))
def eqL : List T → List T → Bool
  | [], [] => true
  | a :: r, b :: q => eqT a b && eqL r q
  | [], _ :: _ => false
  | _ :: _, [] => false
end
theorem eqT_mk (k n k' n' : Int) (s s' : List UInt8) (ks ks' : List T) : eqT (.mk k n s ks) (.mk k' n' s' ks') = ((k == k') && ((n == n') && ((s == s') && eqL ks ks'))) := by rw [eqT]
open YtnmomlaimffonaaGreat.Os
def RowsAt (cs : List Value) (m : Nat) (vs : Nat → Value) : Prop := ∀ j, j < m → ∃ c0 c1 c2 c3, vs j = .agg #[c0, c1, c2, c3] ∧ cs[j * 4]? = some c0 ∧ cs[j * 4 + 1]? = some c1 ∧ cs[j * 4 + 2]? = some c2 ∧ cs[j * 4 + 3]? = some c3
inductive OwnE (ty : TypeId) (w : World) : Nat → Nat → Value → T → Prop where
  | mk {lo hi : Nat} {k n : Int} {s : List UInt8} {ks : List T} (A : Option Addr) (c : Nat) (vs : Nat → Value) (ls hs : Nat → Nat) (hsl : s.length ≤ 9223372036854775807) (hkl : ks.length ≤ 9223372036854775807)
      (hA : ks.length ≠ 0 → ∃ g cs, A = some ⟨g, 0, none⟩ ∧ lo ≤ g ∧ g < hi ∧ Blk w g ty cs ∧ RowsAt cs ks.length vs ∧ ∀ j, j < ks.length → g < ls j ∨ hs j ≤ g)
      (hin : ∀ j, j < ks.length → lo ≤ ls j ∧ hs j ≤ hi) (hdis : ∀ i j, i < j → j < ks.length → hs i ≤ ls j ∨ hs j ≤ ls i)
      (hk : ∀ j a, ks[j]? = some a → OwnE ty w (ls j) (hs j) (vs j) a) : OwnE ty w lo hi (nv k n s A ks.length c) (.mk k n s ks)
theorem lt_of_get {α : Type} {l : List α} {j : Nat} {a : α} (h : l[j]? = some a) : j < l.length := by
  rcases Nat.lt_or_ge j l.length with h' | h'
  · exact h'
  · rw [List.getElem?_eq_none h'] at h; cases h
theorem OwnE.same {ty : TypeId} {w w' : World} {lo hi : Nat} {v : Value} {t : T} (h : OwnE ty w lo hi v t) (hsm : Same lo hi w w') : OwnE ty w' lo hi v t := by
  induction h with
  | mk A c vs ls hs hsl hkl hA hin hdis hk ih =>
    refine .mk A c vs ls hs hsl hkl (fun hne => ?_) hin hdis (fun j a ha => ih j a ha fun k h1 h2 => ?_)
    · obtain ⟨g, cs, e, h1, h2, hb, hr, hd⟩ := hA hne
      exact ⟨g, cs, e, h1, h2, (hsm g h1 h2).trans hb, hr, hd⟩
    · obtain ⟨h3, h4⟩ := hin j (lt_of_get ha)
      exact hsm k (by omega) (by omega)
theorem OwnE.mono {ty : TypeId} {w : World} {lo hi lo' hi' : Nat} {v : Value} {t : T} (h : OwnE ty w lo hi v t) (h1 : lo' ≤ lo) (h2 : hi ≤ hi') : OwnE ty w lo' hi' v t := by
  cases h with
  | mk A c vs ls hs hsl hkl hA hin hdis hk =>
    refine .mk A c vs ls hs hsl hkl (fun hne => ?_) (fun j hj => ?_) hdis hk
    · obtain ⟨g, cs, e, h1, h2, hb, hr, hd⟩ := hA hne
      exact ⟨g, cs, e, by omega, by omega, hb, hr, hd⟩
    · obtain ⟨h3, h4⟩ := hin j hj
      exact ⟨by omega, by omega⟩
theorem rows_ld {w : World} {g : Nat} {ty : TypeId} {cs : List Value} {m j : Nat} {vs : Nat → Value} (hb : Blk w g ty cs) (h : RowsAt cs m vs) (hj : j < m) : Ld4 w ((⟨g, 0, none⟩ : Addr).add (j * 4)) (vs j) := by
  obtain ⟨c0, c1, c2, c3, hv, h0, h1, h2, h3⟩ := h j hj
  rw [add_zero]
  exact ⟨c0, c1, c2, c3, hv, by rw [hb.cell, h0], by rw [hb.cell, h1], by rw [hb.cell, h2], by rw [hb.cell, h3]⟩
theorem OwnE.ex {ty : TypeId} {w : World} {lo hi : Nat} {v : Value} {t : T} (h : OwnE ty w lo hi v t) : Ex w w.heap.size v t := by
  induction h with
  | mk A c vs ls hs hsl hkl hA hin hdis hk ih =>
    refine .mk A c vs hsl hkl (fun j hj => ?_) ih
    obtain ⟨g, cs, e, h1, h2, hb, hr, hd⟩ := hA (by omega)
    exact ⟨_, e, hb.lt, rows_ld hb hr hj⟩
theorem OwnE.form {ty : TypeId} {w : World} {lo hi : Nat} {v : Value} {t : T} (h : OwnE ty w lo hi v t) : ∃ k n s A l c, v = nv k n s A l c := by
  cases h with
  | mk A c vs ls hs hsl hkl hA hin hdis hk => exact ⟨_, _, _, _, _, _, rfl⟩
theorem zeroE : (Tryz.prog.info? 92).map (fun i => (i.zero, i.size, i.bytes)) = some (some (nv 0 0 [] none 0 0), 4, 56) := by kernel_rfl
theorem four {w : World} {g ty : Nat} {a b c d : Value} (h : Blk w g ty [a, b, c, d]) : w.cell? ⟨g, 0, none⟩ = some a ∧ w.cell? ⟨g, 1, none⟩ = some b ∧ w.cell? ⟨g, 2, none⟩ = some c ∧ w.cell? ⟨g, 3, none⟩ = some d := ⟨h.cell 0, h.cell 1, h.cell 2, h.cell 3⟩
theorem blk_chg {w w' : World} {g ty lo hi : Nat} {cs : List Value} (h : Blk w g ty cs) (hc : Chg w w' lo hi) (hn : g < lo ∨ hi ≤ g) : Blk w' g ty cs := (hc.block g h.lt hn).trans h
theorem Ex.form {w : World} {B : Nat} {v : Value} {t : T} (h : Ex w B v t) : ∃ k n s A l c, v = nv k n s A l c := by
  cases h with
  | mk A c vs hs ha hc hk => exact ⟨_, _, _, _, _, _, rfl⟩
abbrev OwnX (lo hi : Nat) (w : World) (v : Value) (t : T) : Prop := OwnE 92 w lo hi v t
theorem OwnE.chg {ty : TypeId} {w w' : World} {lo hi lo' hi' : Nat} {v : Value} {t : T} (h : OwnE ty w lo hi v t) (hc : Chg w w' lo' hi') (hn : hi ≤ lo' ∨ hi' ≤ lo) : OwnE ty w' lo hi v t := by
  induction h with
  | mk A c vs ls hs hsl hkl hA hin hdis hk ih =>
    refine .mk A c vs ls hs hsl hkl (fun hne => ?_) hin hdis (fun j a ha => ih j a ha ?_)
    · obtain ⟨g, cs, e, h1, h2, hb, hr, hd⟩ := hA hne
      exact ⟨g, cs, e, h1, h2, blk_chg hb hc (by omega), hr, hd⟩
    · obtain ⟨h3, h4⟩ := hin j (lt_of_get ha)
      omega
theorem chg_set {w : World} {g i lo hi : Nat} (h1 : lo ≤ g) (h2 : g < hi) (u : Value) : Chg w (w.setCell ⟨g, i, none⟩ u) lo hi :=
  ⟨rfl, rfl, rfl, by simp [World.setCell], fun k _ hr => heap_setCell_other w _ k u (by show k ≠ g; omega)⟩
end Go.Proofs.YtnmomlaimffonaaGreat.Tr
