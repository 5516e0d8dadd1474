/- Expressions as trees: what a value of the struct reads as. -/
import Derived.Test.YtklcbagddijkgaaGreatDoorZCom
import Derived.Lib.QuietBelow
import Derived.BigQuiet
import Derived.Laws.EntriesVeiled
import Derived.Laws.Rows
import Derived.Test.YtklcbagddijkgaaGreatDoorZNum
set_option maxRecDepth 100000
namespace Go.Proofs.YtklcbagddijkgaaGreatDoor.Tr
open Go.RowKit Go.Lib Go.Proofs.YtklcbagddijkgaaGreatDoor.Com Go.Proofs.YtklcbagddijkgaaGreatDoor.Mem

/-- an expression -/
inductive T where
  | mk (k n : Int) (s : List UInt8) (ks : List T)

theorem T.ind {P : T → Prop} (h : ∀ k n s ks, (∀ a ∈ ks, P a) → P (.mk k n s ks)) : ∀ t, P t
  | .mk k n s ks => h k n s ks fun a ha => by
    have := List.sizeOf_lt_of_mem ha
    exact T.ind h a
termination_by t => SizeOf.sizeOf t
decreasing_by simp only [T.mk.sizeOf_spec]; omega

/-- a node's value -/
abbrev nv (k n : Int) (s : List UInt8) (A : Option Addr) (l c : Nat) : Value := .agg #[.int .i64 k, .int .i64 n, sv s, .slice A l c]
/-- four cells at an address -/
def Ld4 (w : World) (a : Addr) (v : Value) : Prop := ∃ c0 c1 c2 c3, v = .agg #[c0, c1, c2, c3] ∧ w.cell? a = some c0 ∧ w.cell? ⟨a.block, a.off + 1, none⟩ = some c1 ∧ w.cell? ⟨a.block, a.off + 2, none⟩ = some c2 ∧ w.cell? ⟨a.block, a.off + 3, none⟩ = some c3
/-- the value v reads as t, in blocks below B -/
inductive Ex (w : World) (B : Nat) : Value → T → Prop where
  | mk {k n : Int} {s : List UInt8} {ks : List T} (A : Option Addr) (c : Nat) (vs : Nat → Value) (hs : s.length ≤ 9223372036854775807) (ha : ks.length ≤ 9223372036854775807)
      (hc : ∀ j, j < ks.length → ∃ ad, A = some ad ∧ ad.block < B ∧ Ld4 w (ad.add (j * 4)) (vs j)) (hk : ∀ j a, ks[j]? = some a → Ex w B (vs j) a) : Ex w B (nv k n s A ks.length c) (.mk k n s ks)

theorem Ex.inv {w : World} {B : Nat} {v : Value} {k n : Int} {s : List UInt8} {ks : List T} (h : Ex w B v (.mk k n s ks)) :
    ∃ (A : Option Addr) (c : Nat) (vs : Nat → Value), v = nv k n s A ks.length c ∧ s.length ≤ 9223372036854775807 ∧ ks.length ≤ 9223372036854775807 ∧ (∀ j, j < ks.length → ∃ ad, A = some ad ∧ ad.block < B ∧ Ld4 w (ad.add (j * 4)) (vs j)) ∧ ∀ j a, ks[j]? = some a → Ex w B (vs j) a := by
  cases h with
  | mk A c vs hs ha hc hk => exact ⟨A, c, vs, rfl, hs, ha, hc, hk⟩
theorem Ld4.keep {w w' : World} {a : Addr} {v : Value} (h : Ld4 w a v) (hk : ∀ p : Addr, p.block = a.block → w'.cell? p = w.cell? p) : Ld4 w' a v := by
  obtain ⟨c0, c1, c2, c3, e, h0, h1, h2, h3⟩ := h
  exact ⟨c0, c1, c2, c3, e, (hk _ rfl).trans h0, (hk ⟨a.block, a.off + 1, none⟩ rfl).trans h1, (hk ⟨a.block, a.off + 2, none⟩ rfl).trans h2, (hk ⟨a.block, a.off + 3, none⟩ rfl).trans h3⟩
theorem Ex.blw {w w' : World} {B : Nat} {v : Value} {t : T} (h : Ex w B v t) (hb : Below B w w') : Ex w' B v t := by
  induction h with
  | mk A c vs hs ha hc hk ih =>
    refine .mk A c vs hs ha (fun j hj => ?_) ih
    obtain ⟨ad, e, hB, hl⟩ := hc j hj
    exact ⟨ad, e, hB, hl.keep fun p hp => hb.cell (by rw [hp, add_block]; exact hB)⟩
theorem Ex.more {w : World} {B B' : Nat} {v : Value} {t : T} (h : Ex w B v t) (hB : B ≤ B') : Ex w B' v t := by
  induction h with
  | mk A c vs hs ha hc hk ih =>
    refine .mk A c vs hs ha (fun j hj => ?_) ih
    obtain ⟨ad, e, hB', hl⟩ := hc j hj
    exact ⟨ad, e, by omega, hl⟩
theorem Ex.go {w w' : World} {v : Value} {t : T} (h : Ex w w.heap.size v t) (hb : Below w.heap.size w w') : Ex w' w'.heap.size v t := (h.blw hb).more hb.size

/-- how many names' letters and nodes below it -/
def szT : T → Nat
  | .mk _ _ s ks => s.length + (ks.length + (ks.attach.map fun ⟨a, _⟩ => szT a).sum)
termination_by t => SizeOf.sizeOf t
decreasing_by have := List.sizeOf_lt_of_mem ‹_›; simp only [T.mk.sizeOf_spec]; omega
theorem szT_mk (k n : Int) (s : List UInt8) (ks : List T) : szT (.mk k n s ks) = s.length + (ks.length + (ks.map szT).sum) := by
  rw [szT]; simp
def szK (ks : List T) : Nat := (ks.map szT).sum
def szAns (tot : Nat) (left : Int) : Int := if (tot : Int) ≤ left then left - tot else -1

/-- the cells of the kids, and what they read as -/
structure Kids (w : World) (B : Nat) (A : Option Addr) (ks : List T) (vs : Nat → Value) : Prop where
  cell : ∀ j, j < ks.length → ∃ ad, A = some ad ∧ ad.block < B ∧ Ld4 w (ad.add (j * 4)) (vs j)
  kid : ∀ j a, ks[j]? = some a → Ex w B (vs j) a
theorem Kids.go {w w' : World} {A : Option Addr} {ks : List T} {vs : Nat → Value} (h : Kids w w.heap.size A ks vs) (hb : Below w.heap.size w w') : Kids w' w'.heap.size A ks vs :=
  ⟨fun j hj => by
    obtain ⟨ad, e, hB, hl⟩ := h.cell j hj
    exact ⟨ad, e, Nat.lt_of_lt_of_le hB hb.size, hl.keep fun p hp => hb.cell (by rw [hp, add_block]; exact hB)⟩, fun j a ha => (h.kid j a ha).go hb⟩
theorem Ex.kids {w : World} {B : Nat} {v : Value} {k n : Int} {s : List UInt8} {ks : List T} (h : Ex w B v (.mk k n s ks)) :
    ∃ (A : Option Addr) (c : Nat) (vs : Nat → Value), v = nv k n s A ks.length c ∧ s.length ≤ 9223372036854775807 ∧ ks.length ≤ 9223372036854775807 ∧ Kids w B A ks vs := by
  obtain ⟨A, c, vs, e, h1, h2, h3, h4⟩ := h.inv
  exact ⟨A, c, vs, e, h1, h2, h3, h4⟩

end Go.Proofs.YtklcbagddijkgaaGreatDoor.Tr

/- Expressions as trees: how many nodes, how deep; the model's side. -/
set_option maxRecDepth 100000
namespace Go.Proofs.YtklcbagddijkgaaGreatDoor.Tr
open Go.RowKit Go.Lib Go.Proofs.YtklcbagddijkgaaGreatDoor.Com Go.Proofs.YtklcbagddijkgaaGreatDoor.Mem

def cntT : T → Nat
  | .mk _ _ _ ks => 1 + (ks.attach.map fun ⟨a, _⟩ => cntT a).sum
termination_by t => SizeOf.sizeOf t
decreasing_by have := List.sizeOf_lt_of_mem ‹_›; simp only [T.mk.sizeOf_spec]; omega
def cntK (ks : List T) : Nat := (ks.map cntT).sum
theorem cntT_mk (k n : Int) (s : List UInt8) (ks : List T) : cntT (.mk k n s ks) = 1 + cntK ks := by
  rw [cntT]; simp [cntK]
theorem cntK_take {ks : List T} {m : Nat} (h : m < ks.length) : cntK (ks.take (m + 1)) = cntK (ks.take m) + cntT ks[m] := by
  unfold cntK
  rw [List.take_succ_eq_append_getElem h, List.map_append, List.sum_append]; rfl
theorem cntK_le (ks : List T) (m : Nat) : cntK (ks.take m) ≤ cntK ks := by
  unfold cntK
  conv => rhs; rw [← List.take_append_drop m ks]
  rw [List.map_append, List.sum_append]; omega
theorem cnt_sum (ks : List T) (h : ∀ a ∈ ks, cntT a ≤ 1 + szT a) : cntK ks ≤ ks.length + szK ks := by
  induction ks with
  | nil => simp [cntK, szK]
  | cons a r ih =>
    have h1 := ih fun x hx => h x (by simp [hx])
    have h2 := h a (by simp)
    simp only [cntK, szK, List.map_cons, List.sum_cons, List.length_cons] at *
    omega
theorem cnt_sz (t : T) : cntT t ≤ 1 + szT t := by
  induction t using T.ind with
  | h k n s ks ih =>
    have := cnt_sum ks ih
    rw [cntT_mk, szT_mk]
    unfold szK at this
    omega
theorem cnt_pos (t : T) : 1 ≤ cntT t := by cases t; rw [cntT_mk]; omega
def depK (ks : List T) (f : T → Nat) : Nat := ks.foldl (fun n a => max n (f a)) 0
def depT : T → Nat
  | .mk _ _ _ ks => (ks.attach.foldl (fun n ⟨a, _⟩ => max n (depT a)) 0) + 1
termination_by t => SizeOf.sizeOf t
decreasing_by have := List.sizeOf_lt_of_mem ‹_›; simp only [T.mk.sizeOf_spec]; omega
theorem depT_mk (k n : Int) (s : List UInt8) (ks : List T) : depT (.mk k n s ks) = depK ks depT + 1 := by
  rw [depT]; simp [depK]
theorem depK_take {ks : List T} {f : T → Nat} {m : Nat} (h : m < ks.length) : depK (ks.take (m + 1)) f = max (depK (ks.take m) f) (f ks[m]) := by
  unfold depK
  rw [List.take_succ_eq_append_getElem h, List.foldl_append]; rfl
theorem depK_bd (ks : List T) (f : T → Nat) (B : Nat) (h : ∀ a ∈ ks, f a ≤ B) : depK ks f ≤ B := by
  have : ∀ (ks : List T) (n : Nat), n ≤ B → (∀ a ∈ ks, f a ≤ B) → ks.foldl (fun n a => max n (f a)) n ≤ B := by
    intro ks
    induction ks with
    | nil => intro n hn _; simpa using hn
    | cons a r ih =>
      intro n hn h
      rw [List.foldl_cons]
      exact ih _ (Nat.max_le.2 ⟨hn, h a (by simp)⟩) fun x hx => h x (by simp [hx])
  exact this ks 0 (Nat.zero_le _) h
theorem cntK_mem {ks : List T} {a : T} (h : a ∈ ks) : cntT a ≤ cntK ks := by
  induction ks with
  | nil => cases h
  | cons b r ih =>
    simp only [cntK, List.map_cons, List.sum_cons]
    rcases List.mem_cons.1 h with rfl | h
    · omega
    · have := ih h; simp only [cntK] at this; omega
theorem dep_cnt (t : T) : depT t ≤ cntT t := by
  induction t using T.ind with
  | h k n s ks ih =>
    rw [depT_mk, cntT_mk]
    have := depK_bd ks depT (cntK ks) fun a ha => Nat.le_trans (ih a ha) (cntK_mem ha)
    omega

/-- the boxed parameter, as a block -/
theorem box_blk (w : World) (k n : Int) (s : List UInt8) (A : Option Addr) (l c : Nat) (ty : TypeId) : Blk (w.alloc (.cells #[.int .i64 k, .int .i64 n, sv s, .slice A l c] ty)) w.heap.size ty [.int .i64 k, .int .i64 n, sv s, .slice A l c] := Blk.new w ty _
theorem box_below (w : World) (o : Obj) : Below w.heap.size w (w.alloc o) := (Below.refl _ _).alloc (Nat.le_refl _) _

theorem smax_any (p q : Nat) (w : World) : Calls Tryz.prog 99 #[.int .i64 p, .int .i64 q] w fun e w' => e = .returned (.int .i64 ((max p q : Nat) : Int)) ∧ w = w' := by
  by_cases h : q < p
  · have t1 : decide ((q : Int) < (p : Int)) = true := decide_eq_true (by omega)
    have hf := hid (show ((max p q : Nat) : Int) = p by omega)
    go_enter Tryz.func99, Tryz.ntmps99
    go_wp2_with fail
    go_ret
    exact ⟨by rw [hf.out]; rfl, rfl⟩
  · have t1 : decide ((q : Int) < (p : Int)) = false := decide_eq_false (by omega)
    have hf := hid (show ((max p q : Nat) : Int) = q by omega)
    go_enter Tryz.func99, Tryz.ntmps99
    go_wp2_with fail
    go_ret
    exact ⟨by rw [hf.out]; rfl, rfl⟩
set_option maxHeartbeats 1000000 in
theorem sdepth (t : T) : ∀ (v : Value) (w : World), Ex w w.heap.size v t → cntT t ≤ 2000000 → Calls Tryz.prog 49 #[v] w fun e w' => e = .returned (.int .i64 (depT t)) ∧ Below w.heap.size w w' := by
  induction t using T.ind with
  | h k n s ks ih =>
    intro v w hv hbd
    obtain ⟨A, c, vs, rfl, hs, hl, hk⟩ := hv.kids
    have hb1 := box_below w (.cells #[.int .i64 k, .int .i64 n, sv s, .slice A ks.length c] 27)
    have hblk := hid (box_blk w k n s A ks.length c 27)
    have hk1 := hid (hk.go hb1)
    have hmk := hid (depT_mk k n s ks)
    have hd := dep_cnt (.mk k n s ks)
    rw [hmk.out] at hd
    rw [cntT_mk] at hbd
    have h0 := hid (show depK (ks.take 0) depT = 0 by simp [depK])
    have hb1 := hid hb1
    clear hk hv hd
    generalize hL : ks.length = N at *
    go_enter Tryz.func49, Tryz.ntmps49
    go_wp2_with fail
    generalize (w.alloc (.cells #[.int .i64 k, .int .i64 n, sv s, .slice A N c] 27)) = w1 at *
    go_loopw [3, 4] (fun a i wr => ∃ m : Nat, m ≤ N ∧ i = .int .i64 m ∧ a = .int .i64 (depK (ks.take m) depT : Nat) ∧ Below w1.heap.size w1 wr) (fun _ i _ => N - (Go.RowKit.intOf i).toNat)
    case atStart => exact ⟨0, Nat.zero_le _, rfl, by rw [h0.out]; rfl, Below.refl _ _⟩
    case round =>
      obtain ⟨m, hm, rfl, rfl, hb⟩ := hrel
      have b3 : wr.cell? ⟨w.heap.size, 3, none⟩ = some (.slice A N c) := (hblk.out.below hb hblk.out.lt).cell 3
      by_cases hlt : m < N
      · have hkr := hk1.out.go hb
        obtain ⟨ad, rfl, _, c0, c1, c2, c3, e, k0, k1, k2, k3⟩ := hkr.cell m (by omega)
        have hkid := hkr.kid m _ (List.getElem?_eq_getElem (by omega))
        have hst := hid (depK_take (ks := ks) (f := depT) (m := m) (by omega))
        have hmem := cntK_mem (List.getElem_mem (l := ks) (n := m) (by omega))
        have hck := hid (ih ks[m] (List.getElem_mem _) _ wr hkid (by omega))
        rw [e] at hck
        have hmx := hid (smax_any (depK (ks.take m) depT) (depT ks[m]))
        have hb := hid hb
        clear hkid hkr e hmem
        go_wp2_with fail
        refine hck.out.mono ?_
        rintro e w2 ⟨rfl, hb2⟩
        have hb2 := hid (hb.out.trans (hb2.mono hb.out.size))
        go_wp2_with fail
        refine (hmx.out _).mono ?_
        rintro e w3 ⟨rfl, rfl⟩
        go_wp2_with fail
        exact ⟨⟨m + 1, hlt, by go_num, by rw [hst.out], hb2.out⟩, by simp [Go.RowKit.intOf]; omega⟩
      · obtain rfl : m = N := by omega
        have hd := dep_cnt (.mk k n s ks)
        rw [hmk.out, cntT_mk] at hd
        have hf := hid (show (depT (.mk k n s ks) : Int) = (depK (ks.take m) depT : Nat) + 1 by
          rw [List.take_of_length_le (by omega), hmk.out]; omega)
        have hbb : depK (ks.take m) depT ≤ 2000000 := by rw [List.take_of_length_le (by omega)]; omega
        have hb := hid hb
        clear hd
        go_wp2_with fail
        go_ret
        exact ⟨by rw [hf.out]; rfl, hb1.out.trans (hb.out.mono hb1.out.size)⟩
theorem left_next {p q tot : Nat} {left L : Int} (hLe : L = left - 1 - (p : Int)) (hle : p + q ≤ tot) : (0 ≤ szAns q L ∧ szAns q L = left - 1 - ((p + q : Nat) : Int)) ∨ (szAns q L = -1 ∧ left < 1 + (tot : Int)) := by
  unfold szAns
  by_cases hq : (q : Int) ≤ L
  · rw [if_pos hq]; left; omega
  · rw [if_neg hq]; right; omega
set_option maxHeartbeats 1000000 in
theorem sleft (t : T) : ∀ (left : Int) (v : Value) (w : World), Ex w w.heap.size v t → 0 ≤ left → left ≤ 1000000 → Calls Tryz.prog 48 #[v, .int .i64 left] w fun e w' => e = .returned (.int .i64 (szAns (cntT t) left)) ∧ Below w.heap.size w w' := by
  induction t using T.ind with
  | h k n s ks ih =>
    intro left v w hv h0 h1
    obtain ⟨A, c, vs, rfl, hs, hl, hk⟩ := hv.kids
    have hb1 := box_below w (.cells #[.int .i64 k, .int .i64 n, sv s, .slice A ks.length c] 27)
    have hblk := hid (box_blk w k n s A ks.length c 27)
    have hk1 := hid (hk.go hb1)
    have hmk := hid (cntT_mk k n s ks)
    have hz := hid (show cntK (ks.take 0) = 0 by simp [cntK])
    have hb1 := hid hb1
    clear hk hv
    generalize hL : ks.length = N at *
    go_enter Tryz.func48, Tryz.ntmps48
    go_wp2_with fail
    generalize (w.alloc (.cells #[.int .i64 k, .int .i64 n, sv s, .slice A N c] 27)) = w1 at *
    go_loopw [1, 5] (fun a i wr => ∃ (m : Nat) (L : Int), m ≤ N ∧ i = .int .i64 m ∧ a = .int .i64 L ∧ ((0 ≤ L ∧ L = left - 1 - (cntK (ks.take m) : Int)) ∨ (L = -1 ∧ left < 1 + (cntK ks : Int))) ∧ Below w1.heap.size w1 wr) (fun _ i _ => N - (Go.RowKit.intOf i).toNat)
    case atStart => exact ⟨0, left - 1, Nat.zero_le _, rfl, rfl, by rw [hz.out]; omega, Below.refl _ _⟩
    case round =>
      obtain ⟨m, L, hm, rfl, rfl, hcase, hb⟩ := hrel
      have b3 : wr.cell? ⟨w.heap.size, 3, none⟩ = some (.slice A N c) := (hblk.out.below hb hblk.out.lt).cell 3
      rcases hcase with ⟨hL0, hLe⟩ | ⟨hLe, hover⟩
      · have t2 : decide (0 ≤ L) = true := decide_eq_true hL0
        by_cases hlt : m < N
        · have hkr := hk1.out.go hb
          obtain ⟨ad, rfl, _, c0, c1, c2, c3, e, k0, k1, k2, k3⟩ := hkr.cell m (by omega)
          have hkid := hkr.kid m _ (List.getElem?_eq_getElem (by omega))
          have hst := hid (cntK_take (ks := ks) (m := m) (by omega))
          have hle := hid (cntK_le ks (m + 1))
          have hck := hid (ih ks[m] (List.getElem_mem _) L _ wr hkid hL0 (by omega))
          rw [e] at hck
          have hnext := hid (show (0 ≤ szAns (cntT ks[m]) L ∧ szAns (cntT ks[m]) L = left - 1 - (cntK (ks.take (m + 1)) : Int)) ∨ (szAns (cntT ks[m]) L = -1 ∧ left < 1 + (cntK ks : Int)) by
            have h2 := hle.out
            rw [hst.out] at h2 ⊢
            exact left_next hLe h2)
          have hb := hid hb
          replace hLe := hid hLe
          clear hkid hkr e hle
          generalize szAns (cntT ks[m]) L = L' at *
          go_wp2_with fail
          refine hck.out.mono ?_
          rintro e w2 ⟨rfl, hb2⟩
          have hb2 := hid (hb.out.trans (hb2.mono hb.out.size))
          go_wp2_with fail
          exact ⟨⟨m + 1, L', hlt, by go_num, rfl, hnext.out, hb2.out⟩, by simp [Go.RowKit.intOf]; omega⟩
        · obtain rfl : m = N := by omega
          have hf := hid (show szAns (cntT (.mk k n s ks)) left = L by
            rw [List.take_of_length_le (by omega)] at hLe
            rw [hmk.out]; unfold szAns; rw [if_pos (by omega)]; omega)
          have hb := hid hb
          replace hLe := hid hLe
          go_wp2_with fail
          go_ret
          exact ⟨by rw [hf.out]; rfl, hb1.out.trans (hb.out.mono hb1.out.size)⟩
      · subst hLe
        have hf := hid (show szAns (cntT (.mk k n s ks)) left = -1 by
          rw [hmk.out]; unfold szAns; rw [if_neg (by omega)])
        have hb := hid hb
        clear hover
        by_cases hlt : m < N
        · go_wp2_with fail
          go_ret
          exact ⟨by rw [hf.out]; rfl, hb1.out.trans (hb.out.mono hb1.out.size)⟩
        · obtain rfl : m = N := by omega
          go_wp2_with fail
          go_ret
          exact ⟨by rw [hf.out]; rfl, hb1.out.trans (hb.out.mono hb1.out.size)⟩
end Go.Proofs.YtklcbagddijkgaaGreatDoor.Tr

/- Expressions as trees: compared. -/
set_option maxRecDepth 100000
namespace Go.Proofs.YtklcbagddijkgaaGreatDoor.Tr
open Go.RowKit Go.Lib Go.Sort Go.Proofs.YtklcbagddijkgaaGreatDoor.Com Go.Proofs.YtklcbagddijkgaaGreatDoor.Mem

mutual
def eqT : T → T → Bool
  | .mk k n s ks, .mk k' n' s' ks' => (k == k') && ((n == n') && ((s == s') && eqL ks ks'))
def eqL : List T → List T → Bool
  | [], [] => true
  | a :: r, b :: q => eqT a b && eqL r q
  | [], _ :: _ => false
  | _ :: _, [] => false
end
theorem eqT_mk (k n k' n' : Int) (s s' : List UInt8) (ks ks' : List T) : eqT (.mk k n s ks) (.mk k' n' s' ks') = ((k == k') && ((n == n') && ((s == s') && eqL ks ks'))) := by rw [eqT]
/-- what eqExpr promises: true, of values that read as the same -/
def EqE (t : T) : Prop := ∀ (v v' : Value) (w : World), Ex w w.heap.size v t → Ex w w.heap.size v' t → Calls Tryz.prog 28 #[v, v'] w fun e w' => e = .returned (.bool true) ∧ Below w.heap.size w w'
set_option maxHeartbeats 2000000 in
theorem eqES (ks : List T) (ih : ∀ a ∈ ks, EqE a) (A A' : Option Addr) (c c' : Nat) (vs vs' : Nat → Value) (w : World) (hk : Kids w w.heap.size A ks vs) (hk' : Kids w w.heap.size A' ks vs') (hl : ks.length ≤ 9223372036854775807) :
    Calls Tryz.prog 72 #[.slice A ks.length c, .slice A' ks.length c'] w fun e w' => e = .returned (.bool true) ∧ Below w.heap.size w w' := by
  generalize hL : ks.length = N at *
  have hcmp : ((N : Int) != (N : Int)) = false := bne_self_eq_false _
  go_enter Tryz.func72, Tryz.ntmps72
  go_wp2_with fail
  go_loopw [5] (fun i wr => ∃ m : Nat, m ≤ N ∧ i = .int .i64 m ∧ Below w.heap.size w wr) (fun i _ => N - (Go.RowKit.intOf i).toNat)
  case atStart => exact ⟨0, Nat.zero_le _, rfl, Below.refl _ _⟩
  case round =>
    obtain ⟨m, hm, rfl, hb⟩ := hrel
    by_cases hlt : m < N
    · have hkr := hk.go hb
      have hkr' := hk'.go hb
      obtain ⟨ad, rfl, _, c0, c1, c2, c3, e1, k0, k1, k2, k3⟩ := hkr.cell m (by omega)
      obtain ⟨ad', rfl, _, d0, d1, d2, d3, e2, l0, l1, l2, l3⟩ := hkr'.cell m (by omega)
      have hu : ks[m]? = some ks[m] := List.getElem?_eq_getElem (by omega)
      have x1 := hkr.kid m _ hu
      have x2 := hkr'.kid m _ hu
      rw [e1] at x1
      rw [e2] at x2
      have hih := ih ks[m] (List.getElem_mem _)
      have cE := hid (fun (d : Nat) (os : Array Obj) => Calls.regrown_of (d := d) (os := os) (hih _ _ (grow (redrawn wr d) os) (x1.go (below_regrown wr d os)) (x2.go (below_regrown wr d os))))
      replace k0 := cell_regrown k0
      replace k1 := cell_regrown k1
      replace k2 := cell_regrown k2
      replace k3 := cell_regrown k3
      replace l0 := cell_regrown l0
      replace l1 := cell_regrown l1
      replace l2 := cell_regrown l2
      replace l3 := cell_regrown l3
      replace hb := hid hb
      clear hkr hkr' x1 x2 hu e1 e2 hih
      go_wp2_with fail
      refine wp_region_quiet_below (by kernel_rfl) (by kernel_rfl) ?_
      repeat (quiet_step (exact cE.out _ _))
      refine wpQuiet_nil ?_
      intro _ hw'
      obtain ⟨⟨dq, osq⟩, hw''⟩ := hw'
      subst hw''
      have hq := hid (hb.out.trans ((below_regrown wr dq osq).mono hb.out.size))
      clear k0 k1 k2 k3 l0 l1 l2 l3 cE hb
      generalize grow (redrawn wr dq) osq = wq at *
      go_wp2_with fail
      exact ⟨⟨m + 1, hlt, by go_num, hq.out⟩, by simp [Go.RowKit.intOf]; omega⟩
    · obtain rfl : m = N := by omega
      go_wp2_with fail
      go_ret
      exact ⟨rfl, hb⟩
set_option maxHeartbeats 1000000 in
theorem eqE (t : T) : EqE t := by
  induction t using T.ind with
  | h k n s ks ih =>
    intro v v' w hv hv'
    obtain ⟨A, c, vs, rfl, hs, hl, hk⟩ := hv.kids
    obtain ⟨A', c', vs', rfl, _, _, hk'⟩ := hv'.kids
    have n1 : (k != k) = false := bne_self_eq_false _
    have n2 : (n != n) = false := bne_self_eq_false _
    have n3 : (s != s) = false := bne_self_eq_false _
    have s1 := size_alloc' w (.cells #[.int .i64 k, .int .i64 n, sv s, .slice A ks.length c] 27)
    have hb1 := box_below w (.cells #[.int .i64 k, .int .i64 n, sv s, .slice A ks.length c] 27)
    have hb2 := hb1.trans ((box_below (w.alloc (.cells #[.int .i64 k, .int .i64 n, sv s, .slice A ks.length c] 27)) (.cells #[.int .i64 k, .int .i64 n, sv s, .slice A' ks.length c'] 27)).mono (by omega))
    have hcl := hid (eqES ks ih A A' c c' vs vs' _ (hk.go hb2) (hk'.go hb2) hl)
    replace hb2 := hid hb2
    clear hk hk' hb1 s1 hv hv'
    go_enter Tryz.func28, Tryz.ntmps28
    go_wp2_with fail
    refine hcl.out.mono ?_
    rintro e w2 ⟨rfl, hb3⟩
    have hb3 := hid (hb2.out.trans (hb3.mono hb2.out.size))
    go_wp2_with fail
    go_ret
    exact ⟨rfl, hb3.out⟩
end Go.Proofs.YtklcbagddijkgaaGreatDoor.Tr

/- Expressions that the call itself has made; toExpr. -/
set_option maxRecDepth 100000
namespace Go.Proofs.YtklcbagddijkgaaGreatDoor.Tr
open Go.RowKit Go.Lib Go.Sort Go.Proofs.YtklcbagddijkgaaGreatDoor.Com Go.Proofs.YtklcbagddijkgaaGreatDoor.Mem Go.Proofs.YtklcbagddijkgaaGreatDoor.Os

/-- the first m nodes of a row of cells -/
def RowsAt (cs : List Value) (m : Nat) (vs : Nat → Value) : Prop := ∀ j, j < m → ∃ c0 c1 c2 c3, vs j = .agg #[c0, c1, c2, c3] ∧ cs[j * 4]? = some c0 ∧ cs[j * 4 + 1]? = some c1 ∧ cs[j * 4 + 2]? = some c2 ∧ cs[j * 4 + 3]? = some c3
def set4 (cs : List Value) (m : Nat) (c0 c1 c2 c3 : Value) : List Value := (((cs.set (m * 4) c0).set (m * 4 + 1) c1).set (m * 4 + 2) c2).set (m * 4 + 3) c3
theorem set4_at (cs : List Value) (m i : Nat) (c0 c1 c2 c3 : Value) (h : m * 4 + 3 < cs.length) :
    (set4 cs m c0 c1 c2 c3)[i]? = if i = m * 4 then some c0 else if i = m * 4 + 1 then some c1 else if i = m * 4 + 2 then some c2 else if i = m * 4 + 3 then some c3 else cs[i]? := by
  unfold set4
  simp only [List.getElem?_set, List.length_set]
  by_cases h3 : m * 4 + 3 = i
  · subst h3; simp; omega
  by_cases h2 : m * 4 + 2 = i
  · subst h2; simp; omega
  by_cases h1 : m * 4 + 1 = i
  · subst h1; simp; omega
  by_cases h0 : m * 4 = i
  · subst h0; simp; omega
  rw [if_neg h3, if_neg h2, if_neg h1, if_neg h0, if_neg (fun e => h0 e.symm), if_neg (fun e => h1 e.symm), if_neg (fun e => h2 e.symm), if_neg (fun e => h3 e.symm)]
theorem RowsAt.set {cs : List Value} {m : Nat} {vs : Nat → Value} (h : RowsAt cs m vs) (c0 c1 c2 c3 : Value) (hl : m * 4 + 3 < cs.length) : RowsAt (set4 cs m c0 c1 c2 c3) (m + 1) (fun j => if j = m then .agg #[c0, c1, c2, c3] else vs j) := by
  intro j hj
  by_cases e : j = m
  · subst e
    refine ⟨c0, c1, c2, c3, if_pos rfl, ?_, ?_, ?_, ?_⟩ <;> rw [set4_at _ _ _ _ _ _ _ hl] <;> simp
  · obtain ⟨d0, d1, d2, d3, hv, h0, h1, h2, h3⟩ := h j (by omega)
    refine ⟨d0, d1, d2, d3, (if_neg e).trans hv, ?_, ?_, ?_, ?_⟩ <;> rw [set4_at _ _ _ _ _ _ _ hl, if_neg (by omega), if_neg (by omega), if_neg (by omega), if_neg (by omega)] <;> assumption

/-- the value v reads as t; its rows are blocks from lo on, below hi, each used once -/
inductive OwnE (ty : TypeId) (w : World) : Nat → Nat → Value → T → Prop where
  | mk {lo hi : Nat} {k n : Int} {s : List UInt8} {ks : List T} (A : Option Addr) (c : Nat) (vs : Nat → Value) (ls hs : Nat → Nat) (hsl : s.length ≤ 9223372036854775807) (hkl : ks.length ≤ 9223372036854775807)
      (hA : ks.length ≠ 0 → ∃ g cs, A = some ⟨g, 0, none⟩ ∧ lo ≤ g ∧ g < hi ∧ Blk w g ty cs ∧ RowsAt cs ks.length vs ∧ ∀ j, j < ks.length → g < ls j ∨ hs j ≤ g)
      (hin : ∀ j, j < ks.length → lo ≤ ls j ∧ hs j ≤ hi) (hdis : ∀ i j, i < j → j < ks.length → hs i ≤ ls j ∨ hs j ≤ ls i)
      (hk : ∀ j a, ks[j]? = some a → OwnE ty w (ls j) (hs j) (vs j) a) : OwnE ty w lo hi (nv k n s A ks.length c) (.mk k n s ks)
theorem lt_of_get {α : Type} {l : List α} {j : Nat} {a : α} (h : l[j]? = some a) : j < l.length := by
  rcases Nat.lt_or_ge j l.length with h' | h'
  · exact h'
  · rw [List.getElem?_eq_none h'] at h; cases h
theorem OwnE.same {ty : TypeId} {w w' : World} {lo hi : Nat} {v : Value} {t : T} (h : OwnE ty w lo hi v t) (hsm : Same lo hi w w') : OwnE ty w' lo hi v t := by
  induction h with
  | mk A c vs ls hs hsl hkl hA hin hdis hk ih =>
    refine .mk A c vs ls hs hsl hkl (fun hne => ?_) hin hdis (fun j a ha => ih j a ha fun k h1 h2 => ?_)
    · obtain ⟨g, cs, e, h1, h2, hb, hr, hd⟩ := hA hne
      exact ⟨g, cs, e, h1, h2, (hsm g h1 h2).trans hb, hr, hd⟩
    · obtain ⟨h3, h4⟩ := hin j (lt_of_get ha)
      exact hsm k (by omega) (by omega)
theorem OwnE.mono {ty : TypeId} {w : World} {lo hi lo' hi' : Nat} {v : Value} {t : T} (h : OwnE ty w lo hi v t) (h1 : lo' ≤ lo) (h2 : hi ≤ hi') : OwnE ty w lo' hi' v t := by
  cases h with
  | mk A c vs ls hs hsl hkl hA hin hdis hk =>
    refine .mk A c vs ls hs hsl hkl (fun hne => ?_) (fun j hj => ?_) hdis hk
    · obtain ⟨g, cs, e, h1, h2, hb, hr, hd⟩ := hA hne
      exact ⟨g, cs, e, by omega, by omega, hb, hr, hd⟩
    · obtain ⟨h3, h4⟩ := hin j hj
      exact ⟨by omega, by omega⟩
theorem rows_ld {w : World} {g : Nat} {ty : TypeId} {cs : List Value} {m j : Nat} {vs : Nat → Value} (hb : Blk w g ty cs) (h : RowsAt cs m vs) (hj : j < m) : Ld4 w ((⟨g, 0, none⟩ : Addr).add (j * 4)) (vs j) := by
  obtain ⟨c0, c1, c2, c3, hv, h0, h1, h2, h3⟩ := h j hj
  rw [add_zero]
  exact ⟨c0, c1, c2, c3, hv, by rw [hb.cell, h0], by rw [hb.cell, h1], by rw [hb.cell, h2], by rw [hb.cell, h3]⟩
theorem OwnE.ex {ty : TypeId} {w : World} {lo hi : Nat} {v : Value} {t : T} (h : OwnE ty w lo hi v t) : Ex w w.heap.size v t := by
  induction h with
  | mk A c vs ls hs hsl hkl hA hin hdis hk ih =>
    refine .mk A c vs hsl hkl (fun j hj => ?_) ih
    obtain ⟨g, cs, e, h1, h2, hb, hr, hd⟩ := hA (by omega)
    exact ⟨_, e, hb.lt, rows_ld hb hr hj⟩

theorem OwnE.form {ty : TypeId} {w : World} {lo hi : Nat} {v : Value} {t : T} (h : OwnE ty w lo hi v t) : ∃ k n s A l c, v = nv k n s A l c := by
  cases h with
  | mk A c vs ls hs hsl hkl hA hin hdis hk => exact ⟨_, _, _, _, _, _, rfl⟩
end Go.Proofs.YtklcbagddijkgaaGreatDoor.Tr

/- Expressions in the exact laws' words. -/
set_option maxRecDepth 100000
namespace Go.Proofs.YtklcbagddijkgaaGreatDoor.Tr
open Go.RowKit Go.Lib Go.Proofs.YtklcbagddijkgaaGreatDoor.Com Go.Proofs.YtklcbagddijkgaaGreatDoor.Mem Go.Proofs.YtklcbagddijkgaaGreatDoor.Os

theorem four {w : World} {g ty : Nat} {a b c d : Value} (h : Blk w g ty [a, b, c, d]) : w.cell? ⟨g, 0, none⟩ = some a ∧ w.cell? ⟨g, 1, none⟩ = some b ∧ w.cell? ⟨g, 2, none⟩ = some c ∧ w.cell? ⟨g, 3, none⟩ = some d := ⟨h.cell 0, h.cell 1, h.cell 2, h.cell 3⟩
theorem blk_chg {w w' : World} {g ty lo hi : Nat} {cs : List Value} (h : Blk w g ty cs) (hc : Chg w w' lo hi) (hn : g < lo ∨ hi ≤ g) : Blk w' g ty cs := (hc.block g h.lt hn).trans h
theorem Ex.form {w : World} {B : Nat} {v : Value} {t : T} (h : Ex w B v t) : ∃ k n s A l c, v = nv k n s A l c := by
  cases h with
  | mk A c vs hs ha hc hk => exact ⟨_, _, _, _, _, _, rfl⟩
/-- a kid's cells, written out -/
theorem Kids.node {w : World} {B : Nat} {A : Option Addr} {ks : List T} {vs : Nat → Value} (h : Kids w B A ks vs) {m : Nat} (hm : m < ks.length) : ∃ ad k n s A' l c, A = some ad ∧ ad.block < B ∧ w.cell? (ad.add (m * 4)) = some (.int .i64 k) ∧
    w.cell? ⟨(ad.add (m * 4)).block, (ad.add (m * 4)).off + 1, none⟩ = some (.int .i64 n) ∧ w.cell? ⟨(ad.add (m * 4)).block, (ad.add (m * 4)).off + 2, none⟩ = some (sv s) ∧ w.cell? ⟨(ad.add (m * 4)).block, (ad.add (m * 4)).off + 3, none⟩ = some (.slice A' l c) ∧ Ex w B (nv k n s A' l c) ks[m] := by
  obtain ⟨ad, hA, hB, c0, c1, c2, c3, e, k0, k1, k2, k3⟩ := h.cell m hm
  have hx := h.kid m _ (List.getElem?_eq_getElem hm)
  generalize ks[m] = t at *
  obtain ⟨k, n, s, ks'⟩ := t
  obtain ⟨A', c', vs', ev, _⟩ := hx.kids
  rw [ev] at e hx
  injection e with e1
  have e2 := congrArg Array.toList e1
  simp only [List.cons.injEq] at e2
  obtain ⟨rfl, rfl, rfl, rfl, _⟩ := e2
  exact ⟨ad, k, n, s, A', _, c', hA, hB, k0, k1, k2, k3, hx⟩
abbrev OwnX (lo hi : Nat) (w : World) (v : Value) (t : T) : Prop := OwnE 27 w lo hi v t
end Go.Proofs.YtklcbagddijkgaaGreatDoor.Tr

/- Expressions of the call's own: marked. -/
set_option maxRecDepth 100000
namespace Go.Proofs.YtklcbagddijkgaaGreatDoor.Tr
open Go.RowKit Go.Lib Go.Sort Go.Proofs.YtklcbagddijkgaaGreatDoor.Com Go.Proofs.YtklcbagddijkgaaGreatDoor.Mem Go.Proofs.YtklcbagddijkgaaGreatDoor.Os

mutual
/-- a kid, marked from k on -/
def markN (k : Nat) : T → T
  | .mk _ _ _ ks => .mk k ((k : Int) + 1) (Lh.mk (k + 2)) (markK (k + 3) ks)
def markK (k : Nat) : List T → List T
  | [] => []
  | a :: r => markN k a :: markK (k + 3 * cntT a) r
end
/-- an expression whose kids are marked from k on -/
def markT (k : Nat) : T → T
  | .mk a b s ks => .mk a b s (markK k ks)
theorem markN_mk (k : Nat) (a b : Int) (s : List UInt8) (ks : List T) : markN k (.mk a b s ks) = .mk k ((k : Int) + 1) (Lh.mk (k + 2)) (markK (k + 3) ks) := by rw [markN]
theorem markK_len (k : Nat) (ks : List T) : (markK k ks).length = ks.length := by
  induction ks generalizing k with
  | nil => rw [markK]
  | cons a r ih => rw [markK, List.length_cons, ih, List.length_cons]
theorem markK_at (k : Nat) (ks : List T) : ∀ (j : Nat), (markK k ks)[j]? = (ks[j]?).map (markN (k + 3 * cntK (ks.take j))) := by
  induction ks generalizing k with
  | nil => intro j; rw [markK]; simp
  | cons a r ih =>
    intro j
    rw [markK]
    cases j with
    | zero => simp [cntK]
    | succ j =>
      rw [List.getElem?_cons_succ, ih, List.getElem?_cons_succ]
      have e : cntK ((a :: r).take (j + 1)) = cntT a + cntK (r.take j) := by simp [cntK]
      rw [e, show k + 3 * cntT a + 3 * cntK (r.take j) = k + 3 * (cntT a + cntK (r.take j)) by omega]

theorem OwnE.inv {ty : TypeId} {w : World} {lo hi : Nat} {k n : Int} {s : List UInt8} {A : Option Addr} {l c : Nat} {k' n' : Int} {s' : List UInt8} {ks : List T} (h : OwnE ty w lo hi (nv k n s A l c) (.mk k' n' s' ks)) :
    l = ks.length ∧ ks.length ≤ 9223372036854775807 ∧ ∃ (vs : Nat → Value) (ls hs : Nat → Nat), (ks.length ≠ 0 → ∃ g cs, A = some ⟨g, 0, none⟩ ∧ lo ≤ g ∧ g < hi ∧ Blk w g ty cs ∧ RowsAt cs ks.length vs ∧ ∀ j, j < ks.length → g < ls j ∨ hs j ≤ g) ∧
      (∀ j, j < ks.length → lo ≤ ls j ∧ hs j ≤ hi) ∧ (∀ i j, i < j → j < ks.length → hs i ≤ ls j ∨ hs j ≤ ls i) ∧ ∀ j a, ks[j]? = some a → OwnE ty w (ls j) (hs j) (vs j) a := by
  generalize hv : nv k n s A l c = v at h
  generalize ht : T.mk k' n' s' ks = t at h
  cases h with
  | mk A2 c2 vs ls hs hsl hkl hA hin hdis hk =>
    injection ht with h1 h2 h3 h4
    subst h4
    injection hv with e1
    have e2 := congrArg Array.toList e1
    simp only [List.cons.injEq] at e2
    obtain ⟨_, _, _, e3, _⟩ := e2
    injection e3 with e4 e5 e6
    subst e4
    exact ⟨e5, hkl, vs, ls, hs, hA, hin, hdis, hk⟩
theorem OwnE.chg {ty : TypeId} {w w' : World} {lo hi lo' hi' : Nat} {v : Value} {t : T} (h : OwnE ty w lo hi v t) (hc : Chg w w' lo' hi') (hn : hi ≤ lo' ∨ hi' ≤ lo) : OwnE ty w' lo hi v t := by
  induction h with
  | mk A c vs ls hs hsl hkl hA hin hdis hk ih =>
    refine .mk A c vs ls hs hsl hkl (fun hne => ?_) hin hdis (fun j a ha => ih j a ha ?_)
    · obtain ⟨g, cs, e, h1, h2, hb, hr, hd⟩ := hA hne
      exact ⟨g, cs, e, h1, h2, blk_chg hb hc (by omega), hr, hd⟩
    · obtain ⟨h3, h4⟩ := hin j (lt_of_get ha)
      omega
theorem OwnE.own_root {ty : TypeId} {w : World} {lo hi : Nat} {k n : Int} {s : List UInt8} {A : Option Addr} {l c : Nat} {k' n' : Int} {s' : List UInt8} {ks : List T} (h : OwnE ty w lo hi (nv k n s A l c) (.mk k' n' s' ks)) : k = k' ∧ n = n' ∧ s = s' ∧ s.length ≤ 9223372036854775807 := by
  generalize hv : nv k n s A l c = v at h
  generalize ht : T.mk k' n' s' ks = t at h
  cases h with
  | mk A2 c2 vs ls hs hsl hkl hA hin hdis hk =>
    injection ht with h1 h2 h3 h4
    injection hv with e1
    have e2 := congrArg Array.toList e1
    simp only [List.cons.injEq] at e2
    obtain ⟨e3, e4, e5, _⟩ := e2
    injection e3 with _ e6
    injection e4 with _ e7
    injection e5 with e8
    have e9 := congrArg ByteArray.data e8
    have e10 := congrArg Array.toList e9
    dsimp only at e10
    exact ⟨e6.trans h1.symm, e7.trans h2.symm, e10.trans h3.symm, by have := congrArg List.length e10; omega⟩
/-- the node's own fields may be others -/
theorem OwnE.root {ty : TypeId} {w : World} {lo hi : Nat} {k n : Int} {s : List UInt8} {A : Option Addr} {l c : Nat} {k' n' : Int} {s' : List UInt8} {ks : List T} (h : OwnE ty w lo hi (nv k n s A l c) (.mk k' n' s' ks)) (a b : Int) (q : List UInt8) (hq : q.length ≤ 9223372036854775807) :
    OwnE ty w lo hi (nv a b q A l c) (.mk a b q ks) := by
  obtain ⟨rfl, hkl, vs, ls, hs, hA, hin, hdis, hk⟩ := h.inv
  exact .mk A c vs ls hs hq hkl hA hin hdis hk
theorem mk_len (k : Nat) (h0 : 0 < k) (h : k ≤ 9223372036854775807) : (Lh.mk k).length ≤ 9223372036854775807 := by
  have h1 := Num.digs_len k (by omega)
  unfold Num.digs at h1
  rw [if_neg (by omega)] at h1
  have := nDigits_le20 k (by omega)
  unfold Lh.mk
  rw [List.length_cons]
  omega
theorem OwnE.mark {ty : TypeId} {w : World} {lo hi q : Nat} {k n : Int} {s : List UInt8} {A : Option Addr} {l c : Nat} {t : T} (h : OwnE ty w lo hi (nv k n s A l c) (markT (q + 3) t)) (h0 : q + 2 ≤ 9223372036854775807) :
    OwnE ty w lo hi (nv q ((q : Int) + 1) (Lh.mk (q + 2)) A l c) (markN q t) := by
  obtain ⟨k', n', s', ks⟩ := t
  rw [markT] at h
  rw [markN_mk]
  exact h.root _ _ _ (mk_len _ (by omega) h0)
def set3 (cs : List Value) (m : Nat) (c0 c1 c2 : Value) : List Value := ((cs.set (m * 4) c0).set (m * 4 + 1) c1).set (m * 4 + 2) c2
theorem set3_at (cs : List Value) (m i : Nat) (c0 c1 c2 : Value) (h : m * 4 + 3 < cs.length) :
    (set3 cs m c0 c1 c2)[i]? = if i = m * 4 then some c0 else if i = m * 4 + 1 then some c1 else if i = m * 4 + 2 then some c2 else cs[i]? := by
  unfold set3
  simp only [List.getElem?_set, List.length_set]
  by_cases h2 : m * 4 + 2 = i
  · subst h2; simp; omega
  by_cases h1 : m * 4 + 1 = i
  · subst h1; simp; omega
  by_cases h0 : m * 4 = i
  · subst h0; simp; omega
  rw [if_neg h2, if_neg h1, if_neg h0, if_neg (fun e => h0 e.symm), if_neg (fun e => h1 e.symm), if_neg (fun e => h2 e.symm)]
theorem rows_set3 {cs : List Value} {N m : Nat} {vs : Nat → Value} (h : RowsAt cs N vs) (hm : m < N) (c0 c1 c2 d0 d1 d2 c3 : Value) (hv : vs m = .agg #[d0, d1, d2, c3]) : RowsAt (set3 cs m c0 c1 c2) N (fun j => if j = m then .agg #[c0, c1, c2, c3] else vs j) := by
  obtain ⟨e0, e1, e2, e3, hv', q0, q1, q2, q3⟩ := h m hm
  have hl := lt_of_get q3
  rw [hv] at hv'
  injection hv' with hv1
  have hv2 := congrArg Array.toList hv1
  simp only [List.cons.injEq] at hv2
  obtain ⟨rfl, rfl, rfl, rfl, _⟩ := hv2
  intro j hj
  by_cases e : j = m
  · subst e
    refine ⟨c0, c1, c2, c3, if_pos rfl, ?_, ?_, ?_, ?_⟩ <;> rw [set3_at _ _ _ _ _ _ hl]
    · simp
    · simp
    · simp
    · simpa using q3
  · obtain ⟨d0, d1, d2, d3, hv, h0, h1, h2, h3⟩ := h j hj
    refine ⟨d0, d1, d2, d3, (if_neg e).trans hv, ?_, ?_, ?_, ?_⟩ <;> rw [set3_at _ _ _ _ _ _ hl, if_neg (by omega), if_neg (by omega), if_neg (by omega)] <;> assumption

theorem chg_set {w : World} {g i lo hi : Nat} (h1 : lo ≤ g) (h2 : g < hi) (u : Value) : Chg w (w.setCell ⟨g, i, none⟩ u) lo hi :=
  ⟨rfl, rfl, rfl, by simp [World.setCell], fun k _ hr => heap_setCell_other w _ k u (by show k ≠ g; omega)⟩
theorem Same.tr {lo hi : Nat} {a b c : World} (h : Same lo hi a b) (k : Same lo hi b c) : Same lo hi a c := fun i h1 h2 => (k i h1 h2).trans (h i h1 h2)
/-- what markExprS promises of the kids of t -/
def MkE (t : T) : Prop := ∀ (lo hi : Nat) (k0 n0 : Int) (s0 : List UInt8) (A : Option Addr) (l c k : Nat) (w : World), OwnE 27 w lo hi (nv k0 n0 s0 A l c) t → 0 < k → k + 3 * cntT t ≤ 9223372036854775807 →
  Calls Tryz.prog 73 #[.slice A l c, .int .i64 k] w fun e w' => e = .returned (.int .i64 ((k + 3 * (cntT t - 1) : Nat) : Int)) ∧ OwnE 27 w' lo hi (nv k0 n0 s0 A l c) (markT k t) ∧ Chg w w' lo hi
theorem markS_none (A : Option Addr) (c k : Nat) (w : World) : Calls Tryz.prog 73 #[.slice A 0 c, .int .i64 k] w fun e w' => e = .returned (.int .i64 k) ∧ w = w' := by
  go_enter Tryz.func73, Tryz.ntmps73
  go_wp2_with fail
  refine wp_loop_rounds 1 ?_; rw [rounds_succ]
  go_wp2_with fail
  go_ret
  exact ⟨rfl, rfl⟩
set_option maxHeartbeats 4000000 in
theorem markE (t : T) : MkE t := by
  induction t using T.ind with
  | h kk nn ss ks ih =>
    intro lo hi k0 n0 s0 A l c k w ho hk0 hk1
    obtain ⟨rfl, rfl, rfl, hsl⟩ := ho.own_root
    obtain ⟨rfl, hkl, vs, ls, hs, hA, hin, hdis, hkid⟩ := ho.inv
    rw [cntT_mk] at hk1
    have hcnt := hid (cntT_mk k0 n0 s0 ks)
    by_cases hz : ks.length = 0
    · obtain rfl := List.eq_nil_of_length_eq_zero hz
      refine (markS_none A c k w).mono ?_
      rintro e w' ⟨rfl, rfl⟩
      refine ⟨by rw [hcnt.out]; simp [cntK], ?_, chg_refl _ _ _⟩
      have : markT k (.mk k0 n0 s0 []) = .mk k0 n0 s0 [] := by rw [markT, markK]
      rw [this]; exact ho
    obtain ⟨g, cs, rfl, hg1, hg2, hblk, hrow, hgd⟩ := hA hz
    have hinit := hid (show cntK (ks.take 0) = 0 by simp [cntK])
    have hs0 := hid ho
    have hz := hid hz
    have hin := hid hin
    have hdis := hid hdis
    have hgd := hid hgd
    have hih := hid ih
    clear hA ho ih
    have hcs : ∀ j, j < ks.length → j * 4 + 3 < cs.length := fun j hj => by
      obtain ⟨_, _, _, _, _, _, _, _, q3⟩ := hrow j hj
      exact lt_of_get q3
    generalize hN : ks.length = N at *
    go_enter Tryz.func73, Tryz.ntmps73
    go_wp2_with fail
    go_loopw [1, 5] (fun a i wr => ∃ (m : Nat) (cs : List Value) (vs' : Nat → Value), m ≤ N ∧ i = .int .i64 m ∧ a = .int .i64 ((k + 3 * cntK (ks.take m) : Nat) : Int) ∧ Blk wr g 27 cs ∧ RowsAt cs N vs' ∧
      (∀ (j : Nat) (a : T), ks[j]? = some a → OwnE 27 wr (ls j) (hs j) (vs' j) (if j < m then markN (k + 3 * cntK (ks.take j)) a else a)) ∧ Chg w wr lo hi) (fun _ i _ => N - (Go.RowKit.intOf i).toNat)
    case atStart => exact ⟨0, cs, vs, Nat.zero_le _, rfl, by rw [hinit.out]; simp, hblk, hrow, fun j a ha => by rw [if_neg (by omega)]; exact hkid j a ha, chg_refl _ _ _⟩
    case round =>
      clear hblk hrow hkid hcs
      obtain ⟨m, cs, vs', hm, rfl, rfl, hblk, hrow, hkid, hch⟩ := hrel
      by_cases hlt : m < N
      · have hu : ks[m]? = some ks[m] := List.getElem?_eq_getElem (by omega)
        have hle := cntK_le ks (m + 1)
        rw [cntK_take (by omega)] at hle
        have hst := hid (cntK_take (ks := ks) (m := m) (by omega))
        have hq1 : k + 3 * cntK (ks.take m) + 3 * cntT ks[m] ≤ 9223372036854775807 := by omega
        have hpos := cnt_pos ks[m]
        have hom := hkid m _ hu
        rw [if_neg (by omega)] at hom
        obtain ⟨ka, na, sa, A', l', c', hvm⟩ := hom.form
        rw [hvm] at hom
        obtain ⟨r0, r1, r2, r3, hv', q0, q1, q2, q3⟩ := hrow m hlt
        rw [hvm] at hv'
        injection hv' with hv1
        have hv2 := congrArg Array.toList hv1
        simp only [List.cons.injEq] at hv2
        obtain ⟨rfl, rfl, rfl, rfl, _⟩ := hv2
        generalize hq : k + 3 * cntK (ks.take m) = q at *
        have p0 : wr.cell? ⟨g, m * 4, none⟩ = some (.int .i64 ka) := by rw [hblk.cell, q0]
        have p1 : wr.cell? ⟨g, m * 4 + 1, none⟩ = some (.int .i64 na) := by rw [hblk.cell, q1]
        have f0 := hblk.frozen (m * 4)
        have f1 := hblk.frozen (m * 4 + 1)
        have f2 := hblk.frozen (m * 4 + 2)
        have f3 := hblk.frozen (m * 4 + 3)
        have hb0 := hid hblk
        have hr0 := hid hrow
        have hk1' := hid hkid
        have hc0 := hid hch
        have hom := hid hom
        have q2 := hid q2
        have q3 := hid q3
        have hvm := hid hvm
        have hu := hid hu
        have hmt := fun w => Lh.markText_any (q + 2) (by omega) (by omega) w
        rw [show ((q + 2 : Nat) : Int) = (q : Int) + 1 + 1 by omega] at hmt
        have hmt := hid hmt
        have hihm := fun w => hih.out ks[m] (List.getElem_mem _) (ls m) (hs m) ka na sa A' l' c' (q + 3) w
        rw [show ((q + 3 : Nat) : Int) = (q : Int) + 1 + 1 + 1 by omega] at hihm
        have hihm := hid hihm
        have hgm := hid (hgd.out m hlt)
        have him := hid (hin.out m hlt)
        clear hblk hrow hkid hch hv1 q0 q1
        go_wp2_with fail
        refine (hmt.out _).mono ?_
        rintro e w2 ⟨rfl, hb⟩
        have hB1 := ((hb0.out.set_ (m * 4) (.int .i64 (q : Int))).set_ (m * 4 + 1) (.int .i64 ((q : Int) + 1)))
        have hB2 := hB1.below hb hB1.lt
        have p2 : w2.cell? ⟨g, m * 4 + 2, none⟩ = some (sv sa) := by
          rw [hB2.cell]; simp only [List.getElem?_set]; rw [if_neg (by omega), if_neg (by omega)]; exact q2.out
        have p3 : w2.cell? ⟨g, m * 4 + 3, none⟩ = some (.slice A' l' c') := by
          rw [hB2.cell]; simp only [List.getElem?_set]; rw [if_neg (by omega), if_neg (by omega)]; exact q3.out
        have e2 := hB2.frozen (m * 4 + 2)
        have hB3 := hid (hB2.set_ (m * 4 + 2) (sv (Lh.mk (q + 2))))
        -- what the three stores and markText leave as it was
        have hkeep := hid (fun (lo' hi' : Nat) (v : Value) (a : T) (hn : g < lo' ∨ hi' ≤ g) (h : OwnE 27 wr lo' hi' v a) =>
          show OwnE 27 (w2.setCell ⟨g, m * 4 + 2, none⟩ (sv (Lh.mk (q + 2)))) lo' hi' v a from
          ((((h.chg (chg_set (i := m * 4) (Nat.le_refl g) (Nat.lt_succ_self g) (.int .i64 (q : Int))) (by omega)).chg (chg_set (i := m * 4 + 1) (Nat.le_refl g) (Nat.lt_succ_self g) (.int .i64 ((q : Int) + 1))) (by omega)).chg (chg_of_below hb 0 0) (Or.inr (Nat.zero_le _))).chg (chg_set (i := m * 4 + 2) (Nat.le_refl g) (Nat.lt_succ_self g) (sv (Lh.mk (q + 2)))) (by omega)))
        have hc3 := hid (chg_trans (chg_trans (chg_trans (chg_trans hc0.out (chg_set (i := m * 4) hg1 hg2 (.int .i64 (q : Int)))) (chg_set (i := m * 4 + 1) hg1 hg2 (.int .i64 ((q : Int) + 1)))) (chg_of_below hb lo hi)) (chg_set (w := w2) (i := m * 4 + 2) hg1 hg2 (sv (Lh.mk (q + 2)))))
        have hcl := hid (hihm.out _ (hkeep.out _ _ _ _ hgm.out hom.out) (by omega) (by omega))
        clear hB1 hB2 hb hihm hmt
        go_wp2_with fail
        refine hcl.out.mono ?_
        rintro e w4 ⟨rfl, ho4, hch4⟩
        have hres := hid ho4
        have hch4 := hid hch4
        clear ho4
        go_wp2_with fail
        refine ⟨⟨m + 1, _, fun j => if j = m then nv q ((q : Int) + 1) (Lh.mk (q + 2)) A' l' c' else vs' j, hlt, by go_num, ?_, blk_chg hB3.out hch4.out (by have := hgm.out; omega), rows_set3 hr0.out hlt _ _ _ _ _ _ _ hvm.out, ?_, chg_trans hc3.out (chg_mono hch4.out him.out.1 him.out.2)⟩, by simp [Go.RowKit.intOf]; omega⟩
        · have := hst.out
          congr 1
          omega
        · intro j a ha
          by_cases e : j = m
          · subst e
            rw [hu.out] at ha; cases ha
            dsimp only
            rw [if_pos rfl, if_pos (by omega), hq]
            exact hres.out.mark (by omega)
          · dsimp only
            rw [if_neg e]
            have hj := lt_of_get ha
            have h1 := hkeep.out _ _ _ _ (hgd.out j (by omega)) (hk1'.out j a ha)
            have h2 := h1.chg hch4.out (by
              rcases Nat.lt_or_ge j m with h | h
              · have := hdis.out j m h hlt; omega
              · have := hdis.out m j (by omega) (by omega); omega)
            by_cases hjm : j < m
            · rw [if_pos (by omega)]; rw [if_pos hjm] at h2; exact h2
            · rw [if_neg (by omega)]; rw [if_neg hjm] at h2; exact h2
      · obtain rfl : m = N := by omega
        have hf := hid (show ((k + 3 * cntK (ks.take m) : Nat) : Int) = ((k + 3 * (cntT (.mk k0 n0 s0 ks) - 1) : Nat) : Int) by
          rw [List.take_of_length_le (by omega), hcnt.out]; congr 1; omega)
        have hb0 := hid hblk
        have hr0 := hid hrow
        have hk1' := hid hkid
        have hc0 := hid hch
        clear hblk hrow hkid hch
        go_wp2_with fail
        go_ret
        refine ⟨by rw [← hf.out]; rfl, ?_, hc0.out⟩
        have hml : (markK k ks).length = m := by rw [markK_len, hN]
        have hgoal : OwnE 27 wr lo hi (nv k0 n0 s0 (some ⟨g, 0, none⟩) (markK k ks).length c) (.mk k0 n0 s0 (markK k ks)) := by
          refine .mk _ c vs' ls hs hsl (by rw [hml]; exact hkl) (fun _ => ⟨g, cs, rfl, hg1, hg2, hb0.out, by rw [hml]; exact hr0.out, fun j hj => hgd.out j (by omega)⟩) (fun j hj => hin.out j (by omega)) (fun i j hij hj => hdis.out i j hij (by omega)) (fun j a ha => ?_)
          rw [markK_at] at ha
          cases hkj : ks[j]? with
          | none => rw [hkj] at ha; cases ha
          | some b =>
            rw [hkj] at ha
            cases ha
            have := hk1'.out j b hkj
            rw [if_pos (by have := lt_of_get hkj; omega)] at this
            exact this
        rw [hml] at hgoal
        rw [markT]
        exact hgoal
end Go.Proofs.YtklcbagddijkgaaGreatDoor.Tr
