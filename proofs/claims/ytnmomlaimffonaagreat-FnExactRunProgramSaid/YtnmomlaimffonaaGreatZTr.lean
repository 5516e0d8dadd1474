/- Expressions as trees: what a value of the struct reads as. -/
import Derived.Laws.EntriesVeiled
import Derived.Laws.Rows
import Derived.Test.YtnmomlaimffonaaGreatZLhS
set_option maxHeartbeats 4000000
set_option maxRecDepth 100000
namespace Go.Proofs.YtnmomlaimffonaaGreat.Tr
open Go.RowKit Go.Lib Com Mem
inductive T where
  | mk (k n : Int) (s : List UInt8) (ks : List T)
theorem T.ind {P : T → Prop} (h : ∀ k n s ks, (∀ a ∈ ks, P a) → P (.mk k n s ks)) : ∀ t, P t
  | .mk k n s ks => h k n s ks fun a ha => by
    have := List.sizeOf_lt_of_mem ha
    exact T.ind h a
termination_by t => SizeOf.sizeOf t
decreasing_by simp only [T.mk.sizeOf_spec]; omega
abbrev nv (k n : Int) (s : List UInt8) (A : Option Addr) (l c : Nat) : Value := .agg #[.int .i64 k, .int .i64 n, sv s, .slice A l c]
def Ld4 (w : World) (a : Addr) (v : Value) : Prop := ∃ c0 c1 c2 c3, v = .agg #[c0, c1, c2, c3] ∧ w.cell? a = some c0 ∧ w.cell? ⟨a.block, a.off + 1, none⟩ = some c1 ∧ w.cell? ⟨a.block, a.off + 2, none⟩ = some c2 ∧ w.cell? ⟨a.block, a.off + 3, none⟩ = some c3
inductive Ex (w : World) (B : Nat) : Value → T → Prop where
  | mk {k n : Int} {s : List UInt8} {ks : List T} (A : Option Addr) (c : Nat) (vs : Nat → Value) (hs : s.length ≤ 9223372036854775807) (ha : ks.length ≤ 9223372036854775807)
      (hc : ∀ j, j < ks.length → ∃ ad, A = some ad ∧ ad.block < B ∧ Ld4 w (ad.add (j * 4)) (vs j)) (hk : ∀ j a, ks[j]? = some a → Ex w B (vs j) a) : Ex w B (nv k n s A ks.length c) (.mk k n s ks)
theorem Ex.inv {w : World} {B : Nat} {v : Value} {k n : Int} {s : List UInt8} {ks : List T} (h : Ex w B v (.mk k n s ks)) :
    ∃ (A : Option Addr) (c : Nat) (vs : Nat → Value), v = nv k n s A ks.length c ∧ s.length ≤ 9223372036854775807 ∧ ks.length ≤ 9223372036854775807 ∧ (∀ j, j < ks.length → ∃ ad, A = some ad ∧ ad.block < B ∧ Ld4 w (ad.add (j * 4)) (vs j)) ∧ ∀ j a, ks[j]? = some a → Ex w B (vs j) a := by
  cases h with
  | mk A c vs hs ha hc hk => exact ⟨A, c, vs, rfl, hs, ha, hc, hk⟩
theorem Ld4.keep {w w' : World} {a : Addr} {v : Value} (h : Ld4 w a v) (hk : ∀ p : Addr, p.block = a.block → w'.cell? p = w.cell? p) : Ld4 w' a v := by
  obtain ⟨c0, c1, c2, c3, e, h0, h1, h2, h3⟩ := h
  exact ⟨c0, c1, c2, c3, e, (hk _ rfl).trans h0, (hk ⟨a.block, a.off + 1, none⟩ rfl).trans h1, (hk ⟨a.block, a.off + 2, none⟩ rfl).trans h2, (hk ⟨a.block, a.off + 3, none⟩ rfl).trans h3⟩
theorem Ex.blw {w w' : World} {B : Nat} {v : Value} {t : T} (h : Ex w B v t) (hb : Below B w w') : Ex w' B v t := by
  induction h with
  | mk A c vs hs ha hc hk ih =>
    refine .mk A c vs hs ha (fun j hj => ?_) ih
    obtain ⟨ad, e, hB, hl⟩ := hc j hj
    exact ⟨ad, e, hB, hl.keep fun p hp => hb.cell (by rw [hp, add_block]; exact hB)⟩
theorem Ex.more {w : World} {B B' : Nat} {v : Value} {t : T} (h : Ex w B v t) (hB : B ≤ B') : Ex w B' v t := by
  induction h with
  | mk A c vs hs ha hc hk ih =>
    refine .mk A c vs hs ha (fun j hj => ?_) ih
    obtain ⟨ad, e, hB', hl⟩ := hc j hj
    exact ⟨ad, e, by omega, hl⟩
theorem Ex.go {w w' : World} {v : Value} {t : T} (h : Ex w w.heap.size v t) (hb : Below w.heap.size w w') : Ex w' w'.heap.size v t := (h.blw hb).more hb.size
def szT : T → Nat
  | .mk _ _ s ks => s.length + (ks.length + (ks.attach.map fun ⟨a, _⟩ => szT a).sum)
termination_by t => SizeOf.sizeOf t
decreasing_by have := List.sizeOf_lt_of_mem ‹_›; simp only [T.mk.sizeOf_spec]; omega
theorem szT_mk (k n : Int) (s : List UInt8) (ks : List T) : szT (.mk k n s ks) = s.length + (ks.length + (ks.map szT).sum) := by
  rw [szT]; simp
def szK (ks : List T) : Nat := (ks.map szT).sum
theorem szK_take {ks : List T} {m : Nat} (h : m < ks.length) : szK (ks.take (m + 1)) = szK (ks.take m) + szT ks[m] := by
  unfold szK
  rw [List.take_succ_eq_append_getElem h, List.map_append, List.sum_append]; rfl
theorem szK_le (ks : List T) (m : Nat) : szK (ks.take m) ≤ szK ks := by
  unfold szK
  conv => rhs; rw [← List.take_append_drop m ks]
  rw [List.map_append, List.sum_append]; omega
def szAns (tot : Nat) (left : Int) : Int := if (tot : Int) ≤ left then left - tot else -1
structure Kids (w : World) (B : Nat) (A : Option Addr) (ks : List T) (vs : Nat → Value) : Prop where
  cell : ∀ j, j < ks.length → ∃ ad, A = some ad ∧ ad.block < B ∧ Ld4 w (ad.add (j * 4)) (vs j)
  kid : ∀ j a, ks[j]? = some a → Ex w B (vs j) a
theorem Kids.go {w w' : World} {A : Option Addr} {ks : List T} {vs : Nat → Value} (h : Kids w w.heap.size A ks vs) (hb : Below w.heap.size w w') : Kids w' w'.heap.size A ks vs :=
  ⟨fun j hj => by
    obtain ⟨ad, e, hB, hl⟩ := h.cell j hj
    exact ⟨ad, e, Nat.lt_of_lt_of_le hB hb.size, hl.keep fun p hp => hb.cell (by rw [hp, add_block]; exact hB)⟩, fun j a ha => (h.kid j a ha).go hb⟩
theorem Ex.kids {w : World} {B : Nat} {v : Value} {k n : Int} {s : List UInt8} {ks : List T} (h : Ex w B v (.mk k n s ks)) :
    ∃ (A : Option Addr) (c : Nat) (vs : Nat → Value), v = nv k n s A ks.length c ∧ s.length ≤ 9223372036854775807 ∧ ks.length ≤ 9223372036854775807 ∧ Kids w B A ks vs := by
  obtain ⟨A, c, vs, e, h1, h2, h3, h4⟩ := h.inv
  exact ⟨A, c, vs, e, h1, h2, h3, h4⟩
def SzE (t : T) : Prop := ∀ (left : Int) (v : Value) (w : World), Ex w w.heap.size v t → 0 ≤ left → left ≤ 1048576 → Calls Tryz.prog 93 #[v, .int .i64 left] w fun e w' => e = .returned (.int .i64 (szAns (szT t) left)) ∧ Below w.heap.size w w'
theorem szES (ks : List T) (ih : ∀ a ∈ ks, SzE a) (A : Option Addr) (c : Nat) (left : Int) (vs : Nat → Value) (w : World) (hk : Kids w w.heap.size A ks vs) (hl : ks.length ≤ 9223372036854775807) (h0 : 0 ≤ left) (h1 : left ≤ 1048576) :
    Calls Tryz.prog 112 #[.slice A ks.length c, .int .i64 left] w fun e w' => e = .returned (.int .i64 (szAns (ks.length + szK ks) left)) ∧ Below w.heap.size w w' := by
  have t0' : wrap64 (left - (ks.length : Int)) = left - (ks.length : Int) := by unfold wrap64; omega
  by_cases hbig : left < ks.length
  · have t0 : decide (left - (ks.length : Int) < 0) = true := decide_eq_true (by omega)
    have hf := hid (show szAns (ks.length + szK ks) left = -1 by unfold szAns; rw [if_neg (by omega)])
    go_enter Tryz.func112, Tryz.ntmps112
    go_wp2_with fail
    go_ret
    exact ⟨by rw [hf.out]; rfl, Below.refl _ _⟩
  have t0 : decide (left - (ks.length : Int) < 0) = false := decide_eq_false (by omega)
  have hn := hid (show szK (ks.take 0) = 0 by simp [szK])
  generalize hL : ks.length = n at *
  go_enter Tryz.func112, Tryz.ntmps112
  go_wp2_with fail
  go_loopw [1, 5] (fun a i wr => ∃ m : Nat, m ≤ n ∧ i = .int .i64 m ∧ a = .int .i64 (left - (n : Int) - (szK (ks.take m) : Int)) ∧ (szK (ks.take m) : Int) ≤ left - n ∧ Below w.heap.size w wr) (fun _ i _ => n - (Go.RowKit.intOf i).toNat)
  case atStart => exact ⟨0, Nat.zero_le _, rfl, by rw [hn.out]; simp, by rw [hn.out]; omega, Below.refl _ _⟩
  case round =>
    obtain ⟨m, hm, rfl, rfl, hs, hb⟩ := hrel
    by_cases hlt : m < n
    · have hkr := hk.go hb
      obtain ⟨ad, rfl, _, c0, c1, c2, c3, e, k0, k1, k2, k3⟩ := hkr.cell m (by omega)
      have hu : ks[m]? = some ks[m] := List.getElem?_eq_getElem (by omega)
      have hkid := hkr.kid m _ hu
      have hmem : ks[m] ∈ ks := List.getElem_mem _
      have hst := hid (szK_take (ks := ks) (m := m) (by omega))
      have hle := hid (szK_le ks (m + 1))
      have hck := hid (ih _ hmem (left - (n : Int) - (szK (ks.take m) : Int)) _ wr hkid (by omega) (by omega))
      rw [e] at hck
      have hb := hid hb
      by_cases hfit : (szT ks[m] : Int) ≤ left - (n : Int) - (szK (ks.take m) : Int)
      · have hq : szAns (szT ks[m]) (left - (n : Int) - (szK (ks.take m) : Int)) = left - (n : Int) - (szK (ks.take m) : Int) - (szT ks[m] : Int) := by unfold szAns; rw [if_pos hfit]
        rw [hq] at hck
        have tq : decide (left - (n : Int) - (szK (ks.take m) : Int) - (szT ks[m] : Int) < 0) = false := decide_eq_false (by omega)
        clear hq hu hkid hmem hkr e
        go_wp2_with fail
        refine hck.out.mono ?_
        rintro e w2 ⟨rfl, hb2⟩
        have hb2 := hid (hb.out.trans (hb2.mono hb.out.size))
        go_wp2_with fail
        exact ⟨⟨m + 1, hlt, by go_num, by rw [hst.out]; congr 1; omega, by rw [hst.out]; omega, hb2.out⟩, by simp [Go.RowKit.intOf]; omega⟩
      · have hq : szAns (szT ks[m]) (left - (n : Int) - (szK (ks.take m) : Int)) = -1 := by unfold szAns; rw [if_neg hfit]
        rw [hq] at hck
        have hf := hid (show szAns (n + szK ks) left = -1 by
          have h1 := hle.out
          rw [hst.out] at h1
          unfold szAns; rw [if_neg (by omega)])
        clear hq hu hkid hmem hkr e
        go_wp2_with fail
        refine hck.out.mono ?_
        rintro e w2 ⟨rfl, hb2⟩
        have hb2 := hid (hb.out.trans (hb2.mono hb.out.size))
        go_wp2_with fail
        go_ret
        exact ⟨by rw [hf.out]; rfl, hb2.out⟩
    · obtain rfl : m = n := by omega
      have hf := hid (show szAns (m + szK ks) left = left - (m : Int) - (szK (ks.take m) : Int) by
        rw [List.take_of_length_le (by omega)] at hs ⊢
        unfold szAns; rw [if_pos (by omega)]; omega)
      go_wp2_with fail
      go_ret
      exact ⟨by rw [hf.out]; rfl, hb⟩
theorem szE (t : T) : SzE t := by
  induction t using T.ind with
  | h k n s ks ih =>
    intro left v w hv h0 h1
    obtain ⟨A, c, vs, rfl, hs, hl, hk⟩ := hv.kids
    have e1 : wrap64 (left - (s.length : Int)) = left - (s.length : Int) := by unfold wrap64; omega
    by_cases hbig : left < s.length
    · have t0 : decide (left - (s.length : Int) < 0) = true := decide_eq_true (by omega)
      have hf := hid (show szAns (szT (.mk k n s ks)) left = -1 by rw [szT_mk]; unfold szAns; rw [if_neg (by omega)])
      clear hk
      go_enter Tryz.func93, Tryz.ntmps93
      go_wp2_with fail
      go_ret
      exact ⟨by rw [hf.out]; rfl, (Below.refl _ _).alloc (Nat.le_refl _) _⟩
    · have t0 : decide (left - (s.length : Int) < 0) = false := decide_eq_false (by omega)
      have hb1 : Below w.heap.size w (w.alloc (.cells #[.int .i64 k, .int .i64 n, sv s, .slice A ks.length c] 101)) := (Below.refl _ _).alloc (Nat.le_refl _) _
      have hcl := szES ks ih A c (left - (s.length : Int)) vs _ (hk.go hb1) hl (by omega) (by omega)
      have hszt := szT_mk k n s ks
      have hszt : szT (.mk k n s ks) = s.length + (ks.length + szK ks) := hszt
      have hb1 := hid hb1
      by_cases hfit : ((ks.length + szK ks : Nat) : Int) ≤ left - (s.length : Int)
      · have hq : szAns (ks.length + szK ks) (left - (s.length : Int)) = left - (s.length : Int) - ((ks.length + szK ks : Nat) : Int) := by unfold szAns; rw [if_pos hfit]
        rw [hq] at hcl
        have hcl := hid hcl
        have hf := hid (show szAns (szT (.mk k n s ks)) left = left - (s.length : Int) - ((ks.length + szK ks : Nat) : Int) by rw [hszt]; unfold szAns; rw [if_pos (by omega)]; omega)
        have tq : decide (left - (s.length : Int) - ((ks.length + szK ks : Nat) : Int) < 0) = false := decide_eq_false (by omega)
        clear hq hk hszt
        generalize ((ks.length + szK ks : Nat) : Int) = Z at *
        go_enter Tryz.func93, Tryz.ntmps93
        go_wp2_with fail
        refine hcl.out.mono ?_
        rintro e w2 ⟨rfl, hb2⟩
        have hb2 := hid (hb1.out.trans (hb2.mono hb1.out.size))
        go_wp2_with fail
        go_ret
        exact ⟨by rw [hf.out]; rfl, hb2.out⟩
      · have hq : szAns (ks.length + szK ks) (left - (s.length : Int)) = -1 := by unfold szAns; rw [if_neg hfit]
        rw [hq] at hcl
        have hcl := hid hcl
        have hf := hid (show szAns (szT (.mk k n s ks)) left = -1 by rw [hszt]; unfold szAns; rw [if_neg (by omega)])
        clear hq hk hszt
        go_enter Tryz.func93, Tryz.ntmps93
        go_wp2_with fail
        refine hcl.out.mono ?_
        rintro e w2 ⟨rfl, hb2⟩
        have hb2 := hid (hb1.out.trans (hb2.mono hb1.out.size))
        go_wp2_with fail
        go_ret
        exact ⟨by rw [hf.out]; rfl, hb2.out⟩
def cntT : T → Nat
  | .mk _ _ _ ks => 1 + (ks.attach.map fun ⟨a, _⟩ => cntT a).sum
termination_by t => SizeOf.sizeOf t
decreasing_by have := List.sizeOf_lt_of_mem ‹_›; simp only [T.mk.sizeOf_spec]; omega
def cntK (ks : List T) : Nat := (ks.map cntT).sum
theorem cntT_mk (k n : Int) (s : List UInt8) (ks : List T) : cntT (.mk k n s ks) = 1 + cntK ks := by
  rw [cntT]; simp [cntK]
theorem cntK_take {ks : List T} {m : Nat} (h : m < ks.length) : cntK (ks.take (m + 1)) = cntK (ks.take m) + cntT ks[m] := by
  unfold cntK
  rw [List.take_succ_eq_append_getElem h, List.map_append, List.sum_append]; rfl
theorem cntK_le (ks : List T) (m : Nat) : cntK (ks.take m) ≤ cntK ks := by
  unfold cntK
  conv => rhs; rw [← List.take_append_drop m ks]
  rw [List.map_append, List.sum_append]; omega
theorem cnt_sum (ks : List T) (h : ∀ a ∈ ks, cntT a ≤ 1 + szT a) : cntK ks ≤ ks.length + szK ks := by
  induction ks with
  | nil => simp [cntK, szK]
  | cons a r ih =>
    have h1 := ih fun x hx => h x (by simp [hx])
    have h2 := h a (by simp)
    simp only [cntK, szK, List.map_cons, List.sum_cons, List.length_cons] at *
    omega
theorem cnt_sz (t : T) : cntT t ≤ 1 + szT t := by
  induction t using T.ind with
  | h k n s ks ih =>
    have := cnt_sum ks ih
    rw [cntT_mk, szT_mk]
    unfold szK at this
    omega
theorem cnt_pos (t : T) : 1 ≤ cntT t := by cases t; rw [cntT_mk]; omega
def depK (ks : List T) (f : T → Nat) : Nat := ks.foldl (fun n a => max n (f a)) 0
def depT : T → Nat
  | .mk _ _ _ ks => (ks.attach.foldl (fun n ⟨a, _⟩ => max n (depT a)) 0) + 1
termination_by t => SizeOf.sizeOf t
decreasing_by have := List.sizeOf_lt_of_mem ‹_›; simp only [T.mk.sizeOf_spec]; omega
theorem depT_mk (k n : Int) (s : List UInt8) (ks : List T) : depT (.mk k n s ks) = depK ks depT + 1 := by
  rw [depT]; simp [depK]
theorem depK_take {ks : List T} {f : T → Nat} {m : Nat} (h : m < ks.length) : depK (ks.take (m + 1)) f = max (depK (ks.take m) f) (f ks[m]) := by
  unfold depK
  rw [List.take_succ_eq_append_getElem h, List.foldl_append]; rfl
theorem depK_bd (ks : List T) (f : T → Nat) (B : Nat) (h : ∀ a ∈ ks, f a ≤ B) : depK ks f ≤ B := by
  have : ∀ (ks : List T) (n : Nat), n ≤ B → (∀ a ∈ ks, f a ≤ B) → ks.foldl (fun n a => max n (f a)) n ≤ B := by
    intro ks
    induction ks with
    | nil => intro n hn _; simpa using hn
    | cons a r ih =>
      intro n hn h
      rw [List.foldl_cons]
      exact ih _ (Nat.max_le.2 ⟨hn, h a (by simp)⟩) fun x hx => h x (by simp [hx])
  exact this ks 0 (Nat.zero_le _) h
theorem cntK_mem {ks : List T} {a : T} (h : a ∈ ks) : cntT a ≤ cntK ks := by
  induction ks with
  | nil => cases h
  | cons b r ih =>
    simp only [cntK, List.map_cons, List.sum_cons]
    rcases List.mem_cons.1 h with rfl | h
    · omega
    · have := ih h; simp only [cntK] at this; omega
theorem dep_cnt (t : T) : depT t ≤ cntT t := by
  induction t using T.ind with
  | h k n s ks ih =>
    rw [depT_mk, cntT_mk]
    have := depK_bd ks depT (cntK ks) fun a ha => Nat.le_trans (ih a ha) (cntK_mem ha)
    omega
theorem box_blk (w : World) (k n : Int) (s : List UInt8) (A : Option Addr) (l c : Nat) (ty : TypeId) : Blk (w.alloc (.cells #[.int .i64 k, .int .i64 n, sv s, .slice A l c] ty)) w.heap.size ty [.int .i64 k, .int .i64 n, sv s, .slice A l c] := Blk.new w ty _
theorem box_below (w : World) (o : Obj) : Below w.heap.size w (w.alloc o) := (Below.refl _ _).alloc (Nat.le_refl _) _
theorem smax_any (p q : Nat) (w : World) : Calls Tryz.prog 89 #[.int .i64 p, .int .i64 q] w fun e w' => e = .returned (.int .i64 ((max p q : Nat) : Int)) ∧ w = w' := by
  by_cases h : q < p
  · have t1 : decide ((q : Int) < (p : Int)) = true := decide_eq_true (by omega)
    have hf := hid (show ((max p q : Nat) : Int) = p by omega)
    go_enter Tryz.func89, Tryz.ntmps89
    go_wp2_with fail
    go_ret
    exact ⟨by rw [hf.out]; rfl, rfl⟩
  · have t1 : decide ((q : Int) < (p : Int)) = false := decide_eq_false (by omega)
    have hf := hid (show ((max p q : Nat) : Int) = q by omega)
    go_enter Tryz.func89, Tryz.ntmps89
    go_wp2_with fail
    go_ret
    exact ⟨by rw [hf.out]; rfl, rfl⟩
theorem sdepth (t : T) : ∀ (v : Value) (w : World), Ex w w.heap.size v t → cntT t ≤ 2000000 → Calls Tryz.prog 132 #[v] w fun e w' => e = .returned (.int .i64 (depT t)) ∧ Below w.heap.size w w' := by
  induction t using T.ind with
  | h k n s ks ih =>
    intro v w hv hbd
    obtain ⟨A, c, vs, rfl, hs, hl, hk⟩ := hv.kids
    have hb1 := box_below w (.cells #[.int .i64 k, .int .i64 n, sv s, .slice A ks.length c] 92)
    have hblk := hid (box_blk w k n s A ks.length c 92)
    have hk1 := hid (hk.go hb1)
    have hmk := hid (depT_mk k n s ks)
    have hd := dep_cnt (.mk k n s ks)
    rw [hmk.out] at hd
    rw [cntT_mk] at hbd
    have h0 := hid (show depK (ks.take 0) depT = 0 by simp [depK])
    have hb1 := hid hb1
    clear hk hv hd
    generalize hL : ks.length = N at *
    go_enter Tryz.func132, Tryz.ntmps132
    go_wp2_with fail
    generalize (w.alloc (.cells #[.int .i64 k, .int .i64 n, sv s, .slice A N c] 92)) = w1 at *
    go_loopw [3, 4] (fun a i wr => ∃ m : Nat, m ≤ N ∧ i = .int .i64 m ∧ a = .int .i64 (depK (ks.take m) depT : Nat) ∧ Below w1.heap.size w1 wr) (fun _ i _ => N - (Go.RowKit.intOf i).toNat)
    case atStart => exact ⟨0, Nat.zero_le _, rfl, by rw [h0.out]; rfl, Below.refl _ _⟩
    case round =>
      obtain ⟨m, hm, rfl, rfl, hb⟩ := hrel
      have b3 : wr.cell? ⟨w.heap.size, 3, none⟩ = some (.slice A N c) := (hblk.out.below hb hblk.out.lt).cell 3
      by_cases hlt : m < N
      · have hkr := hk1.out.go hb
        obtain ⟨ad, rfl, _, c0, c1, c2, c3, e, k0, k1, k2, k3⟩ := hkr.cell m (by omega)
        have hkid := hkr.kid m _ (List.getElem?_eq_getElem (by omega))
        have hst := hid (depK_take (ks := ks) (f := depT) (m := m) (by omega))
        have hmem := cntK_mem (List.getElem_mem (l := ks) (n := m) (by omega))
        have hck := hid (ih ks[m] (List.getElem_mem _) _ wr hkid (by omega))
        rw [e] at hck
        have hmx := hid (smax_any (depK (ks.take m) depT) (depT ks[m]))
        have hb := hid hb
        clear hkid hkr e hmem
        go_wp2_with fail
        refine hck.out.mono ?_
        rintro e w2 ⟨rfl, hb2⟩
        have hb2 := hid (hb.out.trans (hb2.mono hb.out.size))
        go_wp2_with fail
        refine (hmx.out _).mono ?_
        rintro e w3 ⟨rfl, rfl⟩
        go_wp2_with fail
        exact ⟨⟨m + 1, hlt, by go_num, by rw [hst.out], hb2.out⟩, by simp [Go.RowKit.intOf]; omega⟩
      · obtain rfl : m = N := by omega
        have hd := dep_cnt (.mk k n s ks)
        rw [hmk.out, cntT_mk] at hd
        have hf := hid (show (depT (.mk k n s ks) : Int) = (depK (ks.take m) depT : Nat) + 1 by
          rw [List.take_of_length_le (by omega), hmk.out]; omega)
        have hbb : depK (ks.take m) depT ≤ 2000000 := by rw [List.take_of_length_le (by omega)]; omega
        have hb := hid hb
        clear hd
        go_wp2_with fail
        go_ret
        exact ⟨by rw [hf.out]; rfl, hb1.out.trans (hb.out.mono hb1.out.size)⟩
theorem left_next {p q tot : Nat} {left L : Int} (hLe : L = left - 1 - (p : Int)) (hle : p + q ≤ tot) : (0 ≤ szAns q L ∧ szAns q L = left - 1 - ((p + q : Nat) : Int)) ∨ (szAns q L = -1 ∧ left < 1 + (tot : Int)) := by
  unfold szAns
  by_cases hq : (q : Int) ≤ L
  · rw [if_pos hq]; left; omega
  · rw [if_neg hq]; right; omega
theorem sleft (t : T) : ∀ (left : Int) (v : Value) (w : World), Ex w w.heap.size v t → 0 ≤ left → left ≤ 1000000 → Calls Tryz.prog 131 #[v, .int .i64 left] w fun e w' => e = .returned (.int .i64 (szAns (cntT t) left)) ∧ Below w.heap.size w w' := by
  induction t using T.ind with
  | h k n s ks ih =>
    intro left v w hv h0 h1
    obtain ⟨A, c, vs, rfl, hs, hl, hk⟩ := hv.kids
    have hb1 := box_below w (.cells #[.int .i64 k, .int .i64 n, sv s, .slice A ks.length c] 92)
    have hblk := hid (box_blk w k n s A ks.length c 92)
    have hk1 := hid (hk.go hb1)
    have hmk := hid (cntT_mk k n s ks)
    have hz := hid (show cntK (ks.take 0) = 0 by simp [cntK])
    have hb1 := hid hb1
    clear hk hv
    generalize hL : ks.length = N at *
    go_enter Tryz.func131, Tryz.ntmps131
    go_wp2_with fail
    generalize (w.alloc (.cells #[.int .i64 k, .int .i64 n, sv s, .slice A N c] 92)) = w1 at *
    go_loopw [1, 5] (fun a i wr => ∃ (m : Nat) (L : Int), m ≤ N ∧ i = .int .i64 m ∧ a = .int .i64 L ∧ ((0 ≤ L ∧ L = left - 1 - (cntK (ks.take m) : Int)) ∨ (L = -1 ∧ left < 1 + (cntK ks : Int))) ∧ Below w1.heap.size w1 wr) (fun _ i _ => N - (Go.RowKit.intOf i).toNat)
    case atStart => exact ⟨0, left - 1, Nat.zero_le _, rfl, rfl, by rw [hz.out]; omega, Below.refl _ _⟩
    case round =>
      obtain ⟨m, L, hm, rfl, rfl, hcase, hb⟩ := hrel
      have b3 : wr.cell? ⟨w.heap.size, 3, none⟩ = some (.slice A N c) := (hblk.out.below hb hblk.out.lt).cell 3
      rcases hcase with ⟨hL0, hLe⟩ | ⟨hLe, hover⟩
      · have t2 : decide (0 ≤ L) = true := decide_eq_true hL0
        by_cases hlt : m < N
        · have hkr := hk1.out.go hb
          obtain ⟨ad, rfl, _, c0, c1, c2, c3, e, k0, k1, k2, k3⟩ := hkr.cell m (by omega)
          have hkid := hkr.kid m _ (List.getElem?_eq_getElem (by omega))
          have hst := hid (cntK_take (ks := ks) (m := m) (by omega))
          have hle := hid (cntK_le ks (m + 1))
          have hck := hid (ih ks[m] (List.getElem_mem _) L _ wr hkid hL0 (by omega))
          rw [e] at hck
          have hnext := hid (show (0 ≤ szAns (cntT ks[m]) L ∧ szAns (cntT ks[m]) L = left - 1 - (cntK (ks.take (m + 1)) : Int)) ∨ (szAns (cntT ks[m]) L = -1 ∧ left < 1 + (cntK ks : Int)) by
            have h2 := hle.out
            rw [hst.out] at h2 ⊢
            exact left_next hLe h2)
          have hb := hid hb
          replace hLe := hid hLe
          clear hkid hkr e hle
          generalize szAns (cntT ks[m]) L = L' at *
          go_wp2_with fail
          refine hck.out.mono ?_
          rintro e w2 ⟨rfl, hb2⟩
          have hb2 := hid (hb.out.trans (hb2.mono hb.out.size))
          go_wp2_with fail
          exact ⟨⟨m + 1, L', hlt, by go_num, rfl, hnext.out, hb2.out⟩, by simp [Go.RowKit.intOf]; omega⟩
        · obtain rfl : m = N := by omega
          have hf := hid (show szAns (cntT (.mk k n s ks)) left = L by
            rw [List.take_of_length_le (by omega)] at hLe
            rw [hmk.out]; unfold szAns; rw [if_pos (by omega)]; omega)
          have hb := hid hb
          replace hLe := hid hLe
          go_wp2_with fail
          go_ret
          exact ⟨by rw [hf.out]; rfl, hb1.out.trans (hb.out.mono hb1.out.size)⟩
      · subst hLe
        have hf := hid (show szAns (cntT (.mk k n s ks)) left = -1 by
          rw [hmk.out]; unfold szAns; rw [if_neg (by omega)])
        have hb := hid hb
        clear hover
        by_cases hlt : m < N
        · go_wp2_with fail
          go_ret
          exact ⟨by rw [hf.out]; rfl, hb1.out.trans (hb.out.mono hb1.out.size)⟩
        · obtain rfl : m = N := by omega
          go_wp2_with fail
          go_ret
          exact ⟨by rw [hf.out]; rfl, hb1.out.trans (hb.out.mono hb1.out.size)⟩
open Go.Sort
mutual
def eqT : T → T → Bool
  | .mk k n s ks, .mk k' n' s' ks' => (k == k') && ((n == n') && ((s == s') && eqL ks ks'))
def eqL : List T → List T → Bool
  | [], [] => true
  | a :: r, b :: q => eqT a b && eqL r q
  | [], _ :: _ => false
  | _ :: _, [] => false
end
theorem eqT_mk (k n k' n' : Int) (s s' : List UInt8) (ks ks' : List T) : eqT (.mk k n s ks) (.mk k' n' s' ks') = ((k == k') && ((n == n') && ((s == s') && eqL ks ks'))) := by rw [eqT]
def EqE (t : T) : Prop := ∀ (v v' : Value) (w : World), Ex w w.heap.size v t → Ex w w.heap.size v' t → Calls Tryz.prog 95 #[v, v'] w fun e w' => e = .returned (.bool true) ∧ Below w.heap.size w w'
theorem eqES (ks : List T) (ih : ∀ a ∈ ks, EqE a) (A A' : Option Addr) (c c' : Nat) (vs vs' : Nat → Value) (w : World) (hk : Kids w w.heap.size A ks vs) (hk' : Kids w w.heap.size A' ks vs') (hl : ks.length ≤ 9223372036854775807) :
    Calls Tryz.prog 114 #[.slice A ks.length c, .slice A' ks.length c'] w fun e w' => e = .returned (.bool true) ∧ Below w.heap.size w w' := by
  generalize hL : ks.length = N at *
  have hcmp : ((N : Int) != (N : Int)) = false := bne_self_eq_false _
  go_enter Tryz.func114, Tryz.ntmps114
  go_wp2_with fail
  go_loopw [5] (fun i wr => ∃ m : Nat, m ≤ N ∧ i = .int .i64 m ∧ Below w.heap.size w wr) (fun i _ => N - (Go.RowKit.intOf i).toNat)
  case atStart => exact ⟨0, Nat.zero_le _, rfl, Below.refl _ _⟩
  case round =>
    obtain ⟨m, hm, rfl, hb⟩ := hrel
    by_cases hlt : m < N
    · have hkr := hk.go hb
      have hkr' := hk'.go hb
      obtain ⟨ad, rfl, _, c0, c1, c2, c3, e1, k0, k1, k2, k3⟩ := hkr.cell m (by omega)
      obtain ⟨ad', rfl, _, d0, d1, d2, d3, e2, l0, l1, l2, l3⟩ := hkr'.cell m (by omega)
      have hu : ks[m]? = some ks[m] := List.getElem?_eq_getElem (by omega)
      have x1 := hkr.kid m _ hu
      have x2 := hkr'.kid m _ hu
      rw [e1] at x1
      rw [e2] at x2
      have hih := ih ks[m] (List.getElem_mem _)
      have cE := hid (fun (d : Nat) (os : Array Obj) => Calls.regrown_of (d := d) (os := os) (hih _ _ (grow (redrawn wr d) os) (x1.go (below_regrown wr d os)) (x2.go (below_regrown wr d os))))
      replace k0 := cell_regrown k0
      replace k1 := cell_regrown k1
      replace k2 := cell_regrown k2
      replace k3 := cell_regrown k3
      replace l0 := cell_regrown l0
      replace l1 := cell_regrown l1
      replace l2 := cell_regrown l2
      replace l3 := cell_regrown l3
      replace hb := hid hb
      clear hkr hkr' x1 x2 hu e1 e2 hih
      go_wp2_with fail
      refine wp_region_quiet_below (by kernel_rfl) (by kernel_rfl) ?_
      repeat (quiet_step (exact cE.out _ _))
      refine wpQuiet_nil ?_
      intro _ hw'
      obtain ⟨⟨dq, osq⟩, hw''⟩ := hw'
      subst hw''
      have hq := hid (hb.out.trans ((below_regrown wr dq osq).mono hb.out.size))
      clear k0 k1 k2 k3 l0 l1 l2 l3 cE hb
      generalize grow (redrawn wr dq) osq = wq at *
      go_wp2_with fail
      exact ⟨⟨m + 1, hlt, by go_num, hq.out⟩, by simp [Go.RowKit.intOf]; omega⟩
    · obtain rfl : m = N := by omega
      go_wp2_with fail
      go_ret
      exact ⟨rfl, hb⟩
theorem eqE (t : T) : EqE t := by
  induction t using T.ind with
  | h k n s ks ih =>
    intro v v' w hv hv'
    obtain ⟨A, c, vs, rfl, hs, hl, hk⟩ := hv.kids
    obtain ⟨A', c', vs', rfl, _, _, hk'⟩ := hv'.kids
    have n1 : (k != k) = false := bne_self_eq_false _
    have n2 : (n != n) = false := bne_self_eq_false _
    have n3 : (s != s) = false := bne_self_eq_false _
    have s1 := size_alloc' w (.cells #[.int .i64 k, .int .i64 n, sv s, .slice A ks.length c] 92)
    have hb1 := box_below w (.cells #[.int .i64 k, .int .i64 n, sv s, .slice A ks.length c] 92)
    have hb2 := hb1.trans ((box_below (w.alloc (.cells #[.int .i64 k, .int .i64 n, sv s, .slice A ks.length c] 92)) (.cells #[.int .i64 k, .int .i64 n, sv s, .slice A' ks.length c'] 92)).mono (by omega))
    have hcl := hid (eqES ks ih A A' c c' vs vs' _ (hk.go hb2) (hk'.go hb2) hl)
    replace hb2 := hid hb2
    clear hk hk' hb1 s1 hv hv'
    go_enter Tryz.func95, Tryz.ntmps95
    go_wp2_with fail
    refine hcl.out.mono ?_
    rintro e w2 ⟨rfl, hb3⟩
    have hb3 := hid (hb2.out.trans (hb3.mono hb2.out.size))
    go_wp2_with fail
    go_ret
    exact ⟨rfl, hb3.out⟩
open YtnmomlaimffonaaGreat.Os
def RowsAt (cs : List Value) (m : Nat) (vs : Nat → Value) : Prop := ∀ j, j < m → ∃ c0 c1 c2 c3, vs j = .agg #[c0, c1, c2, c3] ∧ cs[j * 4]? = some c0 ∧ cs[j * 4 + 1]? = some c1 ∧ cs[j * 4 + 2]? = some c2 ∧ cs[j * 4 + 3]? = some c3
def set4 (cs : List Value) (m : Nat) (c0 c1 c2 c3 : Value) : List Value := (((cs.set (m * 4) c0).set (m * 4 + 1) c1).set (m * 4 + 2) c2).set (m * 4 + 3) c3
theorem set4_len (cs : List Value) (m : Nat) (c0 c1 c2 c3 : Value) : (set4 cs m c0 c1 c2 c3).length = cs.length := by simp [set4]
theorem set4_at (cs : List Value) (m i : Nat) (c0 c1 c2 c3 : Value) (h : m * 4 + 3 < cs.length) :
    (set4 cs m c0 c1 c2 c3)[i]? = if i = m * 4 then some c0 else if i = m * 4 + 1 then some c1 else if i = m * 4 + 2 then some c2 else if i = m * 4 + 3 then some c3 else cs[i]? := by
  unfold set4
  simp only [List.getElem?_set, List.length_set]
  by_cases h3 : m * 4 + 3 = i
  · subst h3; simp; omega
  by_cases h2 : m * 4 + 2 = i
  · subst h2; simp; omega
  by_cases h1 : m * 4 + 1 = i
  · subst h1; simp; omega
  by_cases h0 : m * 4 = i
  · subst h0; simp; omega
  rw [if_neg h3, if_neg h2, if_neg h1, if_neg h0, if_neg (fun e => h0 e.symm), if_neg (fun e => h1 e.symm), if_neg (fun e => h2 e.symm), if_neg (fun e => h3 e.symm)]
theorem RowsAt.set {cs : List Value} {m : Nat} {vs : Nat → Value} (h : RowsAt cs m vs) (c0 c1 c2 c3 : Value) (hl : m * 4 + 3 < cs.length) : RowsAt (set4 cs m c0 c1 c2 c3) (m + 1) (fun j => if j = m then .agg #[c0, c1, c2, c3] else vs j) := by
  intro j hj
  by_cases e : j = m
  · subst e
    refine ⟨c0, c1, c2, c3, if_pos rfl, ?_, ?_, ?_, ?_⟩ <;> rw [set4_at _ _ _ _ _ _ _ hl] <;> simp
  · obtain ⟨d0, d1, d2, d3, hv, h0, h1, h2, h3⟩ := h j (by omega)
    refine ⟨d0, d1, d2, d3, (if_neg e).trans hv, ?_, ?_, ?_, ?_⟩ <;> rw [set4_at _ _ _ _ _ _ _ hl, if_neg (by omega), if_neg (by omega), if_neg (by omega), if_neg (by omega)] <;> assumption
inductive OwnE (ty : TypeId) (w : World) : Nat → Nat → Value → T → Prop where
  | mk {lo hi : Nat} {k n : Int} {s : List UInt8} {ks : List T} (A : Option Addr) (c : Nat) (vs : Nat → Value) (ls hs : Nat → Nat) (hsl : s.length ≤ 9223372036854775807) (hkl : ks.length ≤ 9223372036854775807)
      (hA : ks.length ≠ 0 → ∃ g cs, A = some ⟨g, 0, none⟩ ∧ lo ≤ g ∧ g < hi ∧ Blk w g ty cs ∧ RowsAt cs ks.length vs ∧ ∀ j, j < ks.length → g < ls j ∨ hs j ≤ g)
      (hin : ∀ j, j < ks.length → lo ≤ ls j ∧ hs j ≤ hi) (hdis : ∀ i j, i < j → j < ks.length → hs i ≤ ls j ∨ hs j ≤ ls i)
      (hk : ∀ j a, ks[j]? = some a → OwnE ty w (ls j) (hs j) (vs j) a) : OwnE ty w lo hi (nv k n s A ks.length c) (.mk k n s ks)
theorem lt_of_get {α : Type} {l : List α} {j : Nat} {a : α} (h : l[j]? = some a) : j < l.length := by
  rcases Nat.lt_or_ge j l.length with h' | h'
  · exact h'
  · rw [List.getElem?_eq_none h'] at h; cases h
theorem OwnE.same {ty : TypeId} {w w' : World} {lo hi : Nat} {v : Value} {t : T} (h : OwnE ty w lo hi v t) (hsm : Same lo hi w w') : OwnE ty w' lo hi v t := by
  induction h with
  | mk A c vs ls hs hsl hkl hA hin hdis hk ih =>
    refine .mk A c vs ls hs hsl hkl (fun hne => ?_) hin hdis (fun j a ha => ih j a ha fun k h1 h2 => ?_)
    · obtain ⟨g, cs, e, h1, h2, hb, hr, hd⟩ := hA hne
      exact ⟨g, cs, e, h1, h2, (hsm g h1 h2).trans hb, hr, hd⟩
    · obtain ⟨h3, h4⟩ := hin j (lt_of_get ha)
      exact hsm k (by omega) (by omega)
theorem rows_ld {w : World} {g : Nat} {ty : TypeId} {cs : List Value} {m j : Nat} {vs : Nat → Value} (hb : Blk w g ty cs) (h : RowsAt cs m vs) (hj : j < m) : Ld4 w ((⟨g, 0, none⟩ : Addr).add (j * 4)) (vs j) := by
  obtain ⟨c0, c1, c2, c3, hv, h0, h1, h2, h3⟩ := h j hj
  rw [add_zero]
  exact ⟨c0, c1, c2, c3, hv, by rw [hb.cell, h0], by rw [hb.cell, h1], by rw [hb.cell, h2], by rw [hb.cell, h3]⟩
theorem OwnE.ex {ty : TypeId} {w : World} {lo hi : Nat} {v : Value} {t : T} (h : OwnE ty w lo hi v t) : Ex w w.heap.size v t := by
  induction h with
  | mk A c vs ls hs hsl hkl hA hin hdis hk ih =>
    refine .mk A c vs hsl hkl (fun j hj => ?_) ih
    obtain ⟨g, cs, e, h1, h2, hb, hr, hd⟩ := hA (by omega)
    exact ⟨_, e, hb.lt, rows_ld hb hr hj⟩
theorem run_makeN {P : Program} (w : World) (t e : TypeId) (z : Value) (size bytes : Nat) (ht : P.underlying t = some (.slice e)) (hi : (P.info? e).map (fun i => (i.zero, i.size, i.bytes)) = some (some z, size, bytes))
    (n : Nat) (hbytes : bytes * n ≤ 281474976710656) (h63 : n ≤ 9223372036854775807) :
    ∃ cs : List Value, cs.length = n * size ∧ (Instr.makeSlice t (.int .i64 n) (.int .i64 n)).run P w = .ok (.slice (some ⟨w.heap.size, 0, none⟩) n n) (w.alloc (.cells cs.toArray e)) := by
  obtain ⟨i0, hi0, hz0, hz1, hz2⟩ := info_parts hi
  have h := run_make (P := P) w t e i0 z ht hi0 hz0 .i64 .i64 (n : Int) (n : Int) (by omega) (Int.le_refl _) (by rw [hz2, ← Int.natCast_mul]; generalize bytes * n = q at *; omega) (by omega)
  refine ⟨(madeCells z.cells (n * size)).toList, by rw [Array.length_toList, size_madeCells], ?_⟩
  rw [h, hz1, Int.toNat_natCast, Array.toArray_toList]
theorem OwnE.form {ty : TypeId} {w : World} {lo hi : Nat} {v : Value} {t : T} (h : OwnE ty w lo hi v t) : ∃ k n s A l c, v = nv k n s A l c := by
  cases h with
  | mk A c vs ls hs hsl hkl hA hin hdis hk => exact ⟨_, _, _, _, _, _, rfl⟩
theorem zeroE : (Tryz.prog.info? 92).map (fun i => (i.zero, i.size, i.bytes)) = some (some (nv 0 0 [] none 0 0), 4, 56) := by kernel_rfl
def ToE (t : T) : Prop := ∀ (v : Value) (w : World), Ex w w.heap.size v t → szT t ≤ 1048576 → Calls Tryz.prog 94 #[v] w fun e w' => ∃ v', e = .returned v' ∧ OwnE 92 w' w.heap.size w'.heap.size v' t ∧ Below w.heap.size w w'
structure KidsO (ty : TypeId) (w : World) (g : Nat) (vs : Nat → Value) (ls hs : Nat → Nat) (ks : List T) (m : Nat) : Prop where
  in_ : ∀ j, j < m → g < ls j ∧ hs j ≤ w.heap.size
  dis : ∀ i j, i < j → j < m → hs i ≤ ls j
  kid : ∀ j a, j < m → ks[j]? = some a → OwnE ty w (ls j) (hs j) (vs j) a
theorem KidsO.step {ty : TypeId} {w w2 : World} {g : Nat} {vs : Nat → Value} {ls hs : Nat → Nat} {ks : List T} {m : Nat} {v : Value} {a : T} (h : KidsO ty w g vs ls hs ks m) (hb : Below w.heap.size w w2) (hg : g < w.heap.size)
    (ha : ks[m]? = some a) (ho : OwnE ty w2 w.heap.size w2.heap.size v a) :
    KidsO ty w2 g (fun j => if j = m then v else vs j) (fun j => if j = m then w.heap.size else ls j) (fun j => if j = m then w2.heap.size else hs j) ks (m + 1) := by
  have hsz := hb.size
  refine ⟨fun j hj => ?_, fun i j hij hj => ?_, fun j b hj hjb => ?_⟩
  · by_cases e : j = m
    · subst e; simp; exact hg
    · have := h.in_ j (by omega)
      rw [if_neg e, if_neg e]
      omega
  · have e1 : i ≠ m := by omega
    rw [if_neg e1]
    by_cases e : j = m
    · rw [if_pos e]; exact (h.in_ i (by omega)).2
    · rw [if_neg e]; exact h.dis i j hij (by omega)
  · by_cases e : j = m
    · subst e
      rw [ha] at hjb; cases hjb
      rw [if_pos rfl, if_pos rfl, if_pos rfl]; exact ho
    · rw [if_neg e, if_neg e, if_neg e]
      exact (h.kid j b (by omega) hjb).same (same_below hb (h.in_ j (by omega)).2)
theorem KidsO.far {ty : TypeId} {w w2 : World} {g : Nat} {vs : Nat → Value} {ls hs : Nat → Nat} {ks : List T} {m : Nat} (h : KidsO ty w g vs ls hs ks m) (hs2 : w2.heap.size = w.heap.size) (hf : ∀ k, k ≠ g → w2.heap[k]? = w.heap[k]?) : KidsO ty w2 g vs ls hs ks m :=
  ⟨fun j hj => ⟨(h.in_ j hj).1, by rw [hs2]; exact (h.in_ j hj).2⟩, h.dis, fun j a hj ha => (h.kid j a hj ha).same fun k h1 _ => hf k (by have := (h.in_ j hj).1; omega)⟩
def put4 (w : World) (g m : Nat) (c0 c1 c2 c3 : Value) : World := (((w.setCell ⟨g, m * 4, none⟩ c0).setCell ⟨g, m * 4 + 1, none⟩ c1).setCell ⟨g, m * 4 + 2, none⟩ c2).setCell ⟨g, m * 4 + 3, none⟩ c3
theorem put4_size (w : World) (g m : Nat) (c0 c1 c2 c3 : Value) : (put4 w g m c0 c1 c2 c3).heap.size = w.heap.size := by simp [put4, World.setCell]
theorem put4_far (w : World) (g m : Nat) (c0 c1 c2 c3 : Value) (k : Nat) (h : k ≠ g) : (put4 w g m c0 c1 c2 c3).heap[k]? = w.heap[k]? := by
  unfold put4
  rw [heap_setCell_other _ _ _ _ h, heap_setCell_other _ _ _ _ h, heap_setCell_other _ _ _ _ h, heap_setCell_other _ _ _ _ h]
theorem put4_blk {w : World} {g ty : Nat} {cs : List Value} (h : Blk w g ty cs) (m : Nat) (c0 c1 c2 c3 : Value) : Blk (put4 w g m c0 c1 c2 c3) g ty (set4 cs m c0 c1 c2 c3) := (((h.set_ _ _).set_ _ _).set_ _ _).set_ _ _
theorem put4_below {B : Nat} {a w : World} (h : Below B a w) {g : Nat} (hg : B ≤ g) (m : Nat) (c0 c1 c2 c3 : Value) : Below B a (put4 w g m c0 c1 c2 c3) := (((h.setCell hg _).setCell hg _).setCell hg _).setCell hg _
theorem blk_old {w : World} {g ty : Nat} {cs : List Value} (h : Blk w g ty cs) (i : Nat) (hi : i < cs.length) : ∃ u, w.cell? ⟨g, i, none⟩ = some u := ⟨_, by rw [h.cell]; exact List.getElem?_eq_getElem hi⟩
theorem szK_mem {ks : List T} {a : T} (h : a ∈ ks) : szT a ≤ szK ks := by
  induction ks with
  | nil => cases h
  | cons b r ih =>
    simp only [szK, List.map_cons, List.sum_cons]
    rcases List.mem_cons.1 h with rfl | h
    · omega
    · have := ih h; simp only [szK] at this; omega
theorem toES (ks : List T) (ih : ∀ a ∈ ks, ToE a) (A : Option Addr) (c : Nat) (vs : Nat → Value) (w : World) (hk : Kids w w.heap.size A ks vs) (hl : ks.length ≤ 1048576) (hsz : szK ks ≤ 1048576) :
    Calls Tryz.prog 113 #[.slice A ks.length c] w fun e w' => e = .returned (.slice (some ⟨w.heap.size, 0, none⟩) ks.length ks.length) ∧
      (∃ cs vs' ls hs, Blk w' w.heap.size 92 cs ∧ RowsAt cs ks.length vs' ∧ KidsO 92 w' w.heap.size vs' ls hs ks ks.length) ∧ Below w.heap.size w w' := by
  obtain ⟨cs0, hl0, hmk⟩ := run_makeN w 90 92 _ 4 56 Tryz.underlying90 zeroE ks.length (by omega) (by omega)
  have hb0 := hid (Blk.new w 92 cs0)
  have hl0 := hid hl0
  generalize hL : ks.length = N at *
  go_enter Tryz.func113, Tryz.ntmps113
  go_wp2_with fail
  go_loopw [4] (fun i wr => ∃ (m : Nat) (cs : List Value) (vs' : Nat → Value) (ls hs : Nat → Nat), m ≤ N ∧ i = .int .i64 m ∧ Blk wr w.heap.size 92 cs ∧ cs.length = N * 4 ∧ RowsAt cs m vs' ∧ KidsO 92 wr w.heap.size vs' ls hs ks m ∧ Below w.heap.size w wr) (fun i _ => N - (Go.RowKit.intOf i).toNat)
  case atStart => exact ⟨0, cs0, fun _ => .nilFunc, fun _ => 0, fun _ => 0, Nat.zero_le _, rfl, hb0.out, hl0.out, fun j hj => by omega, ⟨fun j hj => by omega, fun i j _ hj => by omega, fun j a hj => by omega⟩, (Below.refl _ _).alloc (Nat.le_refl _) _⟩
  case round =>
    obtain ⟨m, cs, vs', ls, hs, hm, rfl, hblk, hcl, hrow, hko, hb⟩ := hrel
    by_cases hlt : m < N
    · have hkr := hk.go hb
      obtain ⟨ad, rfl, _, c0, c1, c2, c3, e, k0, k1, k2, k3⟩ := hkr.cell m (by omega)
      have hu : ks[m]? = some ks[m] := List.getElem?_eq_getElem (by omega)
      have hkid := hkr.kid m _ hu
      have hck := hid (ih ks[m] (List.getElem_mem _) _ wr hkid (Nat.le_trans (szK_mem (List.getElem_mem _)) hsz))
      rw [e] at hck
      have hu := hid hu
      have hcl := hid hcl
      have hrow := hid hrow
      have hko := hid hko
      have hb := hid hb
      have hblk := hid hblk
      clear e hkid hkr
      go_wp2_with fail
      refine hck.out.mono ?_
      rintro e w2 ⟨v', rfl, ho, hb2⟩
      obtain ⟨a0, a1, a2, a3, al, ac, rfl⟩ := ho.form
      have hblk2 := hblk.out.below hb2 hblk.out.lt
      obtain ⟨x0, q0⟩ := blk_old hblk2 (m * 4) (by rw [hcl.out]; omega)
      obtain ⟨x1, q1⟩ := blk_old hblk2 (m * 4 + 1) (by rw [hcl.out]; omega)
      obtain ⟨x2, q2⟩ := blk_old hblk2 (m * 4 + 2) (by rw [hcl.out]; omega)
      obtain ⟨x3, q3⟩ := blk_old hblk2 (m * 4 + 3) (by rw [hcl.out]; omega)
      have f0 := hblk2.frozen (m * 4)
      have f1 := hblk2.frozen (m * 4 + 1)
      have f2 := hblk2.frozen (m * 4 + 2)
      have f3 := hblk2.frozen (m * 4 + 3)
      have z1 := hid (put4_blk hblk2 m (.int .i64 a0) (.int .i64 a1) (sv a2) (.slice a3 al ac))
      have z2 := hid (hrow.out.set (.int .i64 a0) (.int .i64 a1) (sv a2) (.slice a3 al ac) (by rw [hcl.out]; omega))
      have z3 := hid ((hko.out.step hb2 hblk.out.lt hu.out ho).far (put4_size w2 w.heap.size m (.int .i64 a0) (.int .i64 a1) (sv a2) (.slice a3 al ac)) (put4_far _ _ _ _ _ _ _))
      have z4 := hid (put4_below (hb.out.trans (hb2.mono hb.out.size)) (Nat.le_refl _) m (.int .i64 a0) (.int .i64 a1) (sv a2) (.slice a3 al ac))
      clear ho hb2 hblk2
      go_wp2_with fail
      exact ⟨⟨m + 1, _, _, _, _, hlt, by go_num, z1.out, by rw [set4_len]; exact hcl.out, z2.out, z3.out, z4.out⟩, by simp [Go.RowKit.intOf]; omega⟩
    · obtain rfl : m = N := by omega
      have hb := hid hb
      have hblk := hid hblk
      have hrow := hid hrow
      have hko := hid hko
      clear hcl
      go_wp2_with fail
      go_ret
      exact ⟨rfl, ⟨cs, vs', ls, hs, hblk.out, hrow.out, hko.out⟩, hb.out⟩
abbrev W3 (w : World) (k n : Int) (s : List UInt8) (A : Option Addr) (l c : Nat) : World :=
  ((w.alloc (Obj.cells #[Value.int .i64 k, Value.int .i64 n, sv s, Value.slice A l c] 101)).alloc (Obj.cells #[Value.int .i64 0, Value.int .i64 0, Value.string ⟨#[]⟩, Value.slice none 0 0] 92)).alloc (Obj.cells #[Value.int .i64 k, Value.int .i64 n, Value.string ⟨s.toArray⟩, Value.slice none 0 0] 92)
theorem w3_size (w : World) (k n : Int) (s : List UInt8) (A : Option Addr) (l c : Nat) : (W3 w k n s A l c).heap.size = w.heap.size + 1 + 1 + 1 := by rw [size_alloc', size_alloc', size_alloc']
theorem w3_below (w : World) (k n : Int) (s : List UInt8) (A : Option Addr) (l c : Nat) : Below w.heap.size w (W3 w k n s A l c) :=
  (((Below.refl _ _).alloc (Nat.le_refl _) _).alloc (by rw [size_alloc']; omega) _).alloc (by rw [size_alloc', size_alloc']; omega) _
theorem w3_res (w : World) (k n : Int) (s : List UInt8) (A : Option Addr) (l c : Nat) : Blk (W3 w k n s A l c) (w.heap.size + 1) 92 [.int .i64 0, .int .i64 0, .string ⟨#[]⟩, .slice none 0 0] := by
  have h := Blk.new (w.alloc (Obj.cells #[Value.int .i64 k, Value.int .i64 n, sv s, Value.slice A l c] 101)) 92 [.int .i64 0, .int .i64 0, .string ⟨#[]⟩, .slice none 0 0]
  rw [size_alloc'] at h
  exact h.alloc _
theorem w3_out (w : World) (k n : Int) (s : List UInt8) (A : Option Addr) (l c : Nat) : Blk (W3 w k n s A l c) (w.heap.size + 1 + 1) 92 [.int .i64 k, .int .i64 n, .string ⟨s.toArray⟩, .slice none 0 0] := by
  have h := Blk.new ((w.alloc (Obj.cells #[Value.int .i64 k, Value.int .i64 n, sv s, Value.slice A l c] 101)).alloc (Obj.cells #[Value.int .i64 0, Value.int .i64 0, Value.string ⟨#[]⟩, Value.slice none 0 0] 92)) 92 [.int .i64 k, .int .i64 n, .string ⟨s.toArray⟩, .slice none 0 0]
  rw [size_alloc', size_alloc'] at h
  exact h
abbrev W5 (w4 : World) (g1 g2 : Nat) (k n : Int) (s : List UInt8) (S : Value) : World :=
  ((((w4.setCell ⟨g2, 3, none⟩ S).setCell ⟨g1, 0, none⟩ (.int .i64 k)).setCell ⟨g1, 1, none⟩ (.int .i64 n)).setCell ⟨g1, 2, none⟩ (sv s)).setCell ⟨g1, 3, none⟩ S
theorem w5_res {w4 : World} {g1 g2 : Nat} (k n : Int) (s : List UInt8) (S a b c d : Value) (h : Blk w4 g1 92 [a, b, c, d]) (hne : g1 ≠ g2) : Blk (W5 w4 g1 g2 k n s S) g1 92 [.int .i64 k, .int .i64 n, sv s, S] :=
  (((((h.far (p := ⟨g2, 3, none⟩) hne S).set_ 0 (.int .i64 k)).set_ 1 (.int .i64 n)).set_ 2 (sv s)).set_ 3 S)
theorem w5_far {w4 : World} {g1 g2 : Nat} (k n : Int) (s : List UInt8) (S : Value) (j : Nat) (h1 : j ≠ g1) (h2 : j ≠ g2) : (W5 w4 g1 g2 k n s S).heap[j]? = w4.heap[j]? := by
  unfold W5
  rw [heap_setCell_other _ _ _ _ h1, heap_setCell_other _ _ _ _ h1, heap_setCell_other _ _ _ _ h1, heap_setCell_other _ _ _ _ h1, heap_setCell_other _ _ _ _ h2]
theorem w5_size (w4 : World) (g1 g2 : Nat) (k n : Int) (s : List UInt8) (S : Value) : (W5 w4 g1 g2 k n s S).heap.size = w4.heap.size := by simp [W5, World.setCell]
theorem w5_below {B : Nat} {a w4 : World} {g1 g2 : Nat} (h : Below B a w4) (h1 : B ≤ g1) (h2 : B ≤ g2) (k n : Int) (s : List UInt8) (S : Value) : Below B a (W5 w4 g1 g2 k n s S) :=
  ((((h.setCell h2 _).setCell h1 _).setCell h1 _).setCell h1 _).setCell h1 _
theorem KidsO.own {ty : TypeId} {w w' : World} {g lo c : Nat} {vs : Nat → Value} {ls hs : Nat → Nat} {ks : List T} {cs : List Value} (k n : Int) (s : List UInt8) (hsl : s.length ≤ 9223372036854775807) (hkl : ks.length ≤ 9223372036854775807)
    (h : KidsO ty w g vs ls hs ks ks.length) (hb : Blk w g ty cs) (hr : RowsAt cs ks.length vs) (hlo : lo ≤ g) (hsz : w'.heap.size = w.heap.size) (hf : ∀ j, g ≤ j → w'.heap[j]? = w.heap[j]?) :
    OwnE ty w' lo w'.heap.size (nv k n s (some ⟨g, 0, none⟩) ks.length c) (.mk k n s ks) := by
  refine .mk _ c vs ls hs hsl hkl (fun _ => ⟨g, cs, rfl, hlo, by rw [hsz]; exact hb.lt, (hf g (Nat.le_refl _)).trans hb, hr, fun j hj => Or.inl (h.in_ j hj).1⟩) (fun j hj => ?_) (fun i j hij hj => Or.inl (h.dis i j hij hj)) (fun j a ha => ?_)
  · have := h.in_ j hj
    rw [hsz]; omega
  · have hj := lt_of_get ha
    exact (h.kid j a hj ha).same fun q h1 _ => hf q (by have := h.in_ j hj; omega)
theorem toE (t : T) : ToE t := by
  induction t using T.ind with
  | h k n s ks ih =>
    intro v w hv hsz
    obtain ⟨A, c, vs, rfl, hs, hl, hk⟩ := hv.kids
    rw [szT_mk] at hsz
    have hcl := hid (toES ks ih A c vs _ (hk.go (w3_below w k n s A ks.length c)) (by omega) (by unfold szK; omega))
    rw [show (W3 w k n s A ks.length c).heap.size = w.heap.size + 1 + 1 + 1 from w3_size w k n s A ks.length c] at hcl
    have hB := hid (w3_below w k n s A ks.length c)
    have h1 := hid (w3_res w k n s A ks.length c)
    have h2 := hid (w3_out w k n s A ks.length c)
    have hS := hid (w3_size w k n s A ks.length c)
    clear hk hv hsz
    go_enter Tryz.func94, Tryz.ntmps94
    go_wp2_with fail
    refine hcl.out.mono ?_
    rintro e w4 ⟨rfl, ⟨cs, vs', ls, hs', hblk, hrow, hko⟩, hb⟩
    have r1 := h1.out.below (w' := w4) (B := w.heap.size + 1 + 1 + 1) hb (by omega)
    have r2 := h2.out.below (w' := w4) (B := w.heap.size + 1 + 1 + 1) hb (by omega)
    have p0 : w4.cell? ⟨w.heap.size + 1 + 1, 0, none⟩ = some (.int .i64 k) := r2.cell 0
    have p1 : w4.cell? ⟨w.heap.size + 1 + 1, 1, none⟩ = some (.int .i64 n) := r2.cell 1
    have p2 : w4.cell? ⟨w.heap.size + 1 + 1, 2, none⟩ = some (.string ⟨s.toArray⟩) := r2.cell 2
    have p3 : w4.cell? ⟨w.heap.size + 1 + 1, 3, none⟩ = some (.slice none 0 0) := r2.cell 3
    have q0 : w4.cell? ⟨w.heap.size + 1, 0, none⟩ = some (.int .i64 0) := r1.cell 0
    have q1 : w4.cell? ⟨w.heap.size + 1, 1, none⟩ = some (.int .i64 0) := r1.cell 1
    have q2 : w4.cell? ⟨w.heap.size + 1, 2, none⟩ = some (.string ⟨#[]⟩) := r1.cell 2
    have q3 : w4.cell? ⟨w.heap.size + 1, 3, none⟩ = some (.slice none 0 0) := r1.cell 3
    have f3 := r2.frozen 3
    have e0 := r1.frozen 0
    have e1 := r1.frozen 1
    have e2 := r1.frozen 2
    have e3 := r1.frozen 3
    have z1 := hid (w5_res (g2 := w.heap.size + 1 + 1) k n s (.slice (some ⟨w.heap.size + 1 + 1 + 1, 0, none⟩) ks.length ks.length) _ _ _ _ r1 (by omega))
    have z2 := hid (KidsO.own (w' := W5 w4 (w.heap.size + 1) (w.heap.size + 1 + 1) k n s (.slice (some ⟨w.heap.size + 1 + 1 + 1, 0, none⟩) ks.length ks.length)) (lo := w.heap.size) (c := ks.length) k n s hs hl hko hblk hrow (by omega) (w5_size _ _ _ _ _ _ _) (fun j hj => w5_far _ _ _ _ _ (by omega) (by omega)))
    have z3 := hid (w5_below (B := w.heap.size) (g1 := w.heap.size + 1) (g2 := w.heap.size + 1 + 1) (hB.out.trans (hb.mono (by omega))) (by omega) (by omega) k n s (.slice (some ⟨w.heap.size + 1 + 1 + 1, 0, none⟩) ks.length ks.length))
    clear r1 r2 hblk hrow hko hb
    go_wp2_with fail
    refine bodyPost_ret (results_cell_row Tryz.results94 _ _ (w.heap.size + 1) 92 _ (0, 0) _ rfl z1.out Tryz.underlying92 rfl (by kernel_rfl)) rfl ⟨_, rfl, z2.out, z3.out⟩
theorem four {w : World} {g ty : Nat} {a b c d : Value} (h : Blk w g ty [a, b, c, d]) : w.cell? ⟨g, 0, none⟩ = some a ∧ w.cell? ⟨g, 1, none⟩ = some b ∧ w.cell? ⟨g, 2, none⟩ = some c ∧ w.cell? ⟨g, 3, none⟩ = some d := ⟨h.cell 0, h.cell 1, h.cell 2, h.cell 3⟩
theorem blk_chg {w w' : World} {g ty lo hi : Nat} {cs : List Value} (h : Blk w g ty cs) (hc : Chg w w' lo hi) (hn : g < lo ∨ hi ≤ g) : Blk w' g ty cs := (hc.block g h.lt hn).trans h
theorem Ex.form {w : World} {B : Nat} {v : Value} {t : T} (h : Ex w B v t) : ∃ k n s A l c, v = nv k n s A l c := by
  cases h with
  | mk A c vs hs ha hc hk => exact ⟨_, _, _, _, _, _, rfl⟩
abbrev OwnX (lo hi : Nat) (w : World) (v : Value) (t : T) : Prop := OwnE 92 w lo hi v t
mutual
def markN (k : Nat) : T → T
  | .mk _ _ _ ks => .mk k ((k : Int) + 1) (Lh.mk (k + 2)) (markK (k + 3) ks)
def markK (k : Nat) : List T → List T
  | [] => []
  | a :: r => markN k a :: markK (k + 3 * cntT a) r
end
def markT (k : Nat) : T → T
  | .mk a b s ks => .mk a b s (markK k ks)
theorem markN_mk (k : Nat) (a b : Int) (s : List UInt8) (ks : List T) : markN k (.mk a b s ks) = .mk k ((k : Int) + 1) (Lh.mk (k + 2)) (markK (k + 3) ks) := by rw [markN]
theorem markK_len (k : Nat) (ks : List T) : (markK k ks).length = ks.length := by
  induction ks generalizing k with
  | nil => rw [markK]
  | cons a r ih => rw [markK, List.length_cons, ih, List.length_cons]
theorem markK_at (k : Nat) (ks : List T) : ∀ (j : Nat), (markK k ks)[j]? = (ks[j]?).map (markN (k + 3 * cntK (ks.take j))) := by
  induction ks generalizing k with
  | nil => intro j; rw [markK]; simp
  | cons a r ih =>
    intro j
    rw [markK]
    cases j with
    | zero => simp [cntK]
    | succ j =>
      rw [List.getElem?_cons_succ, ih, List.getElem?_cons_succ]
      have e : cntK ((a :: r).take (j + 1)) = cntT a + cntK (r.take j) := by simp [cntK]
      rw [e, show k + 3 * cntT a + 3 * cntK (r.take j) = k + 3 * (cntT a + cntK (r.take j)) by omega]
theorem OwnE.inv {ty : TypeId} {w : World} {lo hi : Nat} {k n : Int} {s : List UInt8} {A : Option Addr} {l c : Nat} {k' n' : Int} {s' : List UInt8} {ks : List T} (h : OwnE ty w lo hi (nv k n s A l c) (.mk k' n' s' ks)) :
    l = ks.length ∧ ks.length ≤ 9223372036854775807 ∧ ∃ (vs : Nat → Value) (ls hs : Nat → Nat), (ks.length ≠ 0 → ∃ g cs, A = some ⟨g, 0, none⟩ ∧ lo ≤ g ∧ g < hi ∧ Blk w g ty cs ∧ RowsAt cs ks.length vs ∧ ∀ j, j < ks.length → g < ls j ∨ hs j ≤ g) ∧
      (∀ j, j < ks.length → lo ≤ ls j ∧ hs j ≤ hi) ∧ (∀ i j, i < j → j < ks.length → hs i ≤ ls j ∨ hs j ≤ ls i) ∧ ∀ j a, ks[j]? = some a → OwnE ty w (ls j) (hs j) (vs j) a := by
  generalize hv : nv k n s A l c = v at h
  generalize ht : T.mk k' n' s' ks = t at h
  cases h with
  | mk A2 c2 vs ls hs hsl hkl hA hin hdis hk =>
    injection ht with h1 h2 h3 h4
    subst h4
    injection hv with e1
    have e2 := congrArg Array.toList e1
    simp only [List.cons.injEq] at e2
    obtain ⟨_, _, _, e3, _⟩ := e2
    injection e3 with e4 e5 e6
    subst e4
    exact ⟨e5, hkl, vs, ls, hs, hA, hin, hdis, hk⟩
theorem OwnE.chg {ty : TypeId} {w w' : World} {lo hi lo' hi' : Nat} {v : Value} {t : T} (h : OwnE ty w lo hi v t) (hc : Chg w w' lo' hi') (hn : hi ≤ lo' ∨ hi' ≤ lo) : OwnE ty w' lo hi v t := by
  induction h with
  | mk A c vs ls hs hsl hkl hA hin hdis hk ih =>
    refine .mk A c vs ls hs hsl hkl (fun hne => ?_) hin hdis (fun j a ha => ih j a ha ?_)
    · obtain ⟨g, cs, e, h1, h2, hb, hr, hd⟩ := hA hne
      exact ⟨g, cs, e, h1, h2, blk_chg hb hc (by omega), hr, hd⟩
    · obtain ⟨h3, h4⟩ := hin j (lt_of_get ha)
      omega
theorem OwnE.own_root {ty : TypeId} {w : World} {lo hi : Nat} {k n : Int} {s : List UInt8} {A : Option Addr} {l c : Nat} {k' n' : Int} {s' : List UInt8} {ks : List T} (h : OwnE ty w lo hi (nv k n s A l c) (.mk k' n' s' ks)) : k = k' ∧ n = n' ∧ s = s' ∧ s.length ≤ 9223372036854775807 := by
  generalize hv : nv k n s A l c = v at h
  generalize ht : T.mk k' n' s' ks = t at h
  cases h with
  | mk A2 c2 vs ls hs hsl hkl hA hin hdis hk =>
    injection ht with h1 h2 h3 h4
    injection hv with e1
    have e2 := congrArg Array.toList e1
    simp only [List.cons.injEq] at e2
    obtain ⟨e3, e4, e5, _⟩ := e2
    injection e3 with _ e6
    injection e4 with _ e7
    injection e5 with e8
    have e9 := congrArg ByteArray.data e8
    have e10 := congrArg Array.toList e9
    dsimp only at e10
    exact ⟨e6.trans h1.symm, e7.trans h2.symm, e10.trans h3.symm, by have := congrArg List.length e10; omega⟩
theorem OwnE.root {ty : TypeId} {w : World} {lo hi : Nat} {k n : Int} {s : List UInt8} {A : Option Addr} {l c : Nat} {k' n' : Int} {s' : List UInt8} {ks : List T} (h : OwnE ty w lo hi (nv k n s A l c) (.mk k' n' s' ks)) (a b : Int) (q : List UInt8) (hq : q.length ≤ 9223372036854775807) :
    OwnE ty w lo hi (nv a b q A l c) (.mk a b q ks) := by
  obtain ⟨rfl, hkl, vs, ls, hs, hA, hin, hdis, hk⟩ := h.inv
  exact .mk A c vs ls hs hq hkl hA hin hdis hk
theorem mk_len (k : Nat) (h0 : 0 < k) (h : k ≤ 9223372036854775807) : (Lh.mk k).length ≤ 9223372036854775807 := by
  have h1 := Num.digs_len k (by omega)
  unfold Num.digs at h1
  rw [if_neg (by omega)] at h1
  have := nDigits_le20 k (by omega)
  unfold Lh.mk
  rw [List.length_cons]
  omega
theorem OwnE.mark {ty : TypeId} {w : World} {lo hi q : Nat} {k n : Int} {s : List UInt8} {A : Option Addr} {l c : Nat} {t : T} (h : OwnE ty w lo hi (nv k n s A l c) (markT (q + 3) t)) (h0 : q + 2 ≤ 9223372036854775807) :
    OwnE ty w lo hi (nv q ((q : Int) + 1) (Lh.mk (q + 2)) A l c) (markN q t) := by
  obtain ⟨k', n', s', ks⟩ := t
  rw [markT] at h
  rw [markN_mk]
  exact h.root _ _ _ (mk_len _ (by omega) h0)
def set3 (cs : List Value) (m : Nat) (c0 c1 c2 : Value) : List Value := ((cs.set (m * 4) c0).set (m * 4 + 1) c1).set (m * 4 + 2) c2
theorem set3_at (cs : List Value) (m i : Nat) (c0 c1 c2 : Value) (h : m * 4 + 3 < cs.length) :
    (set3 cs m c0 c1 c2)[i]? = if i = m * 4 then some c0 else if i = m * 4 + 1 then some c1 else if i = m * 4 + 2 then some c2 else cs[i]? := by
  unfold set3
  simp only [List.getElem?_set, List.length_set]
  by_cases h2 : m * 4 + 2 = i
  · subst h2; simp; omega
  by_cases h1 : m * 4 + 1 = i
  · subst h1; simp; omega
  by_cases h0 : m * 4 = i
  · subst h0; simp; omega
  rw [if_neg h2, if_neg h1, if_neg h0, if_neg (fun e => h0 e.symm), if_neg (fun e => h1 e.symm), if_neg (fun e => h2 e.symm)]
theorem rows_set3 {cs : List Value} {N m : Nat} {vs : Nat → Value} (h : RowsAt cs N vs) (hm : m < N) (c0 c1 c2 d0 d1 d2 c3 : Value) (hv : vs m = .agg #[d0, d1, d2, c3]) : RowsAt (set3 cs m c0 c1 c2) N (fun j => if j = m then .agg #[c0, c1, c2, c3] else vs j) := by
  obtain ⟨e0, e1, e2, e3, hv', q0, q1, q2, q3⟩ := h m hm
  have hl := lt_of_get q3
  rw [hv] at hv'
  injection hv' with hv1
  have hv2 := congrArg Array.toList hv1
  simp only [List.cons.injEq] at hv2
  obtain ⟨rfl, rfl, rfl, rfl, _⟩ := hv2
  intro j hj
  by_cases e : j = m
  · subst e
    refine ⟨c0, c1, c2, c3, if_pos rfl, ?_, ?_, ?_, ?_⟩ <;> rw [set3_at _ _ _ _ _ _ hl]
    · simp
    · simp
    · simp
    · simpa using q3
  · obtain ⟨d0, d1, d2, d3, hv, h0, h1, h2, h3⟩ := h j hj
    refine ⟨d0, d1, d2, d3, (if_neg e).trans hv, ?_, ?_, ?_, ?_⟩ <;> rw [set3_at _ _ _ _ _ _ hl, if_neg (by omega), if_neg (by omega), if_neg (by omega)] <;> assumption
theorem chg_set {w : World} {g i lo hi : Nat} (h1 : lo ≤ g) (h2 : g < hi) (u : Value) : Chg w (w.setCell ⟨g, i, none⟩ u) lo hi :=
  ⟨rfl, rfl, rfl, by simp [World.setCell], fun k _ hr => heap_setCell_other w _ k u (by show k ≠ g; omega)⟩
def MkE (t : T) : Prop := ∀ (lo hi : Nat) (k0 n0 : Int) (s0 : List UInt8) (A : Option Addr) (l c k : Nat) (w : World), OwnE 92 w lo hi (nv k0 n0 s0 A l c) t → 0 < k → k + 3 * cntT t ≤ 9223372036854775807 →
  Calls Tryz.prog 73 #[.slice A l c, .int .i64 k] w fun e w' => e = .returned (.int .i64 ((k + 3 * (cntT t - 1) : Nat) : Int)) ∧ OwnE 92 w' lo hi (nv k0 n0 s0 A l c) (markT k t) ∧ Chg w w' lo hi
theorem markS_none (A : Option Addr) (c k : Nat) (w : World) : Calls Tryz.prog 73 #[.slice A 0 c, .int .i64 k] w fun e w' => e = .returned (.int .i64 k) ∧ w = w' := by
  go_enter Tryz.func73, Tryz.ntmps73
  go_wp2_with fail
  refine wp_loop_rounds 1 ?_; rw [rounds_succ]
  go_wp2_with fail
  go_ret
  exact ⟨rfl, rfl⟩
theorem markE (t : T) : MkE t := by
  induction t using T.ind with
  | h kk nn ss ks ih =>
    intro lo hi k0 n0 s0 A l c k w ho hk0 hk1
    obtain ⟨rfl, rfl, rfl, hsl⟩ := ho.own_root
    obtain ⟨rfl, hkl, vs, ls, hs, hA, hin, hdis, hkid⟩ := ho.inv
    rw [cntT_mk] at hk1
    have hcnt := hid (cntT_mk k0 n0 s0 ks)
    by_cases hz : ks.length = 0
    · obtain rfl := List.eq_nil_of_length_eq_zero hz
      refine (markS_none A c k w).mono ?_
      rintro e w' ⟨rfl, rfl⟩
      refine ⟨by rw [hcnt.out]; simp [cntK], ?_, chg_refl _ _ _⟩
      have : markT k (.mk k0 n0 s0 []) = .mk k0 n0 s0 [] := by rw [markT, markK]
      rw [this]; exact ho
    obtain ⟨g, cs, rfl, hg1, hg2, hblk, hrow, hgd⟩ := hA hz
    have hinit := hid (show cntK (ks.take 0) = 0 by simp [cntK])
    have hs0 := hid ho
    have hz := hid hz
    have hin := hid hin
    have hdis := hid hdis
    have hgd := hid hgd
    have hih := hid ih
    clear hA ho ih
    have hcs : ∀ j, j < ks.length → j * 4 + 3 < cs.length := fun j hj => by
      obtain ⟨_, _, _, _, _, _, _, _, q3⟩ := hrow j hj
      exact lt_of_get q3
    generalize hN : ks.length = N at *
    go_enter Tryz.func73, Tryz.ntmps73
    go_wp2_with fail
    go_loopw [1, 5] (fun a i wr => ∃ (m : Nat) (cs : List Value) (vs' : Nat → Value), m ≤ N ∧ i = .int .i64 m ∧ a = .int .i64 ((k + 3 * cntK (ks.take m) : Nat) : Int) ∧ Blk wr g 92 cs ∧ RowsAt cs N vs' ∧
      (∀ (j : Nat) (a : T), ks[j]? = some a → OwnE 92 wr (ls j) (hs j) (vs' j) (if j < m then markN (k + 3 * cntK (ks.take j)) a else a)) ∧ Chg w wr lo hi) (fun _ i _ => N - (Go.RowKit.intOf i).toNat)
    case atStart => exact ⟨0, cs, vs, Nat.zero_le _, rfl, by rw [hinit.out]; simp, hblk, hrow, fun j a ha => by rw [if_neg (by omega)]; exact hkid j a ha, chg_refl _ _ _⟩
    case round =>
      clear hblk hrow hkid hcs
      obtain ⟨m, cs, vs', hm, rfl, rfl, hblk, hrow, hkid, hch⟩ := hrel
      by_cases hlt : m < N
      · have hu : ks[m]? = some ks[m] := List.getElem?_eq_getElem (by omega)
        have hle := cntK_le ks (m + 1)
        rw [cntK_take (by omega)] at hle
        have hst := hid (cntK_take (ks := ks) (m := m) (by omega))
        have hq1 : k + 3 * cntK (ks.take m) + 3 * cntT ks[m] ≤ 9223372036854775807 := by omega
        have hpos := cnt_pos ks[m]
        have hom := hkid m _ hu
        rw [if_neg (by omega)] at hom
        obtain ⟨ka, na, sa, A', l', c', hvm⟩ := hom.form
        rw [hvm] at hom
        obtain ⟨r0, r1, r2, r3, hv', q0, q1, q2, q3⟩ := hrow m hlt
        rw [hvm] at hv'
        injection hv' with hv1
        have hv2 := congrArg Array.toList hv1
        simp only [List.cons.injEq] at hv2
        obtain ⟨rfl, rfl, rfl, rfl, _⟩ := hv2
        generalize hq : k + 3 * cntK (ks.take m) = q at *
        have p0 : wr.cell? ⟨g, m * 4, none⟩ = some (.int .i64 ka) := by rw [hblk.cell, q0]
        have p1 : wr.cell? ⟨g, m * 4 + 1, none⟩ = some (.int .i64 na) := by rw [hblk.cell, q1]
        have f0 := hblk.frozen (m * 4)
        have f1 := hblk.frozen (m * 4 + 1)
        have f2 := hblk.frozen (m * 4 + 2)
        have f3 := hblk.frozen (m * 4 + 3)
        have hb0 := hid hblk
        have hr0 := hid hrow
        have hk1' := hid hkid
        have hc0 := hid hch
        have hom := hid hom
        have q2 := hid q2
        have q3 := hid q3
        have hvm := hid hvm
        have hu := hid hu
        have hmt := fun w => Lh.markText_any (q + 2) (by omega) (by omega) w
        rw [show ((q + 2 : Nat) : Int) = (q : Int) + 1 + 1 by omega] at hmt
        have hmt := hid hmt
        have hihm := fun w => hih.out ks[m] (List.getElem_mem _) (ls m) (hs m) ka na sa A' l' c' (q + 3) w
        rw [show ((q + 3 : Nat) : Int) = (q : Int) + 1 + 1 + 1 by omega] at hihm
        have hihm := hid hihm
        have hgm := hid (hgd.out m hlt)
        have him := hid (hin.out m hlt)
        clear hblk hrow hkid hch hv1 q0 q1
        go_wp2_with fail
        refine (hmt.out _).mono ?_
        rintro e w2 ⟨rfl, hb⟩
        have hB1 := ((hb0.out.set_ (m * 4) (.int .i64 (q : Int))).set_ (m * 4 + 1) (.int .i64 ((q : Int) + 1)))
        have hB2 := hB1.below hb hB1.lt
        have p2 : w2.cell? ⟨g, m * 4 + 2, none⟩ = some (sv sa) := by
          rw [hB2.cell]; simp only [List.getElem?_set]; rw [if_neg (by omega), if_neg (by omega)]; exact q2.out
        have p3 : w2.cell? ⟨g, m * 4 + 3, none⟩ = some (.slice A' l' c') := by
          rw [hB2.cell]; simp only [List.getElem?_set]; rw [if_neg (by omega), if_neg (by omega)]; exact q3.out
        have e2 := hB2.frozen (m * 4 + 2)
        have hB3 := hid (hB2.set_ (m * 4 + 2) (sv (Lh.mk (q + 2))))
        -- what the three stores and markText leave as it was
        have hkeep := hid (fun (lo' hi' : Nat) (v : Value) (a : T) (hn : g < lo' ∨ hi' ≤ g) (h : OwnE 92 wr lo' hi' v a) =>
          show OwnE 92 (w2.setCell ⟨g, m * 4 + 2, none⟩ (sv (Lh.mk (q + 2)))) lo' hi' v a from
          ((((h.chg (chg_set (i := m * 4) (Nat.le_refl g) (Nat.lt_succ_self g) (.int .i64 (q : Int))) (by omega)).chg (chg_set (i := m * 4 + 1) (Nat.le_refl g) (Nat.lt_succ_self g) (.int .i64 ((q : Int) + 1))) (by omega)).chg (chg_of_below hb 0 0) (Or.inr (Nat.zero_le _))).chg (chg_set (i := m * 4 + 2) (Nat.le_refl g) (Nat.lt_succ_self g) (sv (Lh.mk (q + 2)))) (by omega)))
        have hc3 := hid (chg_trans (chg_trans (chg_trans (chg_trans hc0.out (chg_set (i := m * 4) hg1 hg2 (.int .i64 (q : Int)))) (chg_set (i := m * 4 + 1) hg1 hg2 (.int .i64 ((q : Int) + 1)))) (chg_of_below hb lo hi)) (chg_set (w := w2) (i := m * 4 + 2) hg1 hg2 (sv (Lh.mk (q + 2)))))
        have hcl := hid (hihm.out _ (hkeep.out _ _ _ _ hgm.out hom.out) (by omega) (by omega))
        clear hB1 hB2 hb hihm hmt
        go_wp2_with fail
        refine hcl.out.mono ?_
        rintro e w4 ⟨rfl, ho4, hch4⟩
        have hres := hid ho4
        have hch4 := hid hch4
        clear ho4
        go_wp2_with fail
        refine ⟨⟨m + 1, _, fun j => if j = m then nv q ((q : Int) + 1) (Lh.mk (q + 2)) A' l' c' else vs' j, hlt, by go_num, ?_, blk_chg hB3.out hch4.out (by have := hgm.out; omega), rows_set3 hr0.out hlt _ _ _ _ _ _ _ hvm.out, ?_, chg_trans hc3.out (chg_mono hch4.out him.out.1 him.out.2)⟩, by simp [Go.RowKit.intOf]; omega⟩
        · have := hst.out
          congr 1
          omega
        · intro j a ha
          by_cases e : j = m
          · subst e
            rw [hu.out] at ha; cases ha
            dsimp only
            rw [if_pos rfl, if_pos (by omega), hq]
            exact hres.out.mark (by omega)
          · dsimp only
            rw [if_neg e]
            have hj := lt_of_get ha
            have h1 := hkeep.out _ _ _ _ (hgd.out j (by omega)) (hk1'.out j a ha)
            have h2 := h1.chg hch4.out (by
              rcases Nat.lt_or_ge j m with h | h
              · have := hdis.out j m h hlt; omega
              · have := hdis.out m j (by omega) (by omega); omega)
            by_cases hjm : j < m
            · rw [if_pos (by omega)]; rw [if_pos hjm] at h2; exact h2
            · rw [if_neg (by omega)]; rw [if_neg hjm] at h2; exact h2
      · obtain rfl : m = N := by omega
        have hf := hid (show ((k + 3 * cntK (ks.take m) : Nat) : Int) = ((k + 3 * (cntT (.mk k0 n0 s0 ks) - 1) : Nat) : Int) by
          rw [List.take_of_length_le (by omega), hcnt.out]; congr 1; omega)
        have hb0 := hid hblk
        have hr0 := hid hrow
        have hk1' := hid hkid
        have hc0 := hid hch
        clear hblk hrow hkid hch
        go_wp2_with fail
        go_ret
        refine ⟨by rw [← hf.out]; rfl, ?_, hc0.out⟩
        have hml : (markK k ks).length = m := by rw [markK_len, hN]
        have hgoal : OwnE 92 wr lo hi (nv k0 n0 s0 (some ⟨g, 0, none⟩) (markK k ks).length c) (.mk k0 n0 s0 (markK k ks)) := by
          refine .mk _ c vs' ls hs hsl (by rw [hml]; exact hkl) (fun _ => ⟨g, cs, rfl, hg1, hg2, hb0.out, by rw [hml]; exact hr0.out, fun j hj => hgd.out j (by omega)⟩) (fun j hj => hin.out j (by omega)) (fun i j hij hj => hdis.out i j hij (by omega)) (fun j a ha => ?_)
          rw [markK_at] at ha
          cases hkj : ks[j]? with
          | none => rw [hkj] at ha; cases ha
          | some b =>
            rw [hkj] at ha
            cases ha
            have := hk1'.out j b hkj
            rw [if_pos (by have := lt_of_get hkj; omega)] at this
            exact this
        rw [hml] at hgoal
        rw [markT]
        exact hgoal
end Go.Proofs.YtnmomlaimffonaaGreat.Tr
