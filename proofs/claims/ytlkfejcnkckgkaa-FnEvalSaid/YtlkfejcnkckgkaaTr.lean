/- Expressions as trees: what a value of the struct reads as. -/
import Derived.Test.YtlkfejcnkckgkaaMem
import Derived.Lib.QuietBelow
import Derived.BigQuiet
set_option maxRecDepth 100000
namespace Go.Proofs.Ytlkfejcnkckgkaa.Tr
open Go.RowKit Go.Lib Go.Proofs.Ytlkfejcnkckgkaa.Com Go.Proofs.Ytlkfejcnkckgkaa.Mem

/-- an expression -/
inductive T where
  | mk (k n : Int) (s : List UInt8) (ks : List T)

theorem T.ind {P : T → Prop} (h : ∀ k n s ks, (∀ a ∈ ks, P a) → P (.mk k n s ks)) : ∀ t, P t
  | .mk k n s ks => h k n s ks fun a ha => by
    have := List.sizeOf_lt_of_mem ha
    exact T.ind h a
termination_by t => SizeOf.sizeOf t
decreasing_by simp only [T.mk.sizeOf_spec]; omega

/-- a node's value -/
abbrev nv (k n : Int) (s : List UInt8) (A : Option Addr) (l c : Nat) : Value := .agg #[.int .i64 k, .int .i64 n, sv s, .slice A l c]
/-- four cells at an address -/
def Ld4 (w : World) (a : Addr) (v : Value) : Prop := ∃ c0 c1 c2 c3, v = .agg #[c0, c1, c2, c3] ∧ w.cell? a = some c0 ∧ w.cell? ⟨a.block, a.off + 1, none⟩ = some c1 ∧ w.cell? ⟨a.block, a.off + 2, none⟩ = some c2 ∧ w.cell? ⟨a.block, a.off + 3, none⟩ = some c3
/-- the value v reads as t, in blocks below B -/
inductive Ex (w : World) (B : Nat) : Value → T → Prop where
  | mk {k n : Int} {s : List UInt8} {ks : List T} (A : Option Addr) (c : Nat) (vs : Nat → Value) (hs : s.length ≤ 9223372036854775807) (ha : ks.length ≤ 9223372036854775807)
      (hc : ∀ j, j < ks.length → ∃ ad, A = some ad ∧ ad.block < B ∧ Ld4 w (ad.add (j * 4)) (vs j)) (hk : ∀ j a, ks[j]? = some a → Ex w B (vs j) a) : Ex w B (nv k n s A ks.length c) (.mk k n s ks)

theorem Ex.inv {w : World} {B : Nat} {v : Value} {k n : Int} {s : List UInt8} {ks : List T} (h : Ex w B v (.mk k n s ks)) :
    ∃ (A : Option Addr) (c : Nat) (vs : Nat → Value), v = nv k n s A ks.length c ∧ s.length ≤ 9223372036854775807 ∧ ks.length ≤ 9223372036854775807 ∧ (∀ j, j < ks.length → ∃ ad, A = some ad ∧ ad.block < B ∧ Ld4 w (ad.add (j * 4)) (vs j)) ∧ ∀ j a, ks[j]? = some a → Ex w B (vs j) a := by
  cases h with
  | mk A c vs hs ha hc hk => exact ⟨A, c, vs, rfl, hs, ha, hc, hk⟩
theorem Ld4.keep {w w' : World} {a : Addr} {v : Value} (h : Ld4 w a v) (hk : ∀ p : Addr, p.block = a.block → w'.cell? p = w.cell? p) : Ld4 w' a v := by
  obtain ⟨c0, c1, c2, c3, e, h0, h1, h2, h3⟩ := h
  exact ⟨c0, c1, c2, c3, e, (hk _ rfl).trans h0, (hk ⟨a.block, a.off + 1, none⟩ rfl).trans h1, (hk ⟨a.block, a.off + 2, none⟩ rfl).trans h2, (hk ⟨a.block, a.off + 3, none⟩ rfl).trans h3⟩
theorem Ex.blw {w w' : World} {B : Nat} {v : Value} {t : T} (h : Ex w B v t) (hb : Below B w w') : Ex w' B v t := by
  induction h with
  | mk A c vs hs ha hc hk ih =>
    refine .mk A c vs hs ha (fun j hj => ?_) ih
    obtain ⟨ad, e, hB, hl⟩ := hc j hj
    exact ⟨ad, e, hB, hl.keep fun p hp => hb.cell (by rw [hp, add_block]; exact hB)⟩
theorem Ex.more {w : World} {B B' : Nat} {v : Value} {t : T} (h : Ex w B v t) (hB : B ≤ B') : Ex w B' v t := by
  induction h with
  | mk A c vs hs ha hc hk ih =>
    refine .mk A c vs hs ha (fun j hj => ?_) ih
    obtain ⟨ad, e, hB', hl⟩ := hc j hj
    exact ⟨ad, e, by omega, hl⟩
theorem Ex.go {w w' : World} {v : Value} {t : T} (h : Ex w w.heap.size v t) (hb : Below w.heap.size w w') : Ex w' w'.heap.size v t := (h.blw hb).more hb.size

/-- how many names' letters and nodes below it -/
def szT : T → Nat
  | .mk _ _ s ks => s.length + (ks.length + (ks.attach.map fun ⟨a, _⟩ => szT a).sum)
termination_by t => SizeOf.sizeOf t
decreasing_by have := List.sizeOf_lt_of_mem ‹_›; simp only [T.mk.sizeOf_spec]; omega
theorem szT_mk (k n : Int) (s : List UInt8) (ks : List T) : szT (.mk k n s ks) = s.length + (ks.length + (ks.map szT).sum) := by
  rw [szT]; simp
def szK (ks : List T) : Nat := (ks.map szT).sum
theorem szK_take {ks : List T} {m : Nat} (h : m < ks.length) : szK (ks.take (m + 1)) = szK (ks.take m) + szT ks[m] := by
  unfold szK
  rw [List.take_succ_eq_append_getElem h, List.map_append, List.sum_append]; rfl
theorem szK_le (ks : List T) (m : Nat) : szK (ks.take m) ≤ szK ks := by
  unfold szK
  conv => rhs; rw [← List.take_append_drop m ks]
  rw [List.map_append, List.sum_append]; omega
def szAns (tot : Nat) (left : Int) : Int := if (tot : Int) ≤ left then left - tot else -1

/-- the cells of the kids, and what they read as -/
structure Kids (w : World) (B : Nat) (A : Option Addr) (ks : List T) (vs : Nat → Value) : Prop where
  cell : ∀ j, j < ks.length → ∃ ad, A = some ad ∧ ad.block < B ∧ Ld4 w (ad.add (j * 4)) (vs j)
  kid : ∀ j a, ks[j]? = some a → Ex w B (vs j) a
theorem Kids.go {w w' : World} {A : Option Addr} {ks : List T} {vs : Nat → Value} (h : Kids w w.heap.size A ks vs) (hb : Below w.heap.size w w') : Kids w' w'.heap.size A ks vs :=
  ⟨fun j hj => by
    obtain ⟨ad, e, hB, hl⟩ := h.cell j hj
    exact ⟨ad, e, Nat.lt_of_lt_of_le hB hb.size, hl.keep fun p hp => hb.cell (by rw [hp, add_block]; exact hB)⟩, fun j a ha => (h.kid j a ha).go hb⟩
theorem Ex.kids {w : World} {B : Nat} {v : Value} {k n : Int} {s : List UInt8} {ks : List T} (h : Ex w B v (.mk k n s ks)) :
    ∃ (A : Option Addr) (c : Nat) (vs : Nat → Value), v = nv k n s A ks.length c ∧ s.length ≤ 9223372036854775807 ∧ ks.length ≤ 9223372036854775807 ∧ Kids w B A ks vs := by
  obtain ⟨A, c, vs, e, h1, h2, h3, h4⟩ := h.inv
  exact ⟨A, c, vs, e, h1, h2, h3, h4⟩

/-- what szExpr promises of t -/
def SzE (t : T) : Prop := ∀ (left : Int) (v : Value) (w : World), Ex w w.heap.size v t → 0 ≤ left → left ≤ 1048576 → Calls Try.prog 28 #[v, .int .i64 left] w fun e w' => e = .returned (.int .i64 (szAns (szT t) left)) ∧ Below w.heap.size w w'
set_option maxHeartbeats 1000000 in
theorem szES (ks : List T) (ih : ∀ a ∈ ks, SzE a) (A : Option Addr) (c : Nat) (left : Int) (vs : Nat → Value) (w : World) (hk : Kids w w.heap.size A ks vs) (hl : ks.length ≤ 9223372036854775807) (h0 : 0 ≤ left) (h1 : left ≤ 1048576) :
    Calls Try.prog 57 #[.slice A ks.length c, .int .i64 left] w fun e w' => e = .returned (.int .i64 (szAns (ks.length + szK ks) left)) ∧ Below w.heap.size w w' := by
  have t0' : wrap64 (left - (ks.length : Int)) = left - (ks.length : Int) := by unfold wrap64; omega
  by_cases hbig : left < ks.length
  · have t0 : decide (left - (ks.length : Int) < 0) = true := decide_eq_true (by omega)
    have hf := hid (show szAns (ks.length + szK ks) left = -1 by unfold szAns; rw [if_neg (by omega)])
    go_enter Try.func57, Try.ntmps57
    go_wp2_with fail
    go_ret
    exact ⟨by rw [hf.out]; rfl, Below.refl _ _⟩
  have t0 : decide (left - (ks.length : Int) < 0) = false := decide_eq_false (by omega)
  have hn := hid (show szK (ks.take 0) = 0 by simp [szK])
  generalize hL : ks.length = n at *
  go_enter Try.func57, Try.ntmps57
  go_wp2_with fail
  go_loopw [1, 5] (fun a i wr => ∃ m : Nat, m ≤ n ∧ i = .int .i64 m ∧ a = .int .i64 (left - (n : Int) - (szK (ks.take m) : Int)) ∧ (szK (ks.take m) : Int) ≤ left - n ∧ Below w.heap.size w wr) (fun _ i _ => n - (Go.RowKit.intOf i).toNat)
  case atStart => exact ⟨0, Nat.zero_le _, rfl, by rw [hn.out]; simp, by rw [hn.out]; omega, Below.refl _ _⟩
  case round =>
    obtain ⟨m, hm, rfl, rfl, hs, hb⟩ := hrel
    by_cases hlt : m < n
    · have hkr := hk.go hb
      obtain ⟨ad, rfl, _, c0, c1, c2, c3, e, k0, k1, k2, k3⟩ := hkr.cell m (by omega)
      have hu : ks[m]? = some ks[m] := List.getElem?_eq_getElem (by omega)
      have hkid := hkr.kid m _ hu
      have hmem : ks[m] ∈ ks := List.getElem_mem _
      have hst := hid (szK_take (ks := ks) (m := m) (by omega))
      have hle := hid (szK_le ks (m + 1))
      have hck := hid (ih _ hmem (left - (n : Int) - (szK (ks.take m) : Int)) _ wr hkid (by omega) (by omega))
      rw [e] at hck
      have hb := hid hb
      by_cases hfit : (szT ks[m] : Int) ≤ left - (n : Int) - (szK (ks.take m) : Int)
      · have hq : szAns (szT ks[m]) (left - (n : Int) - (szK (ks.take m) : Int)) = left - (n : Int) - (szK (ks.take m) : Int) - (szT ks[m] : Int) := by unfold szAns; rw [if_pos hfit]
        rw [hq] at hck
        have tq : decide (left - (n : Int) - (szK (ks.take m) : Int) - (szT ks[m] : Int) < 0) = false := decide_eq_false (by omega)
        clear hq hu hkid hmem hkr e
        go_wp2_with fail
        refine hck.out.mono ?_
        rintro e w2 ⟨rfl, hb2⟩
        have hb2 := hid (hb.out.trans (hb2.mono hb.out.size))
        go_wp2_with fail
        exact ⟨⟨m + 1, hlt, by go_num, by rw [hst.out]; congr 1; omega, by rw [hst.out]; omega, hb2.out⟩, by simp [Go.RowKit.intOf]; omega⟩
      · have hq : szAns (szT ks[m]) (left - (n : Int) - (szK (ks.take m) : Int)) = -1 := by unfold szAns; rw [if_neg hfit]
        rw [hq] at hck
        have hf := hid (show szAns (n + szK ks) left = -1 by
          have h1 := hle.out
          rw [hst.out] at h1
          unfold szAns; rw [if_neg (by omega)])
        clear hq hu hkid hmem hkr e
        go_wp2_with fail
        refine hck.out.mono ?_
        rintro e w2 ⟨rfl, hb2⟩
        have hb2 := hid (hb.out.trans (hb2.mono hb.out.size))
        go_wp2_with fail
        go_ret
        exact ⟨by rw [hf.out]; rfl, hb2.out⟩
    · obtain rfl : m = n := by omega
      have hf := hid (show szAns (m + szK ks) left = left - (m : Int) - (szK (ks.take m) : Int) by
        rw [List.take_of_length_le (by omega)] at hs ⊢
        unfold szAns; rw [if_pos (by omega)]; omega)
      go_wp2_with fail
      go_ret
      exact ⟨by rw [hf.out]; rfl, hb⟩
set_option maxHeartbeats 1000000 in
theorem szE (t : T) : SzE t := by
  induction t using T.ind with
  | h k n s ks ih =>
    intro left v w hv h0 h1
    obtain ⟨A, c, vs, rfl, hs, hl, hk⟩ := hv.kids
    have e1 : wrap64 (left - (s.length : Int)) = left - (s.length : Int) := by unfold wrap64; omega
    by_cases hbig : left < s.length
    · have t0 : decide (left - (s.length : Int) < 0) = true := decide_eq_true (by omega)
      have hf := hid (show szAns (szT (.mk k n s ks)) left = -1 by rw [szT_mk]; unfold szAns; rw [if_neg (by omega)])
      clear hk
      go_enter Try.func28, Try.ntmps28
      go_wp2_with fail
      go_ret
      exact ⟨by rw [hf.out]; rfl, (Below.refl _ _).alloc (Nat.le_refl _) _⟩
    · have t0 : decide (left - (s.length : Int) < 0) = false := decide_eq_false (by omega)
      have hb1 : Below w.heap.size w (w.alloc (.cells #[.int .i64 k, .int .i64 n, sv s, .slice A ks.length c] 44)) := (Below.refl _ _).alloc (Nat.le_refl _) _
      have hcl := szES ks ih A c (left - (s.length : Int)) vs _ (hk.go hb1) hl (by omega) (by omega)
      have hszt := szT_mk k n s ks
      have hszt : szT (.mk k n s ks) = s.length + (ks.length + szK ks) := hszt
      have hb1 := hid hb1
      by_cases hfit : ((ks.length + szK ks : Nat) : Int) ≤ left - (s.length : Int)
      · have hq : szAns (ks.length + szK ks) (left - (s.length : Int)) = left - (s.length : Int) - ((ks.length + szK ks : Nat) : Int) := by unfold szAns; rw [if_pos hfit]
        rw [hq] at hcl
        have hcl := hid hcl
        have hf := hid (show szAns (szT (.mk k n s ks)) left = left - (s.length : Int) - ((ks.length + szK ks : Nat) : Int) by rw [hszt]; unfold szAns; rw [if_pos (by omega)]; omega)
        have tq : decide (left - (s.length : Int) - ((ks.length + szK ks : Nat) : Int) < 0) = false := decide_eq_false (by omega)
        clear hq hk hszt
        generalize ((ks.length + szK ks : Nat) : Int) = Z at *
        go_enter Try.func28, Try.ntmps28
        go_wp2_with fail
        refine hcl.out.mono ?_
        rintro e w2 ⟨rfl, hb2⟩
        have hb2 := hid (hb1.out.trans (hb2.mono hb1.out.size))
        go_wp2_with fail
        go_ret
        exact ⟨by rw [hf.out]; rfl, hb2.out⟩
      · have hq : szAns (ks.length + szK ks) (left - (s.length : Int)) = -1 := by unfold szAns; rw [if_neg hfit]
        rw [hq] at hcl
        have hcl := hid hcl
        have hf := hid (show szAns (szT (.mk k n s ks)) left = -1 by rw [hszt]; unfold szAns; rw [if_neg (by omega)])
        clear hq hk hszt
        go_enter Try.func28, Try.ntmps28
        go_wp2_with fail
        refine hcl.out.mono ?_
        rintro e w2 ⟨rfl, hb2⟩
        have hb2 := hid (hb1.out.trans (hb2.mono hb1.out.size))
        go_wp2_with fail
        go_ret
        exact ⟨by rw [hf.out]; rfl, hb2.out⟩
end Go.Proofs.Ytlkfejcnkckgkaa.Tr
