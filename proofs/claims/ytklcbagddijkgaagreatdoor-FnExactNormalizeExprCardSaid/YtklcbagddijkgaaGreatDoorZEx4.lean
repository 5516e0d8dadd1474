/- Expressions in the exact laws' words. -/
import Derived.Test.YtklcbagddijkgaaGreatDoorZTr
import Derived.Test.YtklcbagddijkgaaGreatDoorZLhS
set_option maxRecDepth 100000
namespace Go.Proofs.YtklcbagddijkgaaGreatDoor.Tr
open Go.RowKit Go.Lib Go.Proofs.YtklcbagddijkgaaGreatDoor.Com Go.Proofs.YtklcbagddijkgaaGreatDoor.Mem Go.Proofs.YtklcbagddijkgaaGreatDoor.Os

theorem four {w : World} {g ty : Nat} {a b c d : Value} (h : Blk w g ty [a, b, c, d]) : w.cell? ⟨g, 0, none⟩ = some a ∧ w.cell? ⟨g, 1, none⟩ = some b ∧ w.cell? ⟨g, 2, none⟩ = some c ∧ w.cell? ⟨g, 3, none⟩ = some d := ⟨h.cell 0, h.cell 1, h.cell 2, h.cell 3⟩
theorem blk_chg {w w' : World} {g ty lo hi : Nat} {cs : List Value} (h : Blk w g ty cs) (hc : Chg w w' lo hi) (hn : g < lo ∨ hi ≤ g) : Blk w' g ty cs := (hc.block g h.lt hn).trans h
theorem Ex.form {w : World} {B : Nat} {v : Value} {t : T} (h : Ex w B v t) : ∃ k n s A l c, v = nv k n s A l c := by
  cases h with
  | mk A c vs hs ha hc hk => exact ⟨_, _, _, _, _, _, rfl⟩
/-- a kid's cells, written out -/
theorem Kids.node {w : World} {B : Nat} {A : Option Addr} {ks : List T} {vs : Nat → Value} (h : Kids w B A ks vs) {m : Nat} (hm : m < ks.length) : ∃ ad k n s A' l c, A = some ad ∧ ad.block < B ∧ w.cell? (ad.add (m * 4)) = some (.int .i64 k) ∧
    w.cell? ⟨(ad.add (m * 4)).block, (ad.add (m * 4)).off + 1, none⟩ = some (.int .i64 n) ∧ w.cell? ⟨(ad.add (m * 4)).block, (ad.add (m * 4)).off + 2, none⟩ = some (sv s) ∧ w.cell? ⟨(ad.add (m * 4)).block, (ad.add (m * 4)).off + 3, none⟩ = some (.slice A' l c) ∧ Ex w B (nv k n s A' l c) ks[m] := by
  obtain ⟨ad, hA, hB, c0, c1, c2, c3, e, k0, k1, k2, k3⟩ := h.cell m hm
  have hx := h.kid m _ (List.getElem?_eq_getElem hm)
  generalize ks[m] = t at *
  obtain ⟨k, n, s, ks'⟩ := t
  obtain ⟨A', c', vs', ev, _⟩ := hx.kids
  rw [ev] at e hx
  injection e with e1
  have e2 := congrArg Array.toList e1
  simp only [List.cons.injEq] at e2
  obtain ⟨rfl, rfl, rfl, rfl, _⟩ := e2
  exact ⟨ad, k, n, s, A', _, c', hA, hB, k0, k1, k2, k3, hx⟩
/-- how many marks an expression takes -/
def markC (t : T) : Nat := 3 * (cntT t - 1)
abbrev OwnX (lo hi : Nat) (w : World) (v : Value) (t : T) : Prop := OwnE 27 w lo hi v t
theorem eqE_own {lo hi lo' hi' : Nat} {v v' : Value} {t : T} (w : World) (h : OwnX lo hi w v t) (h' : OwnX lo' hi' w v' t) :
    Calls Tryz.prog 28 #[v, v'] w fun e w' => e = .returned (.bool true) ∧ Below w.heap.size w w' := eqE t v v' w h.ex h'.ex
theorem sdepth_own {lo hi : Nat} {v : Value} {t : T} (w : World) (h : OwnX lo hi w v t) (hz : szT t ≤ 1048576) : Calls Tryz.prog 49 #[v] w fun e w' => e = .returned (.int .i64 (depT t)) ∧ Below w.heap.size w w' :=
  sdepth t v w h.ex (by have := cnt_sz t; omega)
theorem seq_own {lo hi lo' hi' : Nat} {v v' : Value} {t t' : T} (w : World) (h : OwnX lo hi w v t) (h' : OwnX lo' hi' w v' t') : Calls Tryz.prog 14 #[v, v'] w fun e w' => e = .returned (.bool (eqT t t')) ∧ Below w.heap.size w w' :=
  eqS t t' v v' w h.ex h'.ex
end Go.Proofs.YtklcbagddijkgaaGreatDoor.Tr

/- Expressions of the call's own: marked. -/
set_option maxRecDepth 100000
namespace Go.Proofs.YtklcbagddijkgaaGreatDoor.Tr
open Go.RowKit Go.Lib Go.Sort Go.Proofs.YtklcbagddijkgaaGreatDoor.Com Go.Proofs.YtklcbagddijkgaaGreatDoor.Mem Go.Proofs.YtklcbagddijkgaaGreatDoor.Os

mutual
/-- a kid, marked from k on -/
def markN (k : Nat) : T → T
  | .mk _ _ _ ks => .mk k ((k : Int) + 1) (Lh.mk (k + 2)) (markK (k + 3) ks)
def markK (k : Nat) : List T → List T
  | [] => []
  | a :: r => markN k a :: markK (k + 3 * cntT a) r
end
/-- an expression whose kids are marked from k on -/
def markT (k : Nat) : T → T
  | .mk a b s ks => .mk a b s (markK k ks)
theorem markN_mk (k : Nat) (a b : Int) (s : List UInt8) (ks : List T) : markN k (.mk a b s ks) = .mk k ((k : Int) + 1) (Lh.mk (k + 2)) (markK (k + 3) ks) := by rw [markN]
theorem markK_len (k : Nat) (ks : List T) : (markK k ks).length = ks.length := by
  induction ks generalizing k with
  | nil => rw [markK]
  | cons a r ih => rw [markK, List.length_cons, ih, List.length_cons]
theorem markK_at (k : Nat) (ks : List T) : ∀ (j : Nat), (markK k ks)[j]? = (ks[j]?).map (markN (k + 3 * cntK (ks.take j))) := by
  induction ks generalizing k with
  | nil => intro j; rw [markK]; simp
  | cons a r ih =>
    intro j
    rw [markK]
    cases j with
    | zero => simp [cntK]
    | succ j =>
      rw [List.getElem?_cons_succ, ih, List.getElem?_cons_succ]
      have e : cntK ((a :: r).take (j + 1)) = cntT a + cntK (r.take j) := by simp [cntK]
      rw [e, show k + 3 * cntT a + 3 * cntK (r.take j) = k + 3 * (cntT a + cntK (r.take j)) by omega]

theorem OwnE.inv {ty : TypeId} {w : World} {lo hi : Nat} {k n : Int} {s : List UInt8} {A : Option Addr} {l c : Nat} {k' n' : Int} {s' : List UInt8} {ks : List T} (h : OwnE ty w lo hi (nv k n s A l c) (.mk k' n' s' ks)) :
    l = ks.length ∧ ks.length ≤ 9223372036854775807 ∧ ∃ (vs : Nat → Value) (ls hs : Nat → Nat), (ks.length ≠ 0 → ∃ g cs, A = some ⟨g, 0, none⟩ ∧ lo ≤ g ∧ g < hi ∧ Blk w g ty cs ∧ RowsAt cs ks.length vs ∧ ∀ j, j < ks.length → g < ls j ∨ hs j ≤ g) ∧
      (∀ j, j < ks.length → lo ≤ ls j ∧ hs j ≤ hi) ∧ (∀ i j, i < j → j < ks.length → hs i ≤ ls j ∨ hs j ≤ ls i) ∧ ∀ j a, ks[j]? = some a → OwnE ty w (ls j) (hs j) (vs j) a := by
  generalize hv : nv k n s A l c = v at h
  generalize ht : T.mk k' n' s' ks = t at h
  cases h with
  | mk A2 c2 vs ls hs hsl hkl hA hin hdis hk =>
    injection ht with h1 h2 h3 h4
    subst h4
    injection hv with e1
    have e2 := congrArg Array.toList e1
    simp only [List.cons.injEq] at e2
    obtain ⟨_, _, _, e3, _⟩ := e2
    injection e3 with e4 e5 e6
    subst e4
    exact ⟨e5, hkl, vs, ls, hs, hA, hin, hdis, hk⟩
theorem OwnE.chg {ty : TypeId} {w w' : World} {lo hi lo' hi' : Nat} {v : Value} {t : T} (h : OwnE ty w lo hi v t) (hc : Chg w w' lo' hi') (hn : hi ≤ lo' ∨ hi' ≤ lo) : OwnE ty w' lo hi v t := by
  induction h with
  | mk A c vs ls hs hsl hkl hA hin hdis hk ih =>
    refine .mk A c vs ls hs hsl hkl (fun hne => ?_) hin hdis (fun j a ha => ih j a ha ?_)
    · obtain ⟨g, cs, e, h1, h2, hb, hr, hd⟩ := hA hne
      exact ⟨g, cs, e, h1, h2, blk_chg hb hc (by omega), hr, hd⟩
    · obtain ⟨h3, h4⟩ := hin j (lt_of_get ha)
      omega
theorem OwnE.own_root {ty : TypeId} {w : World} {lo hi : Nat} {k n : Int} {s : List UInt8} {A : Option Addr} {l c : Nat} {k' n' : Int} {s' : List UInt8} {ks : List T} (h : OwnE ty w lo hi (nv k n s A l c) (.mk k' n' s' ks)) : k = k' ∧ n = n' ∧ s = s' ∧ s.length ≤ 9223372036854775807 := by
  generalize hv : nv k n s A l c = v at h
  generalize ht : T.mk k' n' s' ks = t at h
  cases h with
  | mk A2 c2 vs ls hs hsl hkl hA hin hdis hk =>
    injection ht with h1 h2 h3 h4
    injection hv with e1
    have e2 := congrArg Array.toList e1
    simp only [List.cons.injEq] at e2
    obtain ⟨e3, e4, e5, _⟩ := e2
    injection e3 with _ e6
    injection e4 with _ e7
    injection e5 with e8
    have e9 := congrArg ByteArray.data e8
    have e10 := congrArg Array.toList e9
    dsimp only at e10
    exact ⟨e6.trans h1.symm, e7.trans h2.symm, e10.trans h3.symm, by have := congrArg List.length e10; omega⟩
/-- the node's own fields may be others -/
theorem OwnE.root {ty : TypeId} {w : World} {lo hi : Nat} {k n : Int} {s : List UInt8} {A : Option Addr} {l c : Nat} {k' n' : Int} {s' : List UInt8} {ks : List T} (h : OwnE ty w lo hi (nv k n s A l c) (.mk k' n' s' ks)) (a b : Int) (q : List UInt8) (hq : q.length ≤ 9223372036854775807) :
    OwnE ty w lo hi (nv a b q A l c) (.mk a b q ks) := by
  obtain ⟨rfl, hkl, vs, ls, hs, hA, hin, hdis, hk⟩ := h.inv
  exact .mk A c vs ls hs hq hkl hA hin hdis hk
theorem mk_len (k : Nat) (h0 : 0 < k) (h : k ≤ 9223372036854775807) : (Lh.mk k).length ≤ 9223372036854775807 := by
  have h1 := Num.digs_len k (by omega)
  unfold Num.digs at h1
  rw [if_neg (by omega)] at h1
  have := nDigits_le20 k (by omega)
  unfold Lh.mk
  rw [List.length_cons]
  omega
theorem OwnE.mark {ty : TypeId} {w : World} {lo hi q : Nat} {k n : Int} {s : List UInt8} {A : Option Addr} {l c : Nat} {t : T} (h : OwnE ty w lo hi (nv k n s A l c) (markT (q + 3) t)) (h0 : q + 2 ≤ 9223372036854775807) :
    OwnE ty w lo hi (nv q ((q : Int) + 1) (Lh.mk (q + 2)) A l c) (markN q t) := by
  obtain ⟨k', n', s', ks⟩ := t
  rw [markT] at h
  rw [markN_mk]
  exact h.root _ _ _ (mk_len _ (by omega) h0)
def set3 (cs : List Value) (m : Nat) (c0 c1 c2 : Value) : List Value := ((cs.set (m * 4) c0).set (m * 4 + 1) c1).set (m * 4 + 2) c2
theorem set3_at (cs : List Value) (m i : Nat) (c0 c1 c2 : Value) (h : m * 4 + 3 < cs.length) :
    (set3 cs m c0 c1 c2)[i]? = if i = m * 4 then some c0 else if i = m * 4 + 1 then some c1 else if i = m * 4 + 2 then some c2 else cs[i]? := by
  unfold set3
  simp only [List.getElem?_set, List.length_set]
  by_cases h2 : m * 4 + 2 = i
  · subst h2; simp; omega
  by_cases h1 : m * 4 + 1 = i
  · subst h1; simp; omega
  by_cases h0 : m * 4 = i
  · subst h0; simp; omega
  rw [if_neg h2, if_neg h1, if_neg h0, if_neg (fun e => h0 e.symm), if_neg (fun e => h1 e.symm), if_neg (fun e => h2 e.symm)]
theorem rows_set3 {cs : List Value} {N m : Nat} {vs : Nat → Value} (h : RowsAt cs N vs) (hm : m < N) (c0 c1 c2 d0 d1 d2 c3 : Value) (hv : vs m = .agg #[d0, d1, d2, c3]) : RowsAt (set3 cs m c0 c1 c2) N (fun j => if j = m then .agg #[c0, c1, c2, c3] else vs j) := by
  obtain ⟨e0, e1, e2, e3, hv', q0, q1, q2, q3⟩ := h m hm
  have hl := lt_of_get q3
  rw [hv] at hv'
  injection hv' with hv1
  have hv2 := congrArg Array.toList hv1
  simp only [List.cons.injEq] at hv2
  obtain ⟨rfl, rfl, rfl, rfl, _⟩ := hv2
  intro j hj
  by_cases e : j = m
  · subst e
    refine ⟨c0, c1, c2, c3, if_pos rfl, ?_, ?_, ?_, ?_⟩ <;> rw [set3_at _ _ _ _ _ _ hl]
    · simp
    · simp
    · simp
    · simpa using q3
  · obtain ⟨d0, d1, d2, d3, hv, h0, h1, h2, h3⟩ := h j hj
    refine ⟨d0, d1, d2, d3, (if_neg e).trans hv, ?_, ?_, ?_, ?_⟩ <;> rw [set3_at _ _ _ _ _ _ hl, if_neg (by omega), if_neg (by omega), if_neg (by omega)] <;> assumption

theorem chg_set {w : World} {g i lo hi : Nat} (h1 : lo ≤ g) (h2 : g < hi) (u : Value) : Chg w (w.setCell ⟨g, i, none⟩ u) lo hi :=
  ⟨rfl, rfl, rfl, by simp [World.setCell], fun k _ hr => heap_setCell_other w _ k u (by show k ≠ g; omega)⟩
theorem same_set {w : World} {g i lo hi : Nat} (h : g < lo ∨ hi ≤ g) (u : Value) : Same lo hi w (w.setCell ⟨g, i, none⟩ u) := fun k h1 h2 => heap_setCell_other w _ k u (by show k ≠ g; omega)
theorem Same.tr {lo hi : Nat} {a b c : World} (h : Same lo hi a b) (k : Same lo hi b c) : Same lo hi a c := fun i h1 h2 => (k i h1 h2).trans (h i h1 h2)
/-- what markExprS promises of the kids of t -/
def MkE (t : T) : Prop := ∀ (lo hi : Nat) (k0 n0 : Int) (s0 : List UInt8) (A : Option Addr) (l c k : Nat) (w : World), OwnE 27 w lo hi (nv k0 n0 s0 A l c) t → 0 < k → k + 3 * cntT t ≤ 9223372036854775807 →
  Calls Tryz.prog 73 #[.slice A l c, .int .i64 k] w fun e w' => e = .returned (.int .i64 ((k + 3 * (cntT t - 1) : Nat) : Int)) ∧ OwnE 27 w' lo hi (nv k0 n0 s0 A l c) (markT k t) ∧ Chg w w' lo hi
theorem markS_none (A : Option Addr) (c k : Nat) (w : World) : Calls Tryz.prog 73 #[.slice A 0 c, .int .i64 k] w fun e w' => e = .returned (.int .i64 k) ∧ w = w' := by
  go_enter Tryz.func73, Tryz.ntmps73
  go_wp2_with fail
  refine wp_loop_rounds 1 ?_; rw [rounds_succ]
  go_wp2_with fail
  go_ret
  exact ⟨rfl, rfl⟩
set_option maxHeartbeats 4000000 in
theorem markE (t : T) : MkE t := by
  induction t using T.ind with
  | h kk nn ss ks ih =>
    intro lo hi k0 n0 s0 A l c k w ho hk0 hk1
    obtain ⟨rfl, rfl, rfl, hsl⟩ := ho.own_root
    obtain ⟨rfl, hkl, vs, ls, hs, hA, hin, hdis, hkid⟩ := ho.inv
    rw [cntT_mk] at hk1
    have hcnt := hid (cntT_mk k0 n0 s0 ks)
    by_cases hz : ks.length = 0
    · obtain rfl := List.eq_nil_of_length_eq_zero hz
      refine (markS_none A c k w).mono ?_
      rintro e w' ⟨rfl, rfl⟩
      refine ⟨by rw [hcnt.out]; simp [cntK], ?_, chg_refl _ _ _⟩
      have : markT k (.mk k0 n0 s0 []) = .mk k0 n0 s0 [] := by rw [markT, markK]
      rw [this]; exact ho
    obtain ⟨g, cs, rfl, hg1, hg2, hblk, hrow, hgd⟩ := hA hz
    have hinit := hid (show cntK (ks.take 0) = 0 by simp [cntK])
    have hs0 := hid ho
    have hz := hid hz
    have hin := hid hin
    have hdis := hid hdis
    have hgd := hid hgd
    have hih := hid ih
    clear hA ho ih
    have hcs : ∀ j, j < ks.length → j * 4 + 3 < cs.length := fun j hj => by
      obtain ⟨_, _, _, _, _, _, _, _, q3⟩ := hrow j hj
      exact lt_of_get q3
    generalize hN : ks.length = N at *
    go_enter Tryz.func73, Tryz.ntmps73
    go_wp2_with fail
    go_loopw [1, 5] (fun a i wr => ∃ (m : Nat) (cs : List Value) (vs' : Nat → Value), m ≤ N ∧ i = .int .i64 m ∧ a = .int .i64 ((k + 3 * cntK (ks.take m) : Nat) : Int) ∧ Blk wr g 27 cs ∧ RowsAt cs N vs' ∧
      (∀ (j : Nat) (a : T), ks[j]? = some a → OwnE 27 wr (ls j) (hs j) (vs' j) (if j < m then markN (k + 3 * cntK (ks.take j)) a else a)) ∧ Chg w wr lo hi) (fun _ i _ => N - (Go.RowKit.intOf i).toNat)
    case atStart => exact ⟨0, cs, vs, Nat.zero_le _, rfl, by rw [hinit.out]; simp, hblk, hrow, fun j a ha => by rw [if_neg (by omega)]; exact hkid j a ha, chg_refl _ _ _⟩
    case round =>
      clear hblk hrow hkid hcs
      obtain ⟨m, cs, vs', hm, rfl, rfl, hblk, hrow, hkid, hch⟩ := hrel
      by_cases hlt : m < N
      · have hu : ks[m]? = some ks[m] := List.getElem?_eq_getElem (by omega)
        have hle := cntK_le ks (m + 1)
        rw [cntK_take (by omega)] at hle
        have hst := hid (cntK_take (ks := ks) (m := m) (by omega))
        have hq1 : k + 3 * cntK (ks.take m) + 3 * cntT ks[m] ≤ 9223372036854775807 := by omega
        have hpos := cnt_pos ks[m]
        have hom := hkid m _ hu
        rw [if_neg (by omega)] at hom
        obtain ⟨ka, na, sa, A', l', c', hvm⟩ := hom.form
        rw [hvm] at hom
        obtain ⟨r0, r1, r2, r3, hv', q0, q1, q2, q3⟩ := hrow m hlt
        rw [hvm] at hv'
        injection hv' with hv1
        have hv2 := congrArg Array.toList hv1
        simp only [List.cons.injEq] at hv2
        obtain ⟨rfl, rfl, rfl, rfl, _⟩ := hv2
        generalize hq : k + 3 * cntK (ks.take m) = q at *
        have p0 : wr.cell? ⟨g, m * 4, none⟩ = some (.int .i64 ka) := by rw [hblk.cell, q0]
        have p1 : wr.cell? ⟨g, m * 4 + 1, none⟩ = some (.int .i64 na) := by rw [hblk.cell, q1]
        have f0 := hblk.frozen (m * 4)
        have f1 := hblk.frozen (m * 4 + 1)
        have f2 := hblk.frozen (m * 4 + 2)
        have f3 := hblk.frozen (m * 4 + 3)
        have hb0 := hid hblk
        have hr0 := hid hrow
        have hk1' := hid hkid
        have hc0 := hid hch
        have hom := hid hom
        have q2 := hid q2
        have q3 := hid q3
        have hvm := hid hvm
        have hu := hid hu
        have hmt := fun w => Lh.markText_any (q + 2) (by omega) (by omega) w
        rw [show ((q + 2 : Nat) : Int) = (q : Int) + 1 + 1 by omega] at hmt
        have hmt := hid hmt
        have hihm := fun w => hih.out ks[m] (List.getElem_mem _) (ls m) (hs m) ka na sa A' l' c' (q + 3) w
        rw [show ((q + 3 : Nat) : Int) = (q : Int) + 1 + 1 + 1 by omega] at hihm
        have hihm := hid hihm
        have hgm := hid (hgd.out m hlt)
        have him := hid (hin.out m hlt)
        clear hblk hrow hkid hch hv1 q0 q1
        go_wp2_with fail
        refine (hmt.out _).mono ?_
        rintro e w2 ⟨rfl, hb⟩
        have hB1 := ((hb0.out.set_ (m * 4) (.int .i64 (q : Int))).set_ (m * 4 + 1) (.int .i64 ((q : Int) + 1)))
        have hB2 := hB1.below hb hB1.lt
        have p2 : w2.cell? ⟨g, m * 4 + 2, none⟩ = some (sv sa) := by
          rw [hB2.cell]; simp only [List.getElem?_set]; rw [if_neg (by omega), if_neg (by omega)]; exact q2.out
        have p3 : w2.cell? ⟨g, m * 4 + 3, none⟩ = some (.slice A' l' c') := by
          rw [hB2.cell]; simp only [List.getElem?_set]; rw [if_neg (by omega), if_neg (by omega)]; exact q3.out
        have e2 := hB2.frozen (m * 4 + 2)
        have hB3 := hid (hB2.set_ (m * 4 + 2) (sv (Lh.mk (q + 2))))
        -- what the three stores and markText leave as it was
        have hkeep := hid (fun (lo' hi' : Nat) (v : Value) (a : T) (hn : g < lo' ∨ hi' ≤ g) (h : OwnE 27 wr lo' hi' v a) =>
          show OwnE 27 (w2.setCell ⟨g, m * 4 + 2, none⟩ (sv (Lh.mk (q + 2)))) lo' hi' v a from
          ((((h.chg (chg_set (i := m * 4) (Nat.le_refl g) (Nat.lt_succ_self g) (.int .i64 (q : Int))) (by omega)).chg (chg_set (i := m * 4 + 1) (Nat.le_refl g) (Nat.lt_succ_self g) (.int .i64 ((q : Int) + 1))) (by omega)).chg (chg_of_below hb 0 0) (Or.inr (Nat.zero_le _))).chg (chg_set (i := m * 4 + 2) (Nat.le_refl g) (Nat.lt_succ_self g) (sv (Lh.mk (q + 2)))) (by omega)))
        have hc3 := hid (chg_trans (chg_trans (chg_trans (chg_trans hc0.out (chg_set (i := m * 4) hg1 hg2 (.int .i64 (q : Int)))) (chg_set (i := m * 4 + 1) hg1 hg2 (.int .i64 ((q : Int) + 1)))) (chg_of_below hb lo hi)) (chg_set (w := w2) (i := m * 4 + 2) hg1 hg2 (sv (Lh.mk (q + 2)))))
        have hcl := hid (hihm.out _ (hkeep.out _ _ _ _ hgm.out hom.out) (by omega) (by omega))
        clear hB1 hB2 hb hihm hmt
        go_wp2_with fail
        refine hcl.out.mono ?_
        rintro e w4 ⟨rfl, ho4, hch4⟩
        have hres := hid ho4
        have hch4 := hid hch4
        clear ho4
        go_wp2_with fail
        refine ⟨⟨m + 1, _, fun j => if j = m then nv q ((q : Int) + 1) (Lh.mk (q + 2)) A' l' c' else vs' j, hlt, by go_num, ?_, blk_chg hB3.out hch4.out (by have := hgm.out; omega), rows_set3 hr0.out hlt _ _ _ _ _ _ _ hvm.out, ?_, chg_trans hc3.out (chg_mono hch4.out him.out.1 him.out.2)⟩, by simp [Go.RowKit.intOf]; omega⟩
        · have := hst.out
          congr 1
          omega
        · intro j a ha
          by_cases e : j = m
          · subst e
            rw [hu.out] at ha; cases ha
            dsimp only
            rw [if_pos rfl, if_pos (by omega), hq]
            exact hres.out.mark (by omega)
          · dsimp only
            rw [if_neg e]
            have hj := lt_of_get ha
            have h1 := hkeep.out _ _ _ _ (hgd.out j (by omega)) (hk1'.out j a ha)
            have h2 := h1.chg hch4.out (by
              rcases Nat.lt_or_ge j m with h | h
              · have := hdis.out j m h hlt; omega
              · have := hdis.out m j (by omega) (by omega); omega)
            by_cases hjm : j < m
            · rw [if_pos (by omega)]; rw [if_pos hjm] at h2; exact h2
            · rw [if_neg (by omega)]; rw [if_neg hjm] at h2; exact h2
      · obtain rfl : m = N := by omega
        have hf := hid (show ((k + 3 * cntK (ks.take m) : Nat) : Int) = ((k + 3 * (cntT (.mk k0 n0 s0 ks) - 1) : Nat) : Int) by
          rw [List.take_of_length_le (by omega), hcnt.out]; congr 1; omega)
        have hb0 := hid hblk
        have hr0 := hid hrow
        have hk1' := hid hkid
        have hc0 := hid hch
        clear hblk hrow hkid hch
        go_wp2_with fail
        go_ret
        refine ⟨by rw [← hf.out]; rfl, ?_, hc0.out⟩
        have hml : (markK k ks).length = m := by rw [markK_len, hN]
        have hgoal : OwnE 27 wr lo hi (nv k0 n0 s0 (some ⟨g, 0, none⟩) (markK k ks).length c) (.mk k0 n0 s0 (markK k ks)) := by
          refine .mk _ c vs' ls hs hsl (by rw [hml]; exact hkl) (fun _ => ⟨g, cs, rfl, hg1, hg2, hb0.out, by rw [hml]; exact hr0.out, fun j hj => hgd.out j (by omega)⟩) (fun j hj => hin.out j (by omega)) (fun i j hij hj => hdis.out i j hij (by omega)) (fun j a ha => ?_)
          rw [markK_at] at ha
          cases hkj : ks[j]? with
          | none => rw [hkj] at ha; cases ha
          | some b =>
            rw [hkj] at ha
            cases ha
            have := hk1'.out j b hkj
            rw [if_pos (by have := lt_of_get hkj; omega)] at this
            exact this
        rw [hml] at hgoal
        rw [markT]
        exact hgoal
set_option maxHeartbeats 1000000 in
theorem markE_own {lo hi : Nat} {v : Value} {t : T} (kI : Int) (w : World) (h : OwnX lo hi w v t) (h0 : 0 < kI) (h1 : kI + ((markC t : Nat) : Int) ≤ 9223372036000000000) :
    Calls Tryz.prog 29 #[v, .int .i64 kI] w fun e w' => e = .returned (.int .i64 (kI + ((markC t : Nat) : Int))) ∧ OwnX lo hi w' v (markT kI.toNat t) ∧ Chg w w' lo hi := by
  obtain ⟨k, rfl⟩ : ∃ k : Nat, kI = k := ⟨kI.toNat, by omega⟩
  rw [Int.toNat_natCast]
  obtain ⟨k0, n0, s0, A, l, c, rfl⟩ := h.form
  have hb := box_below w (.cells #[.int .i64 k0, .int .i64 n0, sv s0, .slice A l c] 27)
  have hp := cnt_pos t
  have hcl := markE t lo hi k0 n0 s0 A l c k _ (h.chg (chg_of_below hb 0 0) (Or.inr (Nat.zero_le _))) (by omega) (by unfold markC at h1; omega)
  rw [show ((k + 3 * (cntT t - 1) : Nat) : Int) = (k : Int) + ((markC t : Nat) : Int) by unfold markC; omega] at hcl
  have hcl := hid hcl
  have hb := hid hb
  clear h
  go_enter Tryz.func29, Tryz.ntmps29
  go_wp2_with fail
  refine hcl.out.mono ?_
  rintro e w2 ⟨rfl, ho, hc⟩
  have ho := hid ho
  have hc := hid (chg_trans (chg_of_below hb.out lo hi) hc)
  go_wp2_with fail
  go_ret
  exact ⟨rfl, ho.out, hc.out⟩
end Go.Proofs.YtklcbagddijkgaaGreatDoor.Tr
