/- Expressions in the exact laws' words. -/
import Derived.Test.YtklcbagddijkgaaGreatZTr
import Derived.Test.YtklcbagddijkgaaGreatZLhS
set_option maxRecDepth 100000
namespace Go.Proofs.YtklcbagddijkgaaGreat.Tr
open Go.RowKit Go.Lib Go.Proofs.YtklcbagddijkgaaGreat.Com Go.Proofs.YtklcbagddijkgaaGreat.Mem Go.Proofs.YtklcbagddijkgaaGreat.Os

theorem four {w : World} {g ty : Nat} {a b c d : Value} (h : Blk w g ty [a, b, c, d]) : w.cell? ⟨g, 0, none⟩ = some a ∧ w.cell? ⟨g, 1, none⟩ = some b ∧ w.cell? ⟨g, 2, none⟩ = some c ∧ w.cell? ⟨g, 3, none⟩ = some d := ⟨h.cell 0, h.cell 1, h.cell 2, h.cell 3⟩
theorem blk_chg {w w' : World} {g ty lo hi : Nat} {cs : List Value} (h : Blk w g ty cs) (hc : Chg w w' lo hi) (hn : g < lo ∨ hi ≤ g) : Blk w' g ty cs := (hc.block g h.lt hn).trans h
theorem Ex.form {w : World} {B : Nat} {v : Value} {t : T} (h : Ex w B v t) : ∃ k n s A l c, v = nv k n s A l c := by
  cases h with
  | mk A c vs hs ha hc hk => exact ⟨_, _, _, _, _, _, rfl⟩
/-- a kid's cells, written out -/
theorem Kids.node {w : World} {B : Nat} {A : Option Addr} {ks : List T} {vs : Nat → Value} (h : Kids w B A ks vs) {m : Nat} (hm : m < ks.length) : ∃ ad k n s A' l c, A = some ad ∧ ad.block < B ∧ w.cell? (ad.add (m * 4)) = some (.int .i64 k) ∧
    w.cell? ⟨(ad.add (m * 4)).block, (ad.add (m * 4)).off + 1, none⟩ = some (.int .i64 n) ∧ w.cell? ⟨(ad.add (m * 4)).block, (ad.add (m * 4)).off + 2, none⟩ = some (sv s) ∧ w.cell? ⟨(ad.add (m * 4)).block, (ad.add (m * 4)).off + 3, none⟩ = some (.slice A' l c) ∧ Ex w B (nv k n s A' l c) ks[m] := by
  obtain ⟨ad, hA, hB, c0, c1, c2, c3, e, k0, k1, k2, k3⟩ := h.cell m hm
  have hx := h.kid m _ (List.getElem?_eq_getElem hm)
  generalize ks[m] = t at *
  obtain ⟨k, n, s, ks'⟩ := t
  obtain ⟨A', c', vs', ev, _⟩ := hx.kids
  rw [ev] at e hx
  injection e with e1
  have e2 := congrArg Array.toList e1
  simp only [List.cons.injEq] at e2
  obtain ⟨rfl, rfl, rfl, rfl, _⟩ := e2
  exact ⟨ad, k, n, s, A', _, c', hA, hB, k0, k1, k2, k3, hx⟩
/-- how many marks an expression takes -/
def markC (t : T) : Nat := 3 * (cntT t - 1)
abbrev OwnX (lo hi : Nat) (w : World) (v : Value) (t : T) : Prop := OwnE 48 w lo hi v t
theorem sdepth_own {lo hi : Nat} {v : Value} {t : T} (w : World) (h : OwnX lo hi w v t) (hz : szT t ≤ 1048576) : Calls Tryz.prog 104 #[v] w fun e w' => e = .returned (.int .i64 (depT t)) ∧ Below w.heap.size w w' :=
  sdepth t v w h.ex (by have := cnt_sz t; omega)
end Go.Proofs.YtklcbagddijkgaaGreat.Tr

/- Expressions of the call's own: marked. -/
set_option maxRecDepth 100000
namespace Go.Proofs.YtklcbagddijkgaaGreat.Tr
open Go.RowKit Go.Lib Go.Sort Go.Proofs.YtklcbagddijkgaaGreat.Com Go.Proofs.YtklcbagddijkgaaGreat.Mem Go.Proofs.YtklcbagddijkgaaGreat.Os

mutual
/-- a kid, marked from k on -/
def markN (k : Nat) : T → T
  | .mk _ _ _ ks => .mk k ((k : Int) + 1) (Lh.mk (k + 2)) (markK (k + 3) ks)
def markK (k : Nat) : List T → List T
  | [] => []
  | a :: r => markN k a :: markK (k + 3 * cntT a) r
end
/-- an expression whose kids are marked from k on -/
def markT (k : Nat) : T → T
  | .mk a b s ks => .mk a b s (markK k ks)
theorem markN_mk (k : Nat) (a b : Int) (s : List UInt8) (ks : List T) : markN k (.mk a b s ks) = .mk k ((k : Int) + 1) (Lh.mk (k + 2)) (markK (k + 3) ks) := by rw [markN]
theorem markK_len (k : Nat) (ks : List T) : (markK k ks).length = ks.length := by
  induction ks generalizing k with
  | nil => rw [markK]
  | cons a r ih => rw [markK, List.length_cons, ih, List.length_cons]
theorem markK_at (k : Nat) (ks : List T) : ∀ (j : Nat), (markK k ks)[j]? = (ks[j]?).map (markN (k + 3 * cntK (ks.take j))) := by
  induction ks generalizing k with
  | nil => intro j; rw [markK]; simp
  | cons a r ih =>
    intro j
    rw [markK]
    cases j with
    | zero => simp [cntK]
    | succ j =>
      rw [List.getElem?_cons_succ, ih, List.getElem?_cons_succ]
      have e : cntK ((a :: r).take (j + 1)) = cntT a + cntK (r.take j) := by simp [cntK]
      rw [e, show k + 3 * cntT a + 3 * cntK (r.take j) = k + 3 * (cntT a + cntK (r.take j)) by omega]

theorem OwnE.inv {ty : TypeId} {w : World} {lo hi : Nat} {k n : Int} {s : List UInt8} {A : Option Addr} {l c : Nat} {k' n' : Int} {s' : List UInt8} {ks : List T} (h : OwnE ty w lo hi (nv k n s A l c) (.mk k' n' s' ks)) :
    l = ks.length ∧ ks.length ≤ 9223372036854775807 ∧ ∃ (vs : Nat → Value) (ls hs : Nat → Nat), (ks.length ≠ 0 → ∃ g cs, A = some ⟨g, 0, none⟩ ∧ lo ≤ g ∧ g < hi ∧ Blk w g ty cs ∧ RowsAt cs ks.length vs ∧ ∀ j, j < ks.length → g < ls j ∨ hs j ≤ g) ∧
      (∀ j, j < ks.length → lo ≤ ls j ∧ hs j ≤ hi) ∧ (∀ i j, i < j → j < ks.length → hs i ≤ ls j ∨ hs j ≤ ls i) ∧ ∀ j a, ks[j]? = some a → OwnE ty w (ls j) (hs j) (vs j) a := by
  generalize hv : nv k n s A l c = v at h
  generalize ht : T.mk k' n' s' ks = t at h
  cases h with
  | mk A2 c2 vs ls hs hsl hkl hA hin hdis hk =>
    injection ht with h1 h2 h3 h4
    subst h4
    injection hv with e1
    have e2 := congrArg Array.toList e1
    simp only [List.cons.injEq] at e2
    obtain ⟨_, _, _, e3, _⟩ := e2
    injection e3 with e4 e5 e6
    subst e4
    exact ⟨e5, hkl, vs, ls, hs, hA, hin, hdis, hk⟩
theorem OwnE.chg {ty : TypeId} {w w' : World} {lo hi lo' hi' : Nat} {v : Value} {t : T} (h : OwnE ty w lo hi v t) (hc : Chg w w' lo' hi') (hn : hi ≤ lo' ∨ hi' ≤ lo) : OwnE ty w' lo hi v t := by
  induction h with
  | mk A c vs ls hs hsl hkl hA hin hdis hk ih =>
    refine .mk A c vs ls hs hsl hkl (fun hne => ?_) hin hdis (fun j a ha => ih j a ha ?_)
    · obtain ⟨g, cs, e, h1, h2, hb, hr, hd⟩ := hA hne
      exact ⟨g, cs, e, h1, h2, blk_chg hb hc (by omega), hr, hd⟩
    · obtain ⟨h3, h4⟩ := hin j (lt_of_get ha)
      omega
theorem OwnE.own_root {ty : TypeId} {w : World} {lo hi : Nat} {k n : Int} {s : List UInt8} {A : Option Addr} {l c : Nat} {k' n' : Int} {s' : List UInt8} {ks : List T} (h : OwnE ty w lo hi (nv k n s A l c) (.mk k' n' s' ks)) : k = k' ∧ n = n' ∧ s = s' ∧ s.length ≤ 9223372036854775807 := by
  generalize hv : nv k n s A l c = v at h
  generalize ht : T.mk k' n' s' ks = t at h
  cases h with
  | mk A2 c2 vs ls hs hsl hkl hA hin hdis hk =>
    injection ht with h1 h2 h3 h4
    injection hv with e1
    have e2 := congrArg Array.toList e1
    simp only [List.cons.injEq] at e2
    obtain ⟨e3, e4, e5, _⟩ := e2
    injection e3 with _ e6
    injection e4 with _ e7
    injection e5 with e8
    have e9 := congrArg ByteArray.data e8
    have e10 := congrArg Array.toList e9
    dsimp only at e10
    exact ⟨e6.trans h1.symm, e7.trans h2.symm, e10.trans h3.symm, by have := congrArg List.length e10; omega⟩
/-- the node's own fields may be others -/
theorem OwnE.root {ty : TypeId} {w : World} {lo hi : Nat} {k n : Int} {s : List UInt8} {A : Option Addr} {l c : Nat} {k' n' : Int} {s' : List UInt8} {ks : List T} (h : OwnE ty w lo hi (nv k n s A l c) (.mk k' n' s' ks)) (a b : Int) (q : List UInt8) (hq : q.length ≤ 9223372036854775807) :
    OwnE ty w lo hi (nv a b q A l c) (.mk a b q ks) := by
  obtain ⟨rfl, hkl, vs, ls, hs, hA, hin, hdis, hk⟩ := h.inv
  exact .mk A c vs ls hs hq hkl hA hin hdis hk
theorem mk_len (k : Nat) (h0 : 0 < k) (h : k ≤ 9223372036854775807) : (Lh.mk k).length ≤ 9223372036854775807 := by
  have h1 := Num.digs_len k (by omega)
  unfold Num.digs at h1
  rw [if_neg (by omega)] at h1
  have := nDigits_le20 k (by omega)
  unfold Lh.mk
  rw [List.length_cons]
  omega
theorem OwnE.mark {ty : TypeId} {w : World} {lo hi q : Nat} {k n : Int} {s : List UInt8} {A : Option Addr} {l c : Nat} {t : T} (h : OwnE ty w lo hi (nv k n s A l c) (markT (q + 3) t)) (h0 : q + 2 ≤ 9223372036854775807) :
    OwnE ty w lo hi (nv q ((q : Int) + 1) (Lh.mk (q + 2)) A l c) (markN q t) := by
  obtain ⟨k', n', s', ks⟩ := t
  rw [markT] at h
  rw [markN_mk]
  exact h.root _ _ _ (mk_len _ (by omega) h0)
def set3 (cs : List Value) (m : Nat) (c0 c1 c2 : Value) : List Value := ((cs.set (m * 4) c0).set (m * 4 + 1) c1).set (m * 4 + 2) c2
theorem set3_at (cs : List Value) (m i : Nat) (c0 c1 c2 : Value) (h : m * 4 + 3 < cs.length) :
    (set3 cs m c0 c1 c2)[i]? = if i = m * 4 then some c0 else if i = m * 4 + 1 then some c1 else if i = m * 4 + 2 then some c2 else cs[i]? := by
  unfold set3
  simp only [List.getElem?_set, List.length_set]
  by_cases h2 : m * 4 + 2 = i
  · subst h2; simp; omega
  by_cases h1 : m * 4 + 1 = i
  · subst h1; simp; omega
  by_cases h0 : m * 4 = i
  · subst h0; simp; omega
  rw [if_neg h2, if_neg h1, if_neg h0, if_neg (fun e => h0 e.symm), if_neg (fun e => h1 e.symm), if_neg (fun e => h2 e.symm)]
theorem rows_set3 {cs : List Value} {N m : Nat} {vs : Nat → Value} (h : RowsAt cs N vs) (hm : m < N) (c0 c1 c2 d0 d1 d2 c3 : Value) (hv : vs m = .agg #[d0, d1, d2, c3]) : RowsAt (set3 cs m c0 c1 c2) N (fun j => if j = m then .agg #[c0, c1, c2, c3] else vs j) := by
  obtain ⟨e0, e1, e2, e3, hv', q0, q1, q2, q3⟩ := h m hm
  have hl := lt_of_get q3
  rw [hv] at hv'
  injection hv' with hv1
  have hv2 := congrArg Array.toList hv1
  simp only [List.cons.injEq] at hv2
  obtain ⟨rfl, rfl, rfl, rfl, _⟩ := hv2
  intro j hj
  by_cases e : j = m
  · subst e
    refine ⟨c0, c1, c2, c3, if_pos rfl, ?_, ?_, ?_, ?_⟩ <;> rw [set3_at _ _ _ _ _ _ hl]
    · simp
    · simp
    · simp
    · simpa using q3
  · obtain ⟨d0, d1, d2, d3, hv, h0, h1, h2, h3⟩ := h j hj
    refine ⟨d0, d1, d2, d3, (if_neg e).trans hv, ?_, ?_, ?_, ?_⟩ <;> rw [set3_at _ _ _ _ _ _ hl, if_neg (by omega), if_neg (by omega), if_neg (by omega)] <;> assumption

theorem chg_set {w : World} {g i lo hi : Nat} (h1 : lo ≤ g) (h2 : g < hi) (u : Value) : Chg w (w.setCell ⟨g, i, none⟩ u) lo hi :=
  ⟨rfl, rfl, rfl, by simp [World.setCell], fun k _ hr => heap_setCell_other w _ k u (by show k ≠ g; omega)⟩
theorem same_set {w : World} {g i lo hi : Nat} (h : g < lo ∨ hi ≤ g) (u : Value) : Same lo hi w (w.setCell ⟨g, i, none⟩ u) := fun k h1 h2 => heap_setCell_other w _ k u (by show k ≠ g; omega)
theorem Same.tr {lo hi : Nat} {a b c : World} (h : Same lo hi a b) (k : Same lo hi b c) : Same lo hi a c := fun i h1 h2 => (k i h1 h2).trans (h i h1 h2)
end Go.Proofs.YtklcbagddijkgaaGreat.Tr
