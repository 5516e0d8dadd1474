/- Expressions that the call itself has made; toExpr. -/
import Derived.Test.YteenkdplpalofaaGreatDoorZTr
import Derived.Test.YteenkdplpalofaaGreatDoorZOz
import Derived.Laws.EntriesVeiled
import Derived.Laws.Rows
set_option maxRecDepth 100000
namespace Go.Proofs.YteenkdplpalofaaGreatDoor.Tr
open Go.RowKit Go.Lib Go.Sort Go.Proofs.YteenkdplpalofaaGreatDoor.Com Go.Proofs.YteenkdplpalofaaGreatDoor.Mem Go.Proofs.YteenkdplpalofaaGreatDoor.Os

/-- the first m nodes of a row of cells -/
def RowsAt (cs : List Value) (m : Nat) (vs : Nat → Value) : Prop := ∀ j, j < m → ∃ c0 c1 c2 c3, vs j = .agg #[c0, c1, c2, c3] ∧ cs[j * 4]? = some c0 ∧ cs[j * 4 + 1]? = some c1 ∧ cs[j * 4 + 2]? = some c2 ∧ cs[j * 4 + 3]? = some c3
def set4 (cs : List Value) (m : Nat) (c0 c1 c2 c3 : Value) : List Value := (((cs.set (m * 4) c0).set (m * 4 + 1) c1).set (m * 4 + 2) c2).set (m * 4 + 3) c3
theorem set4_len (cs : List Value) (m : Nat) (c0 c1 c2 c3 : Value) : (set4 cs m c0 c1 c2 c3).length = cs.length := by simp [set4]
theorem set4_at (cs : List Value) (m i : Nat) (c0 c1 c2 c3 : Value) (h : m * 4 + 3 < cs.length) :
    (set4 cs m c0 c1 c2 c3)[i]? = if i = m * 4 then some c0 else if i = m * 4 + 1 then some c1 else if i = m * 4 + 2 then some c2 else if i = m * 4 + 3 then some c3 else cs[i]? := by
  unfold set4
  simp only [List.getElem?_set, List.length_set]
  by_cases h3 : m * 4 + 3 = i
  · subst h3; simp; omega
  by_cases h2 : m * 4 + 2 = i
  · subst h2; simp; omega
  by_cases h1 : m * 4 + 1 = i
  · subst h1; simp; omega
  by_cases h0 : m * 4 = i
  · subst h0; simp; omega
  rw [if_neg h3, if_neg h2, if_neg h1, if_neg h0, if_neg (fun e => h0 e.symm), if_neg (fun e => h1 e.symm), if_neg (fun e => h2 e.symm), if_neg (fun e => h3 e.symm)]
theorem RowsAt.set {cs : List Value} {m : Nat} {vs : Nat → Value} (h : RowsAt cs m vs) (c0 c1 c2 c3 : Value) (hl : m * 4 + 3 < cs.length) : RowsAt (set4 cs m c0 c1 c2 c3) (m + 1) (fun j => if j = m then .agg #[c0, c1, c2, c3] else vs j) := by
  intro j hj
  by_cases e : j = m
  · subst e
    refine ⟨c0, c1, c2, c3, if_pos rfl, ?_, ?_, ?_, ?_⟩ <;> rw [set4_at _ _ _ _ _ _ _ hl] <;> simp
  · obtain ⟨d0, d1, d2, d3, hv, h0, h1, h2, h3⟩ := h j (by omega)
    refine ⟨d0, d1, d2, d3, (if_neg e).trans hv, ?_, ?_, ?_, ?_⟩ <;> rw [set4_at _ _ _ _ _ _ _ hl, if_neg (by omega), if_neg (by omega), if_neg (by omega), if_neg (by omega)] <;> assumption

/-- the value v reads as t; its rows are blocks from lo on, below hi, each used once -/
inductive OwnE (ty : TypeId) (w : World) : Nat → Nat → Value → T → Prop where
  | mk {lo hi : Nat} {k n : Int} {s : List UInt8} {ks : List T} (A : Option Addr) (c : Nat) (vs : Nat → Value) (ls hs : Nat → Nat) (hsl : s.length ≤ 9223372036854775807) (hkl : ks.length ≤ 9223372036854775807)
      (hA : ks.length ≠ 0 → ∃ g cs, A = some ⟨g, 0, none⟩ ∧ lo ≤ g ∧ g < hi ∧ Blk w g ty cs ∧ RowsAt cs ks.length vs ∧ ∀ j, j < ks.length → g < ls j ∨ hs j ≤ g)
      (hin : ∀ j, j < ks.length → lo ≤ ls j ∧ hs j ≤ hi) (hdis : ∀ i j, i < j → j < ks.length → hs i ≤ ls j ∨ hs j ≤ ls i)
      (hk : ∀ j a, ks[j]? = some a → OwnE ty w (ls j) (hs j) (vs j) a) : OwnE ty w lo hi (nv k n s A ks.length c) (.mk k n s ks)
theorem lt_of_get {α : Type} {l : List α} {j : Nat} {a : α} (h : l[j]? = some a) : j < l.length := by
  rcases Nat.lt_or_ge j l.length with h' | h'
  · exact h'
  · rw [List.getElem?_eq_none h'] at h; cases h
theorem OwnE.same {ty : TypeId} {w w' : World} {lo hi : Nat} {v : Value} {t : T} (h : OwnE ty w lo hi v t) (hsm : Same lo hi w w') : OwnE ty w' lo hi v t := by
  induction h with
  | mk A c vs ls hs hsl hkl hA hin hdis hk ih =>
    refine .mk A c vs ls hs hsl hkl (fun hne => ?_) hin hdis (fun j a ha => ih j a ha fun k h1 h2 => ?_)
    · obtain ⟨g, cs, e, h1, h2, hb, hr, hd⟩ := hA hne
      exact ⟨g, cs, e, h1, h2, (hsm g h1 h2).trans hb, hr, hd⟩
    · obtain ⟨h3, h4⟩ := hin j (lt_of_get ha)
      exact hsm k (by omega) (by omega)
theorem OwnE.mono {ty : TypeId} {w : World} {lo hi lo' hi' : Nat} {v : Value} {t : T} (h : OwnE ty w lo hi v t) (h1 : lo' ≤ lo) (h2 : hi ≤ hi') : OwnE ty w lo' hi' v t := by
  cases h with
  | mk A c vs ls hs hsl hkl hA hin hdis hk =>
    refine .mk A c vs ls hs hsl hkl (fun hne => ?_) (fun j hj => ?_) hdis hk
    · obtain ⟨g, cs, e, h1, h2, hb, hr, hd⟩ := hA hne
      exact ⟨g, cs, e, by omega, by omega, hb, hr, hd⟩
    · obtain ⟨h3, h4⟩ := hin j hj
      exact ⟨by omega, by omega⟩
theorem rows_ld {w : World} {g : Nat} {ty : TypeId} {cs : List Value} {m j : Nat} {vs : Nat → Value} (hb : Blk w g ty cs) (h : RowsAt cs m vs) (hj : j < m) : Ld4 w ((⟨g, 0, none⟩ : Addr).add (j * 4)) (vs j) := by
  obtain ⟨c0, c1, c2, c3, hv, h0, h1, h2, h3⟩ := h j hj
  rw [add_zero]
  exact ⟨c0, c1, c2, c3, hv, by rw [hb.cell, h0], by rw [hb.cell, h1], by rw [hb.cell, h2], by rw [hb.cell, h3]⟩
theorem OwnE.ex {ty : TypeId} {w : World} {lo hi : Nat} {v : Value} {t : T} (h : OwnE ty w lo hi v t) : Ex w w.heap.size v t := by
  induction h with
  | mk A c vs ls hs hsl hkl hA hin hdis hk ih =>
    refine .mk A c vs hsl hkl (fun j hj => ?_) ih
    obtain ⟨g, cs, e, h1, h2, hb, hr, hd⟩ := hA (by omega)
    exact ⟨_, e, hb.lt, rows_ld hb hr hj⟩

/-- make([]T, n), whatever T -/
theorem run_makeN {P : Program} (w : World) (t e : TypeId) (z : Value) (size bytes : Nat) (ht : P.underlying t = some (.slice e)) (hi : (P.info? e).map (fun i => (i.zero, i.size, i.bytes)) = some (some z, size, bytes))
    (n : Nat) (hbytes : bytes * n ≤ 281474976710656) (h63 : n ≤ 9223372036854775807) :
    ∃ cs : List Value, cs.length = n * size ∧ (Instr.makeSlice t (.int .i64 n) (.int .i64 n)).run P w = .ok (.slice (some ⟨w.heap.size, 0, none⟩) n n) (w.alloc (.cells cs.toArray e)) := by
  obtain ⟨i0, hi0, hz0, hz1, hz2⟩ := info_parts hi
  have h := run_make (P := P) w t e i0 z ht hi0 hz0 .i64 .i64 (n : Int) (n : Int) (by omega) (Int.le_refl _) (by rw [hz2, ← Int.natCast_mul]; generalize bytes * n = q at *; omega) (by omega)
  refine ⟨(madeCells z.cells (n * size)).toList, by rw [Array.length_toList, size_madeCells], ?_⟩
  rw [h, hz1, Int.toNat_natCast, Array.toArray_toList]
theorem OwnE.form {ty : TypeId} {w : World} {lo hi : Nat} {v : Value} {t : T} (h : OwnE ty w lo hi v t) : ∃ k n s A l c, v = nv k n s A l c := by
  cases h with
  | mk A c vs ls hs hsl hkl hA hin hdis hk => exact ⟨_, _, _, _, _, _, rfl⟩
end Go.Proofs.YteenkdplpalofaaGreatDoor.Tr
