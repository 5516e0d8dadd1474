/- Tokens as values; slices of tokens that are read, and such of the call's own: compared, marked, looked at again. -/
import Derived.Test.YteenkdplpalofaaGreatDoorZOz
import Derived.Test.YteenkdplpalofaaGreatDoorZLhS
import Derived.Lib.QuietBelow
import Derived.BigQuiet
set_option maxRecDepth 100000
namespace Go.Proofs.YteenkdplpalofaaGreatDoor.Tk
open Go.RowKit Go.Lib Go.Sort Go.Proofs.YteenkdplpalofaaGreatDoor.Com Go.Proofs.YteenkdplpalofaaGreatDoor.Mem Go.Proofs.YteenkdplpalofaaGreatDoor.Os Go.Proofs.YteenkdplpalofaaGreatDoor.Ow

/-- a token: kind, number, offset, text -/
structure Tok where
  k : Int
  n : Int
  p : Int
  s : List UInt8
abbrev TK : TypeId := 66
abbrev tcs (t : Tok) : List Value := [.int .i64 t.k, .int .i64 t.n, .int .i64 t.p, sv t.s]
abbrev tv (t : Tok) : Value := .agg #[.int .i64 t.k, .int .i64 t.n, .int .i64 t.p, sv t.s]
def cellsT (l : List Tok) : List Value := l.flatMap tcs
theorem cellsT_append (l r : List Tok) : cellsT (l ++ r) = cellsT l ++ cellsT r := by simp [cellsT]
theorem cellsT_cons (t : Tok) (r : List Tok) : cellsT (t :: r) = tcs t ++ cellsT r := rfl
theorem cellsT_len (l : List Tok) : (cellsT l).length = l.length * 4 := by
  induction l with
  | nil => rfl
  | cons t r ih => rw [cellsT_cons, List.length_append, ih]; show 4 + r.length * 4 = (r.length + 1) * 4; omega
theorem cellsT_at (l : List Tok) (m : Nat) (h : m < l.length) : (cellsT l)[m * 4]? = some (.int .i64 l[m].k) ∧ (cellsT l)[m * 4 + 1]? = some (.int .i64 l[m].n) ∧ (cellsT l)[m * 4 + 2]? = some (.int .i64 l[m].p) ∧ (cellsT l)[m * 4 + 3]? = some (sv l[m].s) := by
  have e : l = l.take m ++ (l[m] :: l.drop (m + 1)) := by rw [List.getElem_cons_drop, List.take_append_drop]
  have hl : (cellsT (l.take m)).length = m * 4 := by rw [cellsT_len, List.length_take, Nat.min_eq_left (by omega)]
  have e2 : cellsT l = cellsT (l.take m) ++ (tcs l[m] ++ cellsT (l.drop (m + 1))) := by conv => lhs; rw [e, cellsT_append, cellsT_cons]
  rw [e2]
  refine ⟨?_, ?_, ?_, ?_⟩ <;> rw [List.getElem?_append_right (by omega), hl]
  · rw [Nat.sub_self]; rfl
  · rw [Nat.add_sub_cancel_left]; rfl
  · rw [Nat.add_sub_cancel_left]; rfl
  · rw [Nat.add_sub_cancel_left]; rfl
theorem tcs_one (l : List Tok) : ∀ u ∈ cellsT l, u.oneCell' = true := by
  intro u hu
  obtain ⟨t, _, ht⟩ := List.mem_flatMap.1 hu
  simp only [tcs, List.mem_cons, List.not_mem_nil, or_false] at ht
  rcases ht with rfl | rfl | rfl | rfl <;> rfl

/-- a slice's tokens, as they are read -/
theorem add_field (a : Addr) (j i : Nat) (h : 0 < i) : (⟨(a.add j).block, (a.add j).off + i, none⟩ : Addr) = a.add (j + i) := by
  have e1 : ∀ q, 0 < q → a.add q = ⟨a.block, a.off + q, none⟩ := fun q hq => by unfold Addr.add; rw [if_neg (by omega)]
  rw [e1 (j + i) (by omega)]
  rcases Nat.eq_zero_or_pos j with rfl | hj
  · have : a.add 0 = a := rfl
    rw [this, Nat.zero_add]
  · rw [e1 j hj, Nat.add_assoc]
theorem rd_tok {w : World} {B : Nat} {A : Option Addr} {l : List Tok} (h : Rd w B A (cellsT l)) {m : Nat} (hm : m < l.length) : ∃ ad, A = some ad ∧ ad.block < B ∧ w.cell? (ad.add (m * 4)) = some (.int .i64 l[m].k) ∧
    w.cell? ⟨(ad.add (m * 4)).block, (ad.add (m * 4)).off + 1, none⟩ = some (.int .i64 l[m].n) ∧ w.cell? ⟨(ad.add (m * 4)).block, (ad.add (m * 4)).off + 2, none⟩ = some (.int .i64 l[m].p) ∧ w.cell? ⟨(ad.add (m * 4)).block, (ad.add (m * 4)).off + 3, none⟩ = some (sv l[m].s) := by
  obtain ⟨h0, h1, h2, h3⟩ := cellsT_at l m hm
  obtain ⟨ad, e, hB, hc⟩ := h (fun hn => by rw [hn] at h0; cases h0)
  refine ⟨ad, e, hB, hc _ _ h0, ?_, ?_, ?_⟩ <;> rw [add_field _ _ _ (by omega)]
  · exact hc _ _ h1
  · exact hc _ _ h2
  · exact hc _ _ h3

/-- the slice v holds the tokens l; its row is a block from lo on, below hi, and no other slice's but its own writes there -/
def OwnT (lo hi : Nat) (w : World) (v : Value) (l : List Tok) : Prop :=
  ∃ A c cs, v = .slice A l.length c ∧ l.length ≤ c ∧ c ≤ maxLen ∧ (A = none → l = [] ∧ c = 0) ∧ (∀ ad, A = some ad → ad = ⟨ad.block, 0, none⟩ ∧ lo ≤ ad.block ∧ ad.block < hi ∧ Blk w ad.block TK cs) ∧ cs.take (l.length * 4) = cellsT l ∧ cs.length = c * 4
section
variable {lo hi : Nat} {w w' : World} {v : Value} {l : List Tok}
theorem OwnT.same (h : OwnT lo hi w v l) (hs : Same lo hi w w') : OwnT lo hi w' v l := by
  obtain ⟨A, c, cs, h1, h2, hm, h3, h4, h5⟩ := h
  exact ⟨A, c, cs, h1, h2, hm, h3, fun ad ha => ⟨(h4 ad ha).1, (h4 ad ha).2.1, (h4 ad ha).2.2.1, (hs _ (h4 ad ha).2.1 (h4 ad ha).2.2.1).trans (h4 ad ha).2.2.2⟩, h5⟩
theorem OwnT.mono {lo' hi' : Nat} (h : OwnT lo hi w v l) (h1 : lo' ≤ lo) (h2 : hi ≤ hi') : OwnT lo' hi' w v l := by
  obtain ⟨A, c, cs, e1, e2, hm, e3, e4, e5⟩ := h
  exact ⟨A, c, cs, e1, e2, hm, e3, fun ad ha => ⟨(e4 ad ha).1, by have := (e4 ad ha).2.1; omega, by have := (e4 ad ha).2.2.1; omega, (e4 ad ha).2.2.2⟩, e5⟩
theorem OwnT.read (h : OwnT lo hi w v l) : ∃ A c, v = .slice A l.length c ∧ Rd w w.heap.size A (cellsT l) ∧ l.length ≤ c ∧ c ≤ maxLen ∧ (A = none → c = 0) ∧ ∀ ad, A = some ad → ad = ⟨ad.block, 0, none⟩ := by
  obtain ⟨A, c, cs, h1, h2, hm, h3, h4, h5⟩ := h
  refine ⟨A, c, h1, fun hne => ?_, h2, hm, fun ha => (h3 ha).2, fun ad ha => (h4 ad ha).1⟩
  cases A with
  | none => exact absurd (by rw [(h3 rfl).1]; rfl) hne
  | some ad =>
    obtain ⟨hz, _, _, hb⟩ := h4 ad rfl
    refine ⟨ad, rfl, hb.lt, fun j u hj => ?_⟩
    have e1 : ad.add j = ⟨ad.block, j, none⟩ := (congrArg (Addr.add · j) hz).trans (add_zero _ _)
    rw [e1, hb.cell]
    rw [← h5.1] at hj
    rw [List.getElem?_take] at hj
    split at hj
    · exact hj
    · cases hj
theorem OwnT.of_row {base : Nat} (h : w.ownsRow base TK 4 v l.length (cellsT l)) : OwnT base w.heap.size w v l := by
  rcases h.2 with ⟨hv, hn⟩ | ⟨g, c, cur, hv, hb, hblk, hnc, hcm, hsz, ht⟩
  · have hx := List.eq_nil_of_length_eq_zero hn
    subst hx
    exact ⟨none, 0, [], hv, Nat.le_refl _, by unfold maxLen; omega, fun _ => ⟨rfl, rfl⟩, (fun ad h => by cases h), rfl, rfl⟩
  · refine ⟨_, c, cur.toList, hv, hnc, hcm, (fun h => by cases h), (fun ad h => by cases h; exact ⟨rfl, hb, (Array.getElem?_eq_some_iff.1 hblk).1, by unfold Blk; simpa using hblk⟩), by simpa using ht, by rw [Array.length_toList]; exact hsz⟩
theorem OwnT.nil_ (lo hi : Nat) (w : World) : OwnT lo hi w (.slice none 0 0) [] := ⟨none, 0, [], rfl, Nat.le_refl _, by unfold maxLen; omega, fun _ => ⟨rfl, rfl⟩, (fun ad h => by cases h), rfl, rfl⟩
theorem OwnT.of_blk {g : Nat} (h : Blk w g TK (cellsT l)) (hg : lo ≤ g) (hm : l.length ≤ maxLen) : OwnT lo w.heap.size w (.slice (some ⟨g, 0, none⟩) l.length l.length) l :=
  ⟨_, _, cellsT l, rfl, Nat.le_refl _, hm, (fun h => by cases h), (fun ad h' => by cases h'; exact ⟨rfl, hg, h.lt, h⟩), List.take_of_length_le (by rw [cellsT_len]; exact Nat.le_refl _), cellsT_len l⟩
/-- an own slice is a row that may be appended to -/
theorem OwnT.row (h : OwnT lo hi w v l) : w.ownsRow lo TK 4 v l.length (cellsT l) := by
  obtain ⟨A, c, cs, h1, h2, hm, h3, h4, h5, h6⟩ := h
  refine ⟨cellsT_len l, ?_⟩
  cases A with
  | none =>
    obtain ⟨rfl, rfl⟩ := h3 rfl
    exact Or.inl ⟨h1, rfl⟩
  | some ad =>
    obtain ⟨hz, hlo, _, hb⟩ := h4 ad rfl
    refine Or.inr ⟨ad.block, c, cs.toArray, by rw [h1, hz], hlo, hb, h2, hm, by rw [List.size_toArray, h6], by simpa using h5⟩
end
theorem four {w : World} {g ty : Nat} {a b c d : Value} (h : Blk w g ty [a, b, c, d]) : w.cell? ⟨g, 0, none⟩ = some a ∧ w.cell? ⟨g, 1, none⟩ = some b ∧ w.cell? ⟨g, 2, none⟩ = some c ∧ w.cell? ⟨g, 3, none⟩ = some d := ⟨h.cell 0, h.cell 1, h.cell 2, h.cell 3⟩
theorem tokInfo : (Tryz.prog.info? TK).map (fun i => (i.zero, i.size, i.bytes)) = some (some (tv ⟨0, 0, 0, []⟩), 4, 40) := by kernel_rfl
theorem row_lit (w : World) (t : Tok) : ∀ j u, (tcs t)[j]? = some u → (w.alloc (.cells #[.int .i64 t.k, .int .i64 t.n, .int .i64 t.p, sv t.s] TK)).cell? ((⟨w.heap.size, 0, none⟩ : Addr).add j) = some u := by
  intro j u hu
  rw [add_zero, (Blk.new w TK (tcs t)).cell]; exact hu


/-- token number i, marked from q on -/
def mkT (q i : Nat) : Tok := ⟨((q + i * 4 : Nat) : Int), ((q + i * 4 : Nat) : Int) + 1, ((q + i * 4 : Nat) : Int) + 1 + 1, Lh.mk (q + i * 4 + 3)⟩
def marksT (q n : Nat) : List Tok := (List.range n).map (mkT q)
theorem marksT_len (q n : Nat) : (marksT q n).length = n := by simp [marksT]
theorem marksT_at (q n i : Nat) (h : i < n) : (marksT q n)[i]'(by rw [marksT_len]; exact h) = mkT q i := by simp [marksT]
theorem marksT_succ (q n : Nat) : marksT q (n + 1) = marksT q n ++ [mkT q n] := by simp [marksT, List.range_succ]
def set4 (cs : List Value) (m : Nat) (c0 c1 c2 c3 : Value) : List Value := (((cs.set (m * 4) c0).set (m * 4 + 1) c1).set (m * 4 + 2) c2).set (m * 4 + 3) c3
def halfT (q m : Nat) (cs : List Value) : List Value := cellsT (marksT q m) ++ cs.drop (m * 4)
theorem drop4 {cs : List Value} {i : Nat} (h : i + 3 < cs.length) : cs.drop i = cs[i] :: cs[i + 1] :: cs[i + 2] :: cs[i + 3] :: cs.drop (i + 4) := by
  rw [List.getElem_cons_drop, List.getElem_cons_drop, List.getElem_cons_drop, List.getElem_cons_drop]
theorem halfT_set (q m : Nat) (cs : List Value) (h : m * 4 + 3 < cs.length) :
    set4 (halfT q m cs) m (.int .i64 (mkT q m).k) (.int .i64 (mkT q m).n) (.int .i64 (mkT q m).p) (sv (mkT q m).s) = halfT q (m + 1) cs := by
  have hl : (cellsT (marksT q m)).length = m * 4 := by rw [cellsT_len, marksT_len]
  have e : halfT q (m + 1) cs = cellsT (marksT q m) ++ ([.int .i64 (mkT q m).k, .int .i64 (mkT q m).n, .int .i64 (mkT q m).p, sv (mkT q m).s] ++ cs.drop (m * 4 + 4)) := by
    unfold halfT
    rw [marksT_succ, cellsT_append, List.append_assoc, show (m + 1) * 4 = m * 4 + 4 by omega]
    rfl
  rw [e]
  unfold set4 halfT
  rw [drop4 h]
  have s0 : ∀ (i : Nat) (r : List Value) (u : Value), (cellsT (marksT q m) ++ r).set (m * 4 + i) u = cellsT (marksT q m) ++ r.set i u := fun i r u => by
    rw [List.set_append_right _ _ (by omega), hl, Nat.add_sub_cancel_left]
  have s00 := s0 0
  rw [Nat.add_zero] at s00
  rw [s00, s0, s0, s0]
  rfl
theorem halfT_old (q m : Nat) (cs : List Value) (h : m * 4 + 3 < cs.length) : ∃ u0 u1 u2 u3, (halfT q m cs)[m * 4]? = some u0 ∧ (halfT q m cs)[m * 4 + 1]? = some u1 ∧ (halfT q m cs)[m * 4 + 2]? = some u2 ∧ (halfT q m cs)[m * 4 + 3]? = some u3 := by
  have hl : (cellsT (marksT q m)).length = m * 4 := by rw [cellsT_len, marksT_len]
  unfold halfT
  rw [drop4 h]
  refine ⟨cs[m * 4], cs[m * 4 + 1], cs[m * 4 + 2], cs[m * 4 + 3], ?_, ?_, ?_, ?_⟩ <;> rw [List.getElem?_append_right (by omega), hl]
  · rw [Nat.sub_self]; rfl
  · rw [Nat.add_sub_cancel_left]; rfl
  · rw [Nat.add_sub_cancel_left]; rfl
  · rw [Nat.add_sub_cancel_left]; rfl

end Go.Proofs.YteenkdplpalofaaGreatDoor.Tk
