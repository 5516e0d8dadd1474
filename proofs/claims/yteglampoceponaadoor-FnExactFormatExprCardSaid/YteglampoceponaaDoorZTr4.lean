/- Expressions that the call itself has made; toExpr. -/
import Derived.Test.YteglampoceponaaDoorZTr
import Derived.Test.YteglampoceponaaDoorZOz
import Derived.Laws.EntriesVeiled
import Derived.Laws.Rows
set_option maxRecDepth 100000
namespace Go.Proofs.YteglampoceponaaDoor.Tr
open Go.RowKit Go.Lib Go.Sort Go.Proofs.YteglampoceponaaDoor.Com Go.Proofs.YteglampoceponaaDoor.Mem Go.Proofs.YteglampoceponaaDoor.Os

/-- the first m nodes of a row of cells -/
def RowsAt (cs : List Value) (m : Nat) (vs : Nat → Value) : Prop := ∀ j, j < m → ∃ c0 c1 c2 c3, vs j = .agg #[c0, c1, c2, c3] ∧ cs[j * 4]? = some c0 ∧ cs[j * 4 + 1]? = some c1 ∧ cs[j * 4 + 2]? = some c2 ∧ cs[j * 4 + 3]? = some c3
def set4 (cs : List Value) (m : Nat) (c0 c1 c2 c3 : Value) : List Value := (((cs.set (m * 4) c0).set (m * 4 + 1) c1).set (m * 4 + 2) c2).set (m * 4 + 3) c3
theorem set4_len (cs : List Value) (m : Nat) (c0 c1 c2 c3 : Value) : (set4 cs m c0 c1 c2 c3).length = cs.length := by simp [set4]
theorem set4_at (cs : List Value) (m i : Nat) (c0 c1 c2 c3 : Value) (h : m * 4 + 3 < cs.length) :
    (set4 cs m c0 c1 c2 c3)[i]? = if i = m * 4 then some c0 else if i = m * 4 + 1 then some c1 else if i = m * 4 + 2 then some c2 else if i = m * 4 + 3 then some c3 else cs[i]? := by
  unfold set4
  simp only [List.getElem?_set, List.length_set]
  by_cases h3 : m * 4 + 3 = i
  · subst h3; simp; omega
  by_cases h2 : m * 4 + 2 = i
  · subst h2; simp; omega
  by_cases h1 : m * 4 + 1 = i
  · subst h1; simp; omega
  by_cases h0 : m * 4 = i
  · subst h0; simp; omega
  rw [if_neg h3, if_neg h2, if_neg h1, if_neg h0, if_neg (fun e => h0 e.symm), if_neg (fun e => h1 e.symm), if_neg (fun e => h2 e.symm), if_neg (fun e => h3 e.symm)]
theorem RowsAt.set {cs : List Value} {m : Nat} {vs : Nat → Value} (h : RowsAt cs m vs) (c0 c1 c2 c3 : Value) (hl : m * 4 + 3 < cs.length) : RowsAt (set4 cs m c0 c1 c2 c3) (m + 1) (fun j => if j = m then .agg #[c0, c1, c2, c3] else vs j) := by
  intro j hj
  by_cases e : j = m
  · subst e
    refine ⟨c0, c1, c2, c3, if_pos rfl, ?_, ?_, ?_, ?_⟩ <;> rw [set4_at _ _ _ _ _ _ _ hl] <;> simp
  · obtain ⟨d0, d1, d2, d3, hv, h0, h1, h2, h3⟩ := h j (by omega)
    refine ⟨d0, d1, d2, d3, (if_neg e).trans hv, ?_, ?_, ?_, ?_⟩ <;> rw [set4_at _ _ _ _ _ _ _ hl, if_neg (by omega), if_neg (by omega), if_neg (by omega), if_neg (by omega)] <;> assumption

/-- the value v reads as t; its rows are blocks from lo on, below hi, each used once -/
inductive OwnE (ty : TypeId) (w : World) : Nat → Nat → Value → T → Prop where
  | mk {lo hi : Nat} {k n : Int} {s : List UInt8} {ks : List T} (A : Option Addr) (c : Nat) (vs : Nat → Value) (ls hs : Nat → Nat) (hsl : s.length ≤ 9223372036854775807) (hkl : ks.length ≤ 9223372036854775807)
      (hA : ks.length ≠ 0 → ∃ g cs, A = some ⟨g, 0, none⟩ ∧ lo ≤ g ∧ g < hi ∧ Blk w g ty cs ∧ RowsAt cs ks.length vs ∧ ∀ j, j < ks.length → g < ls j ∨ hs j ≤ g)
      (hin : ∀ j, j < ks.length → lo ≤ ls j ∧ hs j ≤ hi) (hdis : ∀ i j, i < j → j < ks.length → hs i ≤ ls j ∨ hs j ≤ ls i)
      (hk : ∀ j a, ks[j]? = some a → OwnE ty w (ls j) (hs j) (vs j) a) : OwnE ty w lo hi (nv k n s A ks.length c) (.mk k n s ks)
theorem lt_of_get {α : Type} {l : List α} {j : Nat} {a : α} (h : l[j]? = some a) : j < l.length := by
  rcases Nat.lt_or_ge j l.length with h' | h'
  · exact h'
  · rw [List.getElem?_eq_none h'] at h; cases h
theorem OwnE.same {ty : TypeId} {w w' : World} {lo hi : Nat} {v : Value} {t : T} (h : OwnE ty w lo hi v t) (hsm : Same lo hi w w') : OwnE ty w' lo hi v t := by
  induction h with
  | mk A c vs ls hs hsl hkl hA hin hdis hk ih =>
    refine .mk A c vs ls hs hsl hkl (fun hne => ?_) hin hdis (fun j a ha => ih j a ha fun k h1 h2 => ?_)
    · obtain ⟨g, cs, e, h1, h2, hb, hr, hd⟩ := hA hne
      exact ⟨g, cs, e, h1, h2, (hsm g h1 h2).trans hb, hr, hd⟩
    · obtain ⟨h3, h4⟩ := hin j (lt_of_get ha)
      exact hsm k (by omega) (by omega)
theorem OwnE.mono {ty : TypeId} {w : World} {lo hi lo' hi' : Nat} {v : Value} {t : T} (h : OwnE ty w lo hi v t) (h1 : lo' ≤ lo) (h2 : hi ≤ hi') : OwnE ty w lo' hi' v t := by
  cases h with
  | mk A c vs ls hs hsl hkl hA hin hdis hk =>
    refine .mk A c vs ls hs hsl hkl (fun hne => ?_) (fun j hj => ?_) hdis hk
    · obtain ⟨g, cs, e, h1, h2, hb, hr, hd⟩ := hA hne
      exact ⟨g, cs, e, by omega, by omega, hb, hr, hd⟩
    · obtain ⟨h3, h4⟩ := hin j hj
      exact ⟨by omega, by omega⟩
theorem rows_ld {w : World} {g : Nat} {ty : TypeId} {cs : List Value} {m j : Nat} {vs : Nat → Value} (hb : Blk w g ty cs) (h : RowsAt cs m vs) (hj : j < m) : Ld4 w ((⟨g, 0, none⟩ : Addr).add (j * 4)) (vs j) := by
  obtain ⟨c0, c1, c2, c3, hv, h0, h1, h2, h3⟩ := h j hj
  rw [add_zero]
  exact ⟨c0, c1, c2, c3, hv, by rw [hb.cell, h0], by rw [hb.cell, h1], by rw [hb.cell, h2], by rw [hb.cell, h3]⟩
theorem OwnE.ex {ty : TypeId} {w : World} {lo hi : Nat} {v : Value} {t : T} (h : OwnE ty w lo hi v t) : Ex w w.heap.size v t := by
  induction h with
  | mk A c vs ls hs hsl hkl hA hin hdis hk ih =>
    refine .mk A c vs hsl hkl (fun j hj => ?_) ih
    obtain ⟨g, cs, e, h1, h2, hb, hr, hd⟩ := hA (by omega)
    exact ⟨_, e, hb.lt, rows_ld hb hr hj⟩

/-- make([]T, n), whatever T -/
theorem run_makeN {P : Program} (w : World) (t e : TypeId) (z : Value) (size bytes : Nat) (ht : P.underlying t = some (.slice e)) (hi : (P.info? e).map (fun i => (i.zero, i.size, i.bytes)) = some (some z, size, bytes))
    (n : Nat) (hbytes : bytes * n ≤ 281474976710656) (h63 : n ≤ 9223372036854775807) :
    ∃ cs : List Value, cs.length = n * size ∧ (Instr.makeSlice t (.int .i64 n) (.int .i64 n)).run P w = .ok (.slice (some ⟨w.heap.size, 0, none⟩) n n) (w.alloc (.cells cs.toArray e)) := by
  obtain ⟨i0, hi0, hz0, hz1, hz2⟩ := info_parts hi
  have h := run_make (P := P) w t e i0 z ht hi0 hz0 .i64 .i64 (n : Int) (n : Int) (by omega) (Int.le_refl _) (by rw [hz2, ← Int.natCast_mul]; generalize bytes * n = q at *; omega) (by omega)
  refine ⟨(madeCells z.cells (n * size)).toList, by rw [Array.length_toList, size_madeCells], ?_⟩
  rw [h, hz1, Int.toNat_natCast, Array.toArray_toList]
theorem OwnE.form {ty : TypeId} {w : World} {lo hi : Nat} {v : Value} {t : T} (h : OwnE ty w lo hi v t) : ∃ k n s A l c, v = nv k n s A l c := by
  cases h with
  | mk A c vs ls hs hsl hkl hA hin hdis hk => exact ⟨_, _, _, _, _, _, rfl⟩
theorem zeroE : (Tryd.prog.info? 29).map (fun i => (i.zero, i.size, i.bytes)) = some (some (nv 0 0 [] none 0 0), 4, 56) := by kernel_rfl
/-- what toExpr promises -/
def ToE (t : T) : Prop := ∀ (v : Value) (w : World), Ex w w.heap.size v t → szT t ≤ 1048576 → Calls Tryd.prog 7 #[v] w fun e w' => ∃ v', e = .returned v' ∧ OwnE 29 w' w.heap.size w'.heap.size v' t ∧ Below w.heap.size w w'
/-- the first m kids, made one behind the other, behind block g -/
structure KidsO (ty : TypeId) (w : World) (g : Nat) (vs : Nat → Value) (ls hs : Nat → Nat) (ks : List T) (m : Nat) : Prop where
  in_ : ∀ j, j < m → g < ls j ∧ hs j ≤ w.heap.size
  dis : ∀ i j, i < j → j < m → hs i ≤ ls j
  kid : ∀ j a, j < m → ks[j]? = some a → OwnE ty w (ls j) (hs j) (vs j) a
theorem KidsO.step {ty : TypeId} {w w2 : World} {g : Nat} {vs : Nat → Value} {ls hs : Nat → Nat} {ks : List T} {m : Nat} {v : Value} {a : T} (h : KidsO ty w g vs ls hs ks m) (hb : Below w.heap.size w w2) (hg : g < w.heap.size)
    (ha : ks[m]? = some a) (ho : OwnE ty w2 w.heap.size w2.heap.size v a) :
    KidsO ty w2 g (fun j => if j = m then v else vs j) (fun j => if j = m then w.heap.size else ls j) (fun j => if j = m then w2.heap.size else hs j) ks (m + 1) := by
  have hsz := hb.size
  refine ⟨fun j hj => ?_, fun i j hij hj => ?_, fun j b hj hjb => ?_⟩
  · by_cases e : j = m
    · subst e; simp; exact hg
    · have := h.in_ j (by omega)
      rw [if_neg e, if_neg e]
      omega
  · have e1 : i ≠ m := by omega
    rw [if_neg e1]
    by_cases e : j = m
    · rw [if_pos e]; exact (h.in_ i (by omega)).2
    · rw [if_neg e]; exact h.dis i j hij (by omega)
  · by_cases e : j = m
    · subst e
      rw [ha] at hjb; cases hjb
      rw [if_pos rfl, if_pos rfl, if_pos rfl]; exact ho
    · rw [if_neg e, if_neg e, if_neg e]
      exact (h.kid j b (by omega) hjb).same (same_below hb (h.in_ j (by omega)).2)
theorem KidsO.far {ty : TypeId} {w w2 : World} {g : Nat} {vs : Nat → Value} {ls hs : Nat → Nat} {ks : List T} {m : Nat} (h : KidsO ty w g vs ls hs ks m) (hs2 : w2.heap.size = w.heap.size) (hf : ∀ k, k ≠ g → w2.heap[k]? = w.heap[k]?) : KidsO ty w2 g vs ls hs ks m :=
  ⟨fun j hj => ⟨(h.in_ j hj).1, by rw [hs2]; exact (h.in_ j hj).2⟩, h.dis, fun j a hj ha => (h.kid j a hj ha).same fun k h1 _ => hf k (by have := (h.in_ j hj).1; omega)⟩
/-- a node stored into its place -/
def put4 (w : World) (g m : Nat) (c0 c1 c2 c3 : Value) : World := (((w.setCell ⟨g, m * 4, none⟩ c0).setCell ⟨g, m * 4 + 1, none⟩ c1).setCell ⟨g, m * 4 + 2, none⟩ c2).setCell ⟨g, m * 4 + 3, none⟩ c3
theorem put4_size (w : World) (g m : Nat) (c0 c1 c2 c3 : Value) : (put4 w g m c0 c1 c2 c3).heap.size = w.heap.size := by simp [put4, World.setCell]
theorem put4_far (w : World) (g m : Nat) (c0 c1 c2 c3 : Value) (k : Nat) (h : k ≠ g) : (put4 w g m c0 c1 c2 c3).heap[k]? = w.heap[k]? := by
  unfold put4
  rw [heap_setCell_other _ _ _ _ h, heap_setCell_other _ _ _ _ h, heap_setCell_other _ _ _ _ h, heap_setCell_other _ _ _ _ h]
theorem put4_blk {w : World} {g ty : Nat} {cs : List Value} (h : Blk w g ty cs) (m : Nat) (c0 c1 c2 c3 : Value) : Blk (put4 w g m c0 c1 c2 c3) g ty (set4 cs m c0 c1 c2 c3) := (((h.set_ _ _).set_ _ _).set_ _ _).set_ _ _
theorem put4_below {B : Nat} {a w : World} (h : Below B a w) {g : Nat} (hg : B ≤ g) (m : Nat) (c0 c1 c2 c3 : Value) : Below B a (put4 w g m c0 c1 c2 c3) := (((h.setCell hg _).setCell hg _).setCell hg _).setCell hg _
theorem blk_old {w : World} {g ty : Nat} {cs : List Value} (h : Blk w g ty cs) (i : Nat) (hi : i < cs.length) : ∃ u, w.cell? ⟨g, i, none⟩ = some u := ⟨_, by rw [h.cell]; exact List.getElem?_eq_getElem hi⟩
theorem szK_mem {ks : List T} {a : T} (h : a ∈ ks) : szT a ≤ szK ks := by
  induction ks with
  | nil => cases h
  | cons b r ih =>
    simp only [szK, List.map_cons, List.sum_cons]
    rcases List.mem_cons.1 h with rfl | h
    · omega
    · have := ih h; simp only [szK] at this; omega

set_option maxHeartbeats 2000000 in
theorem toES (ks : List T) (ih : ∀ a ∈ ks, ToE a) (A : Option Addr) (c : Nat) (vs : Nat → Value) (w : World) (hk : Kids w w.heap.size A ks vs) (hl : ks.length ≤ 1048576) (hsz : szK ks ≤ 1048576) :
    Calls Tryd.prog 15 #[.slice A ks.length c] w fun e w' => e = .returned (.slice (some ⟨w.heap.size, 0, none⟩) ks.length ks.length) ∧
      (∃ cs vs' ls hs, Blk w' w.heap.size 29 cs ∧ RowsAt cs ks.length vs' ∧ KidsO 29 w' w.heap.size vs' ls hs ks ks.length) ∧ Below w.heap.size w w' := by
  obtain ⟨cs0, hl0, hmk⟩ := run_makeN w 27 29 _ 4 56 Tryd.underlying27 zeroE ks.length (by omega) (by omega)
  have hb0 := hid (Blk.new w 29 cs0)
  have hl0 := hid hl0
  generalize hL : ks.length = N at *
  go_enter Tryd.func15, Tryd.ntmps15
  go_wp2_with fail
  go_loopw [4] (fun i wr => ∃ (m : Nat) (cs : List Value) (vs' : Nat → Value) (ls hs : Nat → Nat), m ≤ N ∧ i = .int .i64 m ∧ Blk wr w.heap.size 29 cs ∧ cs.length = N * 4 ∧ RowsAt cs m vs' ∧ KidsO 29 wr w.heap.size vs' ls hs ks m ∧ Below w.heap.size w wr) (fun i _ => N - (Go.RowKit.intOf i).toNat)
  case atStart => exact ⟨0, cs0, fun _ => .nilFunc, fun _ => 0, fun _ => 0, Nat.zero_le _, rfl, hb0.out, hl0.out, fun j hj => by omega, ⟨fun j hj => by omega, fun i j _ hj => by omega, fun j a hj => by omega⟩, (Below.refl _ _).alloc (Nat.le_refl _) _⟩
  case round =>
    obtain ⟨m, cs, vs', ls, hs, hm, rfl, hblk, hcl, hrow, hko, hb⟩ := hrel
    by_cases hlt : m < N
    · have hkr := hk.go hb
      obtain ⟨ad, rfl, _, c0, c1, c2, c3, e, k0, k1, k2, k3⟩ := hkr.cell m (by omega)
      have hu : ks[m]? = some ks[m] := List.getElem?_eq_getElem (by omega)
      have hkid := hkr.kid m _ hu
      have hck := hid (ih ks[m] (List.getElem_mem _) _ wr hkid (Nat.le_trans (szK_mem (List.getElem_mem _)) hsz))
      rw [e] at hck
      have hu := hid hu
      have hcl := hid hcl
      have hrow := hid hrow
      have hko := hid hko
      have hb := hid hb
      have hblk := hid hblk
      clear e hkid hkr
      go_wp2_with fail
      refine hck.out.mono ?_
      rintro e w2 ⟨v', rfl, ho, hb2⟩
      obtain ⟨a0, a1, a2, a3, al, ac, rfl⟩ := ho.form
      have hblk2 := hblk.out.below hb2 hblk.out.lt
      obtain ⟨x0, q0⟩ := blk_old hblk2 (m * 4) (by rw [hcl.out]; omega)
      obtain ⟨x1, q1⟩ := blk_old hblk2 (m * 4 + 1) (by rw [hcl.out]; omega)
      obtain ⟨x2, q2⟩ := blk_old hblk2 (m * 4 + 2) (by rw [hcl.out]; omega)
      obtain ⟨x3, q3⟩ := blk_old hblk2 (m * 4 + 3) (by rw [hcl.out]; omega)
      have f0 := hblk2.frozen (m * 4)
      have f1 := hblk2.frozen (m * 4 + 1)
      have f2 := hblk2.frozen (m * 4 + 2)
      have f3 := hblk2.frozen (m * 4 + 3)
      have z1 := hid (put4_blk hblk2 m (.int .i64 a0) (.int .i64 a1) (sv a2) (.slice a3 al ac))
      have z2 := hid (hrow.out.set (.int .i64 a0) (.int .i64 a1) (sv a2) (.slice a3 al ac) (by rw [hcl.out]; omega))
      have z3 := hid ((hko.out.step hb2 hblk.out.lt hu.out ho).far (put4_size w2 w.heap.size m (.int .i64 a0) (.int .i64 a1) (sv a2) (.slice a3 al ac)) (put4_far _ _ _ _ _ _ _))
      have z4 := hid (put4_below (hb.out.trans (hb2.mono hb.out.size)) (Nat.le_refl _) m (.int .i64 a0) (.int .i64 a1) (sv a2) (.slice a3 al ac))
      clear ho hb2 hblk2
      go_wp2_with fail
      exact ⟨⟨m + 1, _, _, _, _, hlt, by go_num, z1.out, by rw [set4_len]; exact hcl.out, z2.out, z3.out, z4.out⟩, by simp [Go.RowKit.intOf]; omega⟩
    · obtain rfl : m = N := by omega
      have hb := hid hb
      have hblk := hid hblk
      have hrow := hid hrow
      have hko := hid hko
      clear hcl
      go_wp2_with fail
      go_ret
      exact ⟨rfl, ⟨cs, vs', ls, hs, hblk.out, hrow.out, hko.out⟩, hb.out⟩
/-- the three blocks that toExpr makes: its parameter, its result, the node -/
abbrev W3 (w : World) (k n : Int) (s : List UInt8) (A : Option Addr) (l c : Nat) : World :=
  ((w.alloc (Obj.cells #[Value.int .i64 k, Value.int .i64 n, sv s, Value.slice A l c] 24)).alloc (Obj.cells #[Value.int .i64 0, Value.int .i64 0, Value.string ⟨#[]⟩, Value.slice none 0 0] 29)).alloc (Obj.cells #[Value.int .i64 k, Value.int .i64 n, Value.string ⟨s.toArray⟩, Value.slice none 0 0] 29)
theorem w3_size (w : World) (k n : Int) (s : List UInt8) (A : Option Addr) (l c : Nat) : (W3 w k n s A l c).heap.size = w.heap.size + 1 + 1 + 1 := by rw [size_alloc', size_alloc', size_alloc']
theorem w3_below (w : World) (k n : Int) (s : List UInt8) (A : Option Addr) (l c : Nat) : Below w.heap.size w (W3 w k n s A l c) :=
  (((Below.refl _ _).alloc (Nat.le_refl _) _).alloc (by rw [size_alloc']; omega) _).alloc (by rw [size_alloc', size_alloc']; omega) _
theorem w3_res (w : World) (k n : Int) (s : List UInt8) (A : Option Addr) (l c : Nat) : Blk (W3 w k n s A l c) (w.heap.size + 1) 29 [.int .i64 0, .int .i64 0, .string ⟨#[]⟩, .slice none 0 0] := by
  have h := Blk.new (w.alloc (Obj.cells #[Value.int .i64 k, Value.int .i64 n, sv s, Value.slice A l c] 24)) 29 [.int .i64 0, .int .i64 0, .string ⟨#[]⟩, .slice none 0 0]
  rw [size_alloc'] at h
  exact h.alloc _
theorem w3_out (w : World) (k n : Int) (s : List UInt8) (A : Option Addr) (l c : Nat) : Blk (W3 w k n s A l c) (w.heap.size + 1 + 1) 29 [.int .i64 k, .int .i64 n, .string ⟨s.toArray⟩, .slice none 0 0] := by
  have h := Blk.new ((w.alloc (Obj.cells #[Value.int .i64 k, Value.int .i64 n, sv s, Value.slice A l c] 24)).alloc (Obj.cells #[Value.int .i64 0, Value.int .i64 0, Value.string ⟨#[]⟩, Value.slice none 0 0] 29)) 29 [.int .i64 k, .int .i64 n, .string ⟨s.toArray⟩, .slice none 0 0]
  rw [size_alloc', size_alloc'] at h
  exact h
/-- the world behind toExpr's last stores -/
abbrev W5 (w4 : World) (g1 g2 : Nat) (k n : Int) (s : List UInt8) (S : Value) : World :=
  ((((w4.setCell ⟨g2, 3, none⟩ S).setCell ⟨g1, 0, none⟩ (.int .i64 k)).setCell ⟨g1, 1, none⟩ (.int .i64 n)).setCell ⟨g1, 2, none⟩ (sv s)).setCell ⟨g1, 3, none⟩ S
theorem w5_res {w4 : World} {g1 g2 : Nat} (k n : Int) (s : List UInt8) (S a b c d : Value) (h : Blk w4 g1 29 [a, b, c, d]) (hne : g1 ≠ g2) : Blk (W5 w4 g1 g2 k n s S) g1 29 [.int .i64 k, .int .i64 n, sv s, S] :=
  (((((h.far (p := ⟨g2, 3, none⟩) hne S).set_ 0 (.int .i64 k)).set_ 1 (.int .i64 n)).set_ 2 (sv s)).set_ 3 S)
theorem w5_far {w4 : World} {g1 g2 : Nat} (k n : Int) (s : List UInt8) (S : Value) (j : Nat) (h1 : j ≠ g1) (h2 : j ≠ g2) : (W5 w4 g1 g2 k n s S).heap[j]? = w4.heap[j]? := by
  unfold W5
  rw [heap_setCell_other _ _ _ _ h1, heap_setCell_other _ _ _ _ h1, heap_setCell_other _ _ _ _ h1, heap_setCell_other _ _ _ _ h1, heap_setCell_other _ _ _ _ h2]
theorem w5_size (w4 : World) (g1 g2 : Nat) (k n : Int) (s : List UInt8) (S : Value) : (W5 w4 g1 g2 k n s S).heap.size = w4.heap.size := by simp [W5, World.setCell]
theorem w5_below {B : Nat} {a w4 : World} {g1 g2 : Nat} (h : Below B a w4) (h1 : B ≤ g1) (h2 : B ≤ g2) (k n : Int) (s : List UInt8) (S : Value) : Below B a (W5 w4 g1 g2 k n s S) :=
  ((((h.setCell h2 _).setCell h1 _).setCell h1 _).setCell h1 _).setCell h1 _
/-- the kids, as an owned tree -/
theorem KidsO.own {ty : TypeId} {w w' : World} {g lo c : Nat} {vs : Nat → Value} {ls hs : Nat → Nat} {ks : List T} {cs : List Value} (k n : Int) (s : List UInt8) (hsl : s.length ≤ 9223372036854775807) (hkl : ks.length ≤ 9223372036854775807)
    (h : KidsO ty w g vs ls hs ks ks.length) (hb : Blk w g ty cs) (hr : RowsAt cs ks.length vs) (hlo : lo ≤ g) (hsz : w'.heap.size = w.heap.size) (hf : ∀ j, g ≤ j → w'.heap[j]? = w.heap[j]?) :
    OwnE ty w' lo w'.heap.size (nv k n s (some ⟨g, 0, none⟩) ks.length c) (.mk k n s ks) := by
  refine .mk _ c vs ls hs hsl hkl (fun _ => ⟨g, cs, rfl, hlo, by rw [hsz]; exact hb.lt, (hf g (Nat.le_refl _)).trans hb, hr, fun j hj => Or.inl (h.in_ j hj).1⟩) (fun j hj => ?_) (fun i j hij hj => Or.inl (h.dis i j hij hj)) (fun j a ha => ?_)
  · have := h.in_ j hj
    rw [hsz]; omega
  · have hj := lt_of_get ha
    exact (h.kid j a hj ha).same fun q h1 _ => hf q (by have := h.in_ j hj; omega)

set_option maxHeartbeats 2000000 in
theorem toE (t : T) : ToE t := by
  induction t using T.ind with
  | h k n s ks ih =>
    intro v w hv hsz
    obtain ⟨A, c, vs, rfl, hs, hl, hk⟩ := hv.kids
    rw [szT_mk] at hsz
    have hcl := hid (toES ks ih A c vs _ (hk.go (w3_below w k n s A ks.length c)) (by omega) (by unfold szK; omega))
    rw [show (W3 w k n s A ks.length c).heap.size = w.heap.size + 1 + 1 + 1 from w3_size w k n s A ks.length c] at hcl
    have hB := hid (w3_below w k n s A ks.length c)
    have h1 := hid (w3_res w k n s A ks.length c)
    have h2 := hid (w3_out w k n s A ks.length c)
    have hS := hid (w3_size w k n s A ks.length c)
    clear hk hv hsz
    go_enter Tryd.func7, Tryd.ntmps7
    go_wp2_with fail
    refine hcl.out.mono ?_
    rintro e w4 ⟨rfl, ⟨cs, vs', ls, hs', hblk, hrow, hko⟩, hb⟩
    have r1 := h1.out.below (w' := w4) (B := w.heap.size + 1 + 1 + 1) hb (by omega)
    have r2 := h2.out.below (w' := w4) (B := w.heap.size + 1 + 1 + 1) hb (by omega)
    have p0 : w4.cell? ⟨w.heap.size + 1 + 1, 0, none⟩ = some (.int .i64 k) := r2.cell 0
    have p1 : w4.cell? ⟨w.heap.size + 1 + 1, 1, none⟩ = some (.int .i64 n) := r2.cell 1
    have p2 : w4.cell? ⟨w.heap.size + 1 + 1, 2, none⟩ = some (.string ⟨s.toArray⟩) := r2.cell 2
    have p3 : w4.cell? ⟨w.heap.size + 1 + 1, 3, none⟩ = some (.slice none 0 0) := r2.cell 3
    have q0 : w4.cell? ⟨w.heap.size + 1, 0, none⟩ = some (.int .i64 0) := r1.cell 0
    have q1 : w4.cell? ⟨w.heap.size + 1, 1, none⟩ = some (.int .i64 0) := r1.cell 1
    have q2 : w4.cell? ⟨w.heap.size + 1, 2, none⟩ = some (.string ⟨#[]⟩) := r1.cell 2
    have q3 : w4.cell? ⟨w.heap.size + 1, 3, none⟩ = some (.slice none 0 0) := r1.cell 3
    have f3 := r2.frozen 3
    have e0 := r1.frozen 0
    have e1 := r1.frozen 1
    have e2 := r1.frozen 2
    have e3 := r1.frozen 3
    have z1 := hid (w5_res (g2 := w.heap.size + 1 + 1) k n s (.slice (some ⟨w.heap.size + 1 + 1 + 1, 0, none⟩) ks.length ks.length) _ _ _ _ r1 (by omega))
    have z2 := hid (KidsO.own (w' := W5 w4 (w.heap.size + 1) (w.heap.size + 1 + 1) k n s (.slice (some ⟨w.heap.size + 1 + 1 + 1, 0, none⟩) ks.length ks.length)) (lo := w.heap.size) (c := ks.length) k n s hs hl hko hblk hrow (by omega) (w5_size _ _ _ _ _ _ _) (fun j hj => w5_far _ _ _ _ _ (by omega) (by omega)))
    have z3 := hid (w5_below (B := w.heap.size) (g1 := w.heap.size + 1) (g2 := w.heap.size + 1 + 1) (hB.out.trans (hb.mono (by omega))) (by omega) (by omega) k n s (.slice (some ⟨w.heap.size + 1 + 1 + 1, 0, none⟩) ks.length ks.length))
    clear r1 r2 hblk hrow hko hb
    go_wp2_with fail
    refine bodyPost_ret (results_cell_row Tryd.results7 _ _ (w.heap.size + 1) 29 _ (0, 0) _ rfl z1.out Tryd.underlying29 rfl (by kernel_rfl)) rfl ⟨_, rfl, z2.out, z3.out⟩
end Go.Proofs.YteglampoceponaaDoor.Tr
