/- The program's partsOf by its contract. -/
import Derived.Test.YtiogceepjffmkaaGreatDoorYBl10
set_option maxHeartbeats 8000000
set_option maxRecDepth 100000
namespace Go.Proofs.YtiogceepjffmkaaGreatDoor.Gp
open Go.RowKit Go.Lib Go.Sort Com Mem YtiogceepjffmkaaGreatDoor.Os Tr Tk Kd Gs Gd
def PtsOk (ps : List Pt) (w : World) (e : Ending) (w' : World) : Prop := ∃ g c spare, e = .returned (.slice (some ⟨g, 0, none⟩) ps.length c) ∧ w.heap.size ≤ g ∧ Blk w' g PT10 (pvs ps ++ spare) ∧ Below w.heap.size w w'
theorem PtsOk.at_ {w' : World} {g : Nat} {ps : List Pt} {spare : List Value} (h : Blk w' g PT10 (pvs ps ++ spare)) : PtsAt w' g ps := fun j x hx => by
  obtain ⟨h1, h2⟩ := pvs_at hx
  have e1 := h.cell (j * 2)
  have e2 := h.cell (j * 2 + 1)
  rw [List.getElem?_append_left (lt_of_get h1)] at e1
  rw [List.getElem?_append_left (lt_of_get h2)] at e2
  exact ⟨e1.trans h1, e2.trans h2⟩
theorem new_cellsP (W : World) (n : Nat) (hn : W.heap.size = n) (cs : List Value) (ty : TypeId) : ∀ j u, cs[j]? = some u → (W.alloc (.cells cs.toArray ty)).cell? ((⟨n, 0, none⟩ : Addr).add j) = some u := by
  subst hn; exact new_cells10 W cs ty
theorem cell_alP {w : World} {a : Addr} {v : Value} (h : w.cell? a = some v) (o : Obj) : (w.alloc o).cell? a = some v := ((box_below w o).cell (block_lt_of_cell h)).trans h
theorem ptsOk_lit {w W : World} (ps : List Pt) (hb : Below w.heap.size w W) : PtsOk ps w (.returned (.slice (some ⟨W.heap.size, 0, none⟩) ps.length ps.length)) (W.alloc (.cells (pvs ps).toArray PT10)) :=
  ⟨W.heap.size, ps.length, [], rfl, hb.size, by rw [List.append_nil]; exact Blk.new W PT10 (pvs ps), hb.trans ((box_below W _).mono hb.size)⟩
theorem ptsOk_row {w W : World} {ps : List Pt} {v : Value} (h : W.ownsRow w.heap.size PT10 2 v ps.length (pvs ps)) (hne : ps ≠ []) (hb : Below w.heap.size w W) : PtsOk ps w (.returned v) W := by
  rcases h.2 with ⟨rfl, hz⟩ | ⟨g, cap, cur, rfl, hg, hblk, _, _, _, ht⟩
  · exact absurd (List.eq_nil_of_length_eq_zero hz) hne
  · refine ⟨g, cap, cur.toList.drop (ps.length * 2), rfl, hg, ?_, hb⟩
    unfold Blk
    rw [← ht, List.take_append_drop, Array.toArray_toList]
    exact hblk
theorem iparts (k : Int) (s : List UInt8) (hs : s.length ≤ 1000000000) (e : T) (ek en : Int) (en' : List UInt8) (A : Option Addr) (l c : Nat) (b o : LN St) (w : World) (hp : L1b.Pow w) (hx : Ex w w.heap.size (nv ek en en' A l c) e) :
    Calls Tryz.prog 67 #[.agg #[.int .i64 k, sv s, .int .i64 ek, .int .i64 en, sv en', .slice A l c, slv b, slv o]] w fun e' w' => PtsOk (ptsOf k s (fmtX e) b o) w e' w' := by
  obtain ⟨bA, bc, bs⟩ := b
  obtain ⟨oA, oc, os⟩ := o
  show Calls Tryz.prog 67 #[.agg #[.int .i64 k, sv s, .int .i64 ek, .int .i64 en, sv en', .slice A l c, .slice bA bs.length bc, .slice oA os.length oc]] w fun e' w' => PtsOk (ptsOf k s (fmtX e) ⟨bA, bc, bs⟩ ⟨oA, oc, os⟩) w e' w'
  have b1 := box_below w (.cells #[.int .i64 k, sv s, .int .i64 ek, .int .i64 en, sv en', .slice A l c, .slice bA bs.length bc, .slice oA os.length oc] 60)
  have bx := hid (Blk.new w 60 [.int .i64 k, sv s, .int .i64 ek, .int .i64 en, sv en', .slice A l c, .slice bA bs.length bc, .slice oA os.length oc])
  have cX := hid (iformat_any e _ _ (hp.below b1) (hx.go b1))
  have hb1 := hid b1
  have hX := fmtX_len e
  generalize fmtX e = x at *
  obtain ⟨ps, hps⟩ : ∃ ps, ptsOf k s x ⟨bA, bc, bs⟩ ⟨oA, oc, os⟩ = ps := ⟨_, rfl⟩
  rw [hps]
  unfold ptsOf at hps
  clear hx b1 hp
  go_enter Tryz.func67, Tryz.ntmps67
  obtain ⟨q0, q1, q2, q3, q4, q5, q6, q7⟩ := eight bx.out
  go_wp2_with fail
  refine cX.out.mono ?_
  rintro e2 w2 ⟨rfl, hb⟩
  have bx2 := hid (bx.out.below hb bx.out.lt)
  have hb2 := hid (hb1.out.trans (hb.mono hb1.out.size))
  clear hb cX bx hb1 q0 q1 q2 q3 q4 q5 q6 q7
  obtain ⟨q0, q1, q2, q3, q4, q5, q6, q7⟩ := eight bx2.out
  by_cases h1 : k = 1
  · subst h1
    rw [if_pos rfl] at hps
    have hf := hid (show (⟨s.toArray⟩ : ByteArray) ++ ⟨#[32, 58, 61, 32]⟩ ++ ⟨x.toArray⟩ ++ ⟨#[32, 59]⟩ = ⟨(s ++ [32, 58, 61, 32] ++ x ++ [32, 59]).toArray⟩ by rw [bapp, bapp, bapp])
    replace hps := hid hps
    clear q2 q3 q4 q5 q6 q7
    go_wp2_with fail
    go_ret
    rw [hf.out, ← hps.out]
    exact ptsOk_lit _ hb2.out
  have e1 : (k == 1) = false := beq_false_of_ne h1
  rw [if_neg h1] at hps
  by_cases h4 : k = 4
  · subst h4
    rw [if_pos rfl] at hps
    have hf := hid (show (⟨#[101, 109, 105, 116, 32]⟩ : ByteArray) ++ ⟨x.toArray⟩ ++ ⟨#[32, 59]⟩ = ⟨([101, 109, 105, 116, 32] ++ x ++ [32, 59]).toArray⟩ by rw [bapp, bapp])
    replace hps := hid hps
    clear q1 q2 q3 q4 q5 q6 q7 e1 h1
    go_wp2_with fail
    go_ret
    rw [hf.out, ← hps.out]
    exact ptsOk_lit _ hb2.out
  have e4 : (k == 4) = false := beq_false_of_ne h4
  rw [if_neg h4] at hps
  by_cases h3 : k = 3
  · subst h3
    rw [if_pos rfl] at hps
    have hf := hid (show (⟨#[119, 104, 105, 108, 101, 32]⟩ : ByteArray) ++ ⟨x.toArray⟩ ++ ⟨#[32, 123]⟩ = ⟨([119, 104, 105, 108, 101, 32] ++ x ++ [32, 123]).toArray⟩ by rw [bapp, bapp])
    replace hps := hid hps
    clear q1 q2 q3 q4 q5 q7 e1 h1 e4 h4
    go_wp2_with fail
    go_ret
    rw [hf.out, ← hps.out]
    exact ptsOk_lit _ hb2.out
  have e3 : (k == 3) = false := beq_false_of_ne h3
  rw [if_neg h3] at hps
  by_cases h2 : k = 2
  · subst h2
    rw [if_pos rfl] at hps
    have hf := hid (show (⟨#[105, 102, 32]⟩ : ByteArray) ++ ⟨x.toArray⟩ ++ ⟨#[32, 123]⟩ = ⟨([105, 102, 32] ++ x ++ [32, 123]).toArray⟩ by rw [bapp, bapp])
    by_cases h0 : 0 < os.length
    · rw [if_pos h0] at hps
      have t0 : decide (0 < os.length) = true := decide_eq_true h0
      have q7o := fun o => cell_alP q7 o
      obtain ⟨i0, hi, hz0, hz1, hz2⟩ := info_parts infoP10
      have hown := hid (show (w2.alloc (.cells (pvs [([105, 102, 32] ++ x ++ [32, 123], ⟨bA, bc, bs⟩), ([32, 125], nil0)]).toArray PT10)).ownsRow w.heap.size PT10 2 (.slice (some ⟨w2.heap.size, 0, none⟩) 2 2) 2 (pvs [([105, 102, 32] ++ x ++ [32, 123], ⟨bA, bc, bs⟩), ([32, 125], nil0)]) from
        ⟨rfl, Or.inr ⟨w2.heap.size, 2, _, rfl, hb2.out.size, World.alloc_heap_new _ _, Nat.le_refl _, by unfold maxLen; omega, rfl, by simp [pvs, pv]⟩⟩)
      replace hps := hid hps
      clear q1 q2 q3 q4 q5 e1 h1 e4 h4 e3 h3
      go_wp2_with (at_builtin; refine wpList_append_own_at (P := Tryz.prog) _ rfl _ _ SP10 rfl w.heap.size PT10 i0 (.agg #[.string .empty, .slice none 0 0]) 2 40 Tryz.underlying104 hi hz0 hz1 hz2 rfl (by decide) _ 2 _ rfl (hown.out.alloc _) ⟨w2.heap.size + 1, 0, none⟩ 2 2 (pvs [([32, 101, 108, 115, 101, 32, 123], ⟨oA, oc, os⟩), ([32, 125], nil0)]) (by rfl) rfl (new_cellsP _ _ (size_alloc' _ _) _ _) (pvs_one _) (by unfold maxLen; omega) (by omega) (by rw [size_alloc', size_alloc']; have := hb2.out.size; omega) ?_; intro v5 w5 ho5 hg5 _ _; obtain ⟨A5, c5, rfl⟩ := own_form10 ho5; replace ho5 := hid ho5; replace hg5 := hid hg5)
      go_ret
      rw [← hps.out]
      refine ptsOk_row ho5.out (by simp) ?_
      have hz := hb2.out.size
      exact bgb (g := w2.heap.size) ((hb2.out.trans ((box_below w2 _).mono hz)).trans ((box_below _ _).mono (by rw [size_alloc']; omega))) hg5.out (by rw [size_alloc', size_alloc']; omega) hz
    · rw [if_neg h0] at hps
      have t0 : decide (0 < os.length) = false := decide_eq_false h0
      have q7o := fun o => cell_alP q7 o
      replace hps := hid hps
      clear q1 q2 q3 q4 q5 e1 h1 e4 h4 e3 h3
      go_wp2_with fail
      go_ret
      rw [hf.out, ← hps.out]
      exact ptsOk_lit _ hb2.out
  · have e2 : (k == 2) = false := beq_false_of_ne h2
    rw [if_neg h2] at hps
    replace hps := hid hps
    clear q1 q2 q3 q4 q5 q6 q7 h1 h4 h3
    go_wp2_with fail
    go_ret
    rw [← hps.out]
    exact ptsOk_lit _ hb2.out
end Go.Proofs.YtiogceepjffmkaaGreatDoor.Gp
set_option maxRecDepth 100000
namespace Go.Proofs.YtiogceepjffmkaaGreatDoor.Bld
open Go.RowKit Go.Shelf
def lays167_ren : Go.Shelf.Ren := ⟨fun | 167 => 55 | 240 => 95 | 276 => 134 | n => n, fun | 70 => 89 | 5 => 5 | 75 => 93 | 0 => 0 | 72 => 91 | 37 => 22 | 4 => 4 | 164 => 207 | 80 => 97 | 9 => 9 | 20 => 20 | n => n, fun | n => n⟩
theorem lays167 : Lays.n167 Tryz.prog lays167_ren where
  mixed := by kernel_rfl
  f167 := Tryz.func55.trans (congrArg some (by kernel_rfl))
  f240 := Tryz.func95.trans (congrArg some (by kernel_rfl))
  f276 := Tryz.func134.trans (congrArg some (by kernel_rfl))
  t0 := Tryz.underlying0
  a0 := Tryz.isAgg0
  z0 := Tryz.sizeOf0
  v0 := Tryz.zeroValue0
  t4 := Tryz.underlying4
  a4 := Tryz.isAgg4
  z4 := Tryz.sizeOf4
  v4 := Tryz.zeroValue4
  t5 := Tryz.underlying5
  a5 := Tryz.isAgg5
  z5 := Tryz.sizeOf5
  v5 := Tryz.zeroValue5
  t9 := Tryz.underlying9
  a9 := Tryz.isAgg9
  z9 := Tryz.sizeOf9
  v9 := Tryz.zeroValue9
  t20 := Tryz.underlying20
  a20 := Tryz.isAgg20
  z20 := Tryz.sizeOf20
  v20 := Tryz.zeroValue20
  t37 := Tryz.underlying22
  a37 := Tryz.isAgg22
  z37 := Tryz.sizeOf22
  v37 := Tryz.zeroValue22
  t70 := Tryz.underlying89
  a70 := Tryz.isAgg89
  z70 := Tryz.sizeOf89
  v70 := Tryz.zeroValue89
  t72 := Tryz.underlying91
  a72 := Tryz.isAgg91
  z72 := Tryz.sizeOf91
  v72 := Tryz.zeroValue91
  t75 := Tryz.underlying93
  a75 := Tryz.isAgg93
  z75 := Tryz.sizeOf93
  v75 := Tryz.zeroValue93
  t164 := Tryz.underlying207
  a164 := Tryz.isAgg207
  z164 := Tryz.sizeOf207
  v164 := Tryz.zeroValue207
def lays166_ren : Go.Shelf.Ren := ⟨fun | 166 => 68 | 240 => 95 | 276 => 134 | n => n, fun | 70 => 89 | 9 => 9 | 3 => 3 | 75 => 93 | 0 => 0 | 72 => 91 | 37 => 22 | 4 => 4 | 164 => 207 | 80 => 97 | 5 => 5 | 20 => 20 | n => n, fun | n => n⟩
theorem lays166 : Lays.n166 Tryz.prog lays166_ren where
  mixed := by kernel_rfl
  f166 := Tryz.func68.trans (congrArg some (by kernel_rfl))
  f240 := Tryz.func95.trans (congrArg some (by kernel_rfl))
  f276 := Tryz.func134.trans (congrArg some (by kernel_rfl))
  t0 := Tryz.underlying0
  a0 := Tryz.isAgg0
  z0 := Tryz.sizeOf0
  v0 := Tryz.zeroValue0
  t3 := Tryz.underlying3
  a3 := Tryz.isAgg3
  z3 := Tryz.sizeOf3
  v3 := Tryz.zeroValue3
  t4 := Tryz.underlying4
  a4 := Tryz.isAgg4
  z4 := Tryz.sizeOf4
  v4 := Tryz.zeroValue4
  t9 := Tryz.underlying9
  a9 := Tryz.isAgg9
  z9 := Tryz.sizeOf9
  v9 := Tryz.zeroValue9
  t20 := Tryz.underlying20
  a20 := Tryz.isAgg20
  z20 := Tryz.sizeOf20
  v20 := Tryz.zeroValue20
  t37 := Tryz.underlying22
  a37 := Tryz.isAgg22
  z37 := Tryz.sizeOf22
  v37 := Tryz.zeroValue22
  t70 := Tryz.underlying89
  a70 := Tryz.isAgg89
  z70 := Tryz.sizeOf89
  v70 := Tryz.zeroValue89
  t72 := Tryz.underlying91
  a72 := Tryz.isAgg91
  z72 := Tryz.sizeOf91
  v72 := Tryz.zeroValue91
  t75 := Tryz.underlying93
  a75 := Tryz.isAgg93
  z75 := Tryz.sizeOf93
  v75 := Tryz.zeroValue93
  t164 := Tryz.underlying207
  a164 := Tryz.isAgg207
  z164 := Tryz.sizeOf207
  v164 := Tryz.zeroValue207
def lays168_ren : Go.Shelf.Ren := ⟨fun | 168 => 56 | 240 => 95 | 242 => 96 | 276 => 134 | 278 => 135 | n => n, fun | 70 => 89 | 21 => 21 | 3 => 3 | 75 => 93 | 0 => 0 | 72 => 91 | 37 => 22 | 4 => 4 | 164 => 207 | 51 => 209 | 5 => 5 | 46 => 192 | 80 => 97 | 9 => 9 | 20 => 20 | n => n, fun | n => n⟩
theorem lays168 : Lays.n168 Tryz.prog lays168_ren where
  mixed := by kernel_rfl
  f168 := Tryz.func56.trans (congrArg some (by kernel_rfl))
  f240 := Tryz.func95.trans (congrArg some (by kernel_rfl))
  f242 := Tryz.func96.trans (congrArg some (by kernel_rfl))
  f276 := Tryz.func134.trans (congrArg some (by kernel_rfl))
  f278 := Tryz.func135.trans (congrArg some (by kernel_rfl))
  t0 := Tryz.underlying0
  a0 := Tryz.isAgg0
  z0 := Tryz.sizeOf0
  v0 := Tryz.zeroValue0
  t3 := Tryz.underlying3
  a3 := Tryz.isAgg3
  z3 := Tryz.sizeOf3
  v3 := Tryz.zeroValue3
  t4 := Tryz.underlying4
  a4 := Tryz.isAgg4
  z4 := Tryz.sizeOf4
  v4 := Tryz.zeroValue4
  t5 := Tryz.underlying5
  a5 := Tryz.isAgg5
  z5 := Tryz.sizeOf5
  v5 := Tryz.zeroValue5
  t9 := Tryz.underlying9
  a9 := Tryz.isAgg9
  z9 := Tryz.sizeOf9
  v9 := Tryz.zeroValue9
  t20 := Tryz.underlying20
  a20 := Tryz.isAgg20
  z20 := Tryz.sizeOf20
  v20 := Tryz.zeroValue20
  t21 := Tryz.underlying21
  a21 := Tryz.isAgg21
  z21 := Tryz.sizeOf21
  v21 := Tryz.zeroValue21
  t37 := Tryz.underlying22
  a37 := Tryz.isAgg22
  z37 := Tryz.sizeOf22
  v37 := Tryz.zeroValue22
  t46 := Tryz.underlying192
  a46 := Tryz.isAgg192
  z46 := Tryz.sizeOf192
  v46 := Tryz.zeroValue192
  t51 := Tryz.underlying209
  a51 := Tryz.isAgg209
  z51 := Tryz.sizeOf209
  v51 := Tryz.zeroValue209
  t70 := Tryz.underlying89
  a70 := Tryz.isAgg89
  z70 := Tryz.sizeOf89
  v70 := Tryz.zeroValue89
  t72 := Tryz.underlying91
  a72 := Tryz.isAgg91
  z72 := Tryz.sizeOf91
  v72 := Tryz.zeroValue91
  t75 := Tryz.underlying93
  a75 := Tryz.isAgg93
  z75 := Tryz.sizeOf93
  v75 := Tryz.zeroValue93
  t164 := Tryz.underlying207
  a164 := Tryz.isAgg207
  z164 := Tryz.sizeOf207
  v164 := Tryz.zeroValue207
theorem extra167 : Builder.Extra Tryz.prog lays167_ren where
  sizeBuilder := by kernel_rfl
  liesBuilder := by kernel_rfl
  t5 := Tryz.underlying5
  a5 := Tryz.isAgg5
  z5 := Tryz.sizeOf5
  v5 := Tryz.zeroValue5
  infoByte := by kernel_rfl
  cellsByte := by kernel_rfl
  sizeByte := by kernel_rfl
  neB5 := by decide
theorem extra166 : Builder.Extra Tryz.prog lays166_ren where
  sizeBuilder := by kernel_rfl
  liesBuilder := by kernel_rfl
  t5 := Tryz.underlying5
  a5 := Tryz.isAgg5
  z5 := Tryz.sizeOf5
  v5 := Tryz.zeroValue5
  infoByte := by kernel_rfl
  cellsByte := by kernel_rfl
  sizeByte := by kernel_rfl
  neB5 := by decide
theorem extra168 : Builder.Extra Tryz.prog lays168_ren where
  sizeBuilder := by kernel_rfl
  liesBuilder := by kernel_rfl
  t5 := Tryz.underlying5
  a5 := Tryz.isAgg5
  z5 := Tryz.sizeOf5
  v5 := Tryz.zeroValue5
  infoByte := by kernel_rfl
  cellsByte := by kernel_rfl
  sizeByte := by kernel_rfl
  neB5 := by decide
theorem writeByte (B b : Nat) (bs : List Value) (c : Int) (w : World) (h : Lib.IsBuilderF 91 5 B b bs w) (hlen : bs.length + 1 ≤ 140737488355328) (hBw : B ≤ w.heap.size) :
    Calls Tryz.prog 55 #[.pointer (some ⟨b, 0, none⟩), .int .u8 c] w fun e w' => e = .returned .nilIface ∧ (Lib.BuilderAtF 91 5 B b (.pointer (some ⟨b, 0, none⟩)) (bs ++ [.int .u8 c]) w' ∧ Below B w w' ∧ Lib.OthersKept 5 (some b) w w') := Any.Builder_WriteByte_k lays167 extra167 B b bs c w h hlen hBw
theorem writeString (B b : Nat) (bs : List Value) (s : ByteArray) (w : World) (h : Lib.IsBuilderF 91 5 B b bs w) (hlen : bs.length + s.size ≤ 140737488355328) (hBw : B ≤ w.heap.size) :
    Calls Tryz.prog 68 #[.pointer (some ⟨b, 0, none⟩), .string s] w fun e w' => e = .returned (.tuple #[.int .i64 s.size, .nilIface]) ∧ (Lib.BuilderAtF 91 5 B b (.pointer (some ⟨b, 0, none⟩)) (bs ++ Lib.strCells s) w' ∧ Below B w w' ∧ Lib.OthersKept 5 (some b) w w') := Any.Builder_WriteString_k lays166 extra166 B b bs s w h hlen hBw
theorem writeRune (B b : Nat) (bs : List Value) (r : Int) (hr0 : -2147483648 ≤ r) (hr1 : r ≤ 2147483647) (w : World) (h : Lib.IsBuilderF 91 5 B b bs w) (hlen : bs.length + 4 ≤ 140737488355328) (hBw : B ≤ w.heap.size) :
    Calls Tryz.prog 56 #[.pointer (some ⟨b, 0, none⟩), .int .i32 r] w fun e w' => e = .returned (.tuple #[.int .i64 (Lib.runeCells r).length, .nilIface]) ∧ (Lib.BuilderAtF 91 5 B b (.pointer (some ⟨b, 0, none⟩)) (bs ++ Lib.runeCells r) w' ∧ Below B w w' ∧ Lib.OthersKept 5 (some b) w w') := Any.Builder_WriteRune_k lays168 extra168 B b bs r hr0 hr1 w h hlen hBw
theorem string_ (B b : Nat) (l : List UInt8) (w : World) (h : Lib.IsBuilderF 91 5 B b (Lib.byteCells l) w) (hBw : B ≤ w.heap.size) :
    Calls Tryz.prog 57 #[.pointer (some ⟨b, 0, none⟩)] w fun e w' => e = .returned (.string ⟨l.toArray⟩) ∧ (Lib.IsBuilderF 91 5 B b (Lib.byteCells l) w' ∧ Below B w w' ∧ Lib.OthersKept 5 (some b) w w') := Any.Builder_String_any_k Tryz.lays169 Tryz.Builder_Extra_169 B b l w h hBw
end Go.Proofs.YtiogceepjffmkaaGreatDoor.Bld
