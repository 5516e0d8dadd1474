/- Outcomes: two lists of integers between two integers; measured, copied, compared and marked by the laws. -/
import Derived.Test.YtnmomlaimffonaaOi
set_option maxRecDepth 100000
namespace Go.Proofs.Ytnmomlaimffonaa.Oc
open Go.RowKit Go.Lib Go.Sort Go.Proofs.Ytnmomlaimffonaa.Com Go.Proofs.Ytnmomlaimffonaa.Mem Go.Proofs.Ytnmomlaimffonaa.Os Go.Proofs.Ytnmomlaimffonaa.Ow

/-- an outcome: status, state, output, cost -/
structure Oc where
  st : Int
  sg : List Int
  ou : List Int
  co : Int
abbrev ov (st : Int) (A : Option Addr) (l c : Nat) (A' : Option Addr) (l' c' : Nat) (co : Int) : Value := .agg #[.int .i64 st, .slice A l c, .slice A' l' c', .int .i64 co]
abbrev I63 : Nat := 9223372036854775807
theorem bxb (w : World) (o : Obj) : Below w.heap.size w (w.alloc o) := (Below.refl _ _).alloc (Nat.le_refl _) _
theorem fourO {w : World} {g ty : Nat} {a b c d : Value} (h : Blk w g ty [a, b, c, d]) : w.cell? ⟨g, 0, none⟩ = some a ∧ w.cell? ⟨g, 1, none⟩ = some b ∧ w.cell? ⟨g, 2, none⟩ = some c ∧ w.cell? ⟨g, 3, none⟩ = some d := ⟨h.cell 0, h.cell 1, h.cell 2, h.cell 3⟩
theorem box_blkO (w : World) (st : Int) (A : Option Addr) (l c : Nat) (A' : Option Addr) (l' c' : Nat) (co : Int) (ty : TypeId) : Blk (w.alloc (.cells #[.int .i64 st, .slice A l c, .slice A' l' c', .int .i64 co] ty)) w.heap.size ty [.int .i64 st, .slice A l c, .slice A' l' c', .int .i64 co] := Blk.new w ty _
/-- the value reads as the outcome -/
def OcAt (w : World) (B : Nat) (v : Value) (o : Oc) : Prop := ∃ A c A' c', v = ov o.st A o.sg.length c A' o.ou.length c' o.co ∧ Rd w B A (o.sg.map iv) ∧ o.sg.length ≤ I63 ∧ Rd w B A' (o.ou.map iv) ∧ o.ou.length ≤ I63
theorem OcAt.go {w w' : World} {v : Value} {o : Oc} (h : OcAt w w.heap.size v o) (hb : Below w.heap.size w w') : OcAt w' w'.heap.size v o := by
  obtain ⟨A, c, A', c', e, h1, h2, h3, h4⟩ := h
  exact ⟨A, c, A', c', e, (h1.below hb).more hb.size, h2, (h3.below hb).more hb.size, h4⟩
theorem OcAt.blw {w w' : World} {B : Nat} {v : Value} {o : Oc} (h : OcAt w B v o) (hb : Below B w w') : OcAt w' B v o := by
  obtain ⟨A, c, A', c', e, h1, h2, h3, h4⟩ := h
  exact ⟨A, c, A', c', e, h1.below hb, h2, h3.below hb, h4⟩
theorem OcAt.more {w : World} {B B' : Nat} {v : Value} {o : Oc} (h : OcAt w B v o) (hB : B ≤ B') : OcAt w B' v o := by
  obtain ⟨A, c, A', c', e, h1, h2, h3, h4⟩ := h
  exact ⟨A, c, A', c', e, h1.more hB, h2, h3.more hB, h4⟩
theorem OcAt.form {w : World} {B : Nat} {v : Value} {o : Oc} (h : OcAt w B v o) : ∃ st A l c A' l' c' co, v = .agg #[.int .i64 st, .slice A l c, .slice A' l' c', .int .i64 co] := by
  obtain ⟨A, c, A', c', e, _⟩ := h
  exact ⟨_, _, _, _, _, _, _, _, e⟩
/-- an outcome of the call's own: the state's row in blocks below the output's -/
def OwnOc (lo hi : Nat) (w : World) (v : Value) (o : Oc) : Prop := ∃ vS vO m, v = .agg #[.int .i64 o.st, vS, vO, .int .i64 o.co] ∧ lo ≤ m ∧ m ≤ hi ∧ OwnI lo m w vS o.sg ∧ OwnI m hi w vO o.ou
section
variable {lo hi : Nat} {w w' : World} {v : Value} {o : Oc}
theorem OwnOc.same (h : OwnOc lo hi w v o) (hs : Same lo hi w w') : OwnOc lo hi w' v o := by
  obtain ⟨vS, vO, m, e, h1, h2, h3, h4⟩ := h
  exact ⟨vS, vO, m, e, h1, h2, h3.same fun k h5 h6 => hs k h5 (by omega), h4.same fun k h5 h6 => hs k (by omega) h6⟩
theorem OwnOc.mono {lo' hi' : Nat} (h : OwnOc lo hi w v o) (h1 : lo' ≤ lo) (h2 : hi ≤ hi') : OwnOc lo' hi' w v o := by
  obtain ⟨vS, vO, m, e, h3, h4, h5, h6⟩ := h
  exact ⟨vS, vO, m, e, by omega, by omega, Own.mono h5 h1 (Nat.le_refl _), Own.mono h6 (Nat.le_refl _) h2⟩
theorem OwnOc.at_ (h : OwnOc lo hi w v o) : OcAt w w.heap.size v o := by
  obtain ⟨vS, vO, m, e, h1, h2, h3, h4⟩ := h
  obtain ⟨A, c, rfl, r1, l1, m1, _⟩ := h3.read_
  obtain ⟨A', c', rfl, r2, l2, m2, _⟩ := h4.read_
  exact ⟨A, c, A', c', e, r1, by unfold maxLen at m1; unfold I63; omega, r2, by unfold maxLen at m2; unfold I63; omega⟩
theorem OwnOc.form (h : OwnOc lo hi w v o) : ∃ st A l c A' l' c' co, v = .agg #[.int .i64 st, .slice A l c, .slice A' l' c', .int .i64 co] := h.at_.form
end
/-- what the laws measure -/
def szOc (o : Oc) : Nat := o.sg.length + o.ou.length
/-! measured -/
set_option maxHeartbeats 400000 in
theorem szI_fit (A : Option Addr) (c n : Nat) (left : Int) (w : World) (_ : n ≤ I63) (h1 : left ≤ 1048576) (h2 : (n : Int) ≤ left) :
    Calls Try.prog 9 #[.slice A n c, .int .i64 left] w fun e w' => e = .returned (.int .i64 (left - (n : Int))) ∧ w = w' := by
  have t0 : decide (left - (n : Int) < 0) = false := decide_eq_false (by omega)
  go_enter Try.func9, Try.ntmps9
  go_wp2_with fail
  go_ret
  exact ⟨rfl, rfl⟩
set_option maxHeartbeats 400000 in
theorem szI_over (A : Option Addr) (c n : Nat) (left : Int) (w : World) (hn : n ≤ I63) (h0 : 0 ≤ left) (h2 : left < (n : Int)) :
    Calls Try.prog 9 #[.slice A n c, .int .i64 left] w fun e w' => e = .returned (.int .i64 (-1)) ∧ w = w' := by
  have hn' : n ≤ 9223372036854775807 := hn
  have t0 : decide (left - (n : Int) < 0) = true := decide_eq_true (by omega)
  go_enter Try.func9, Try.ntmps9
  go_wp2_with fail
  go_ret
  exact ⟨rfl, rfl⟩
set_option maxHeartbeats 1000000 in
theorem szOc_fit (o : Oc) (left : Int) (w : World) (v : Value) (h : OcAt w w.heap.size v o) (_ : 0 ≤ left) (h1 : left ≤ 1048576) (h2 : ((szOc o : Nat) : Int) ≤ left) :
    Calls Try.prog 4 #[v, .int .i64 left] w fun e w' => e = .returned (.int .i64 (left - ((szOc o : Nat) : Int))) ∧ Below w.heap.size w w' := by
  obtain ⟨A, c, A', c', rfl, _, l1, _, l2⟩ := h
  have b := bxb w (.cells #[.int .i64 o.st, .slice A o.sg.length c, .slice A' o.ou.length c', .int .i64 o.co] 24)
  obtain ⟨p0, p1, p2, p3⟩ := fourO (box_blkO w o.st A o.sg.length c A' o.ou.length c' o.co 24)
  obtain ⟨st, sg, ou, co⟩ := o
  unfold szOc at *
  dsimp only at *
  have e0 : left - ((sg.length + ou.length : Nat) : Int) = left - (sg.length : Int) - (ou.length : Int) := by omega
  have c1 := hid (szI_fit A c sg.length left (w.alloc (.cells #[.int .i64 st, .slice A sg.length c, .slice A' ou.length c', .int .i64 co] 24)) l1 h1 (by omega))
  have c2 := hid (szI_fit A' c' ou.length (left - (sg.length : Int)) (w.alloc (.cells #[.int .i64 st, .slice A sg.length c, .slice A' ou.length c', .int .i64 co] 24)) l2 (by omega) (by omega))
  have t1 : decide (left - (sg.length : Int) < 0) = false := decide_eq_false (by omega)
  have t2 : decide (left - (sg.length : Int) - (ou.length : Int) < 0) = false := decide_eq_false (by omega)
  rw [e0]
  replace b := hid b
  clear e0 h2 h1 l1 l2
  go_enter Try.func4, Try.ntmps4
  go_wp2_with fail
  generalize (w.alloc (.cells #[.int .i64 st, .slice A sg.length c, .slice A' ou.length c', .int .i64 co] 24)) = w1 at *
  refine c1.out.mono ?_
  rintro e w2 ⟨rfl, rfl⟩
  go_wp2_with fail
  refine c2.out.mono ?_
  rintro e w2 ⟨rfl, rfl⟩
  go_wp2_with fail
  go_ret
  exact ⟨rfl, b.out⟩
set_option maxHeartbeats 1000000 in
theorem szOc_over (o : Oc) (left : Int) (w : World) (v : Value) (h : OcAt w w.heap.size v o) (h0 : 0 ≤ left) (h1 : left ≤ 1048576) (h2 : left < ((szOc o : Nat) : Int)) :
    Calls Try.prog 4 #[v, .int .i64 left] w fun e w' => e = .returned (.int .i64 (-1)) ∧ Below w.heap.size w w' := by
  obtain ⟨A, c, A', c', rfl, _, l1, _, l2⟩ := h
  have b := bxb w (.cells #[.int .i64 o.st, .slice A o.sg.length c, .slice A' o.ou.length c', .int .i64 o.co] 24)
  obtain ⟨p0, p1, p2, p3⟩ := fourO (box_blkO w o.st A o.sg.length c A' o.ou.length c' o.co 24)
  obtain ⟨st, sg, ou, co⟩ := o
  unfold szOc at *
  dsimp only at *
  replace b := hid b
  by_cases hs : left < (sg.length : Int)
  · have c1 := hid (szI_over A c sg.length left (w.alloc (.cells #[.int .i64 st, .slice A sg.length c, .slice A' ou.length c', .int .i64 co] 24)) l1 h0 hs)
    clear h2 h1 l1 l2 hs
    go_enter Try.func4, Try.ntmps4
    go_wp2_with fail
    refine c1.out.mono ?_
    rintro e w2 ⟨rfl, rfl⟩
    go_wp2_with fail
    go_ret
    exact ⟨rfl, b.out⟩
  have c1 := hid (szI_fit A c sg.length left (w.alloc (.cells #[.int .i64 st, .slice A sg.length c, .slice A' ou.length c', .int .i64 co] 24)) l1 h1 (by omega))
  have c2 := hid (szI_over A' c' ou.length (left - (sg.length : Int)) (w.alloc (.cells #[.int .i64 st, .slice A sg.length c, .slice A' ou.length c', .int .i64 co] 24)) l2 (by omega) (by omega))
  have t1 : decide (left - (sg.length : Int) < 0) = false := decide_eq_false (by omega)
  clear h2 h1 l1 l2 hs
  go_enter Try.func4, Try.ntmps4
  go_wp2_with fail
  generalize (w.alloc (.cells #[.int .i64 st, .slice A sg.length c, .slice A' ou.length c', .int .i64 co] 24)) = w1 at *
  refine c1.out.mono ?_
  rintro e w2 ⟨rfl, rfl⟩
  go_wp2_with fail
  refine c2.out.mono ?_
  rintro e w2 ⟨rfl, rfl⟩
  go_wp2_with fail
  go_ret
  exact ⟨rfl, b.out⟩
/-! copied -/
abbrev OT : TypeId := 27
abbrev LT : TypeId := 24
abbrev zO : List Value := [.int .i64 0, .slice none 0 0, .slice none 0 0, .int .i64 0]
abbrev zS (st : Int) : List Value := [.int .i64 st, .slice none 0 0, .slice none 0 0, .int .i64 0]
abbrev P3 (w : World) (cs : List Value) (st : Int) : World := ((w.alloc (.cells cs.toArray LT)).alloc (.cells zO.toArray OT)).alloc (.cells (zS st).toArray OT)
theorem p3_size (w : World) (cs : List Value) (st : Int) : (P3 w cs st).heap.size = w.heap.size + 1 + 1 + 1 := by rw [size_alloc', size_alloc', size_alloc']
theorem p3_below (w : World) (cs : List Value) (st : Int) : Below w.heap.size w (P3 w cs st) :=
  (((Below.refl _ _).alloc (Nat.le_refl _) _).alloc (by rw [size_alloc']; omega) _).alloc (by rw [size_alloc', size_alloc']; omega) _
theorem p3_blk (w : World) (cs : List Value) (st : Int) : Blk (P3 w cs st) w.heap.size LT cs ∧ Blk (P3 w cs st) (w.heap.size + 1) OT zO ∧ Blk (P3 w cs st) (w.heap.size + 1 + 1) OT (zS st) := by
  have h0 := Blk.new w LT cs
  have h1 := Blk.new (w.alloc (.cells cs.toArray LT)) OT zO
  have h2 := Blk.new ((w.alloc (.cells cs.toArray LT)).alloc (.cells zO.toArray OT)) OT (zS st)
  rw [size_alloc'] at h1
  rw [size_alloc', size_alloc'] at h2
  exact ⟨(h0.alloc _).alloc _, h1.alloc _, h2⟩
/-- a cell of the answer is set -/
theorem set_step {w a : World} {b i g : Nat} {u : Value} {cs x r : List Value} {lo : Nat} (hb : Below lo a w) (hB : Blk w b OT cs) (hx : Blk w g LT x) (hr : Blk w (g + 1) OT r) (hl : lo ≤ b) (h1 : b = g + 1 + 1) :
    Below lo a (w.setCell ⟨b, i, none⟩ u) ∧ Blk (w.setCell ⟨b, i, none⟩ u) b OT (cs.set i u) ∧ Blk (w.setCell ⟨b, i, none⟩ u) g LT x ∧ Blk (w.setCell ⟨b, i, none⟩ u) (g + 1) OT r ∧ (w.setCell ⟨b, i, none⟩ u).heap.size = w.heap.size ∧ ∀ k, k ≠ b → (w.setCell ⟨b, i, none⟩ u).heap[k]? = w.heap[k]? :=
  ⟨hb.setCell (p := ⟨b, i, none⟩) hl u, hB.set_ i u, hx.far (p := ⟨b, i, none⟩) (by show g ≠ b; omega) u, hr.far (p := ⟨b, i, none⟩) (by show g + 1 ≠ b; omega) u, by simp [World.setCell], fun k hk => heap_setCell_other _ _ _ _ hk⟩
abbrev putO (w : World) (b : Nat) (st : Int) (vS vO : Value) (co : Int) : World := (((w.setCell ⟨b, 0, none⟩ (.int .i64 st)).setCell ⟨b, 1, none⟩ vS).setCell ⟨b, 2, none⟩ vO).setCell ⟨b, 3, none⟩ (.int .i64 co)
theorem putO_at {w a : World} {b lo : Nat} {z0 z1 z2 z3 : Value} (h : Blk w b OT [z0, z1, z2, z3]) (hb : Below lo a w) (hl : lo ≤ b) (st : Int) (vS vO : Value) (co : Int) :
    Blk (putO w b st vS vO co) b OT [.int .i64 st, vS, vO, .int .i64 co] ∧ Below lo a (putO w b st vS vO co) ∧ (∀ k, k ≠ b → (putO w b st vS vO co).heap[k]? = w.heap[k]?) ∧ (putO w b st vS vO co).heap.size = w.heap.size :=
  ⟨(((h.set_ 0 _).set_ 1 _).set_ 2 _).set_ 3 _, (((hb.setCell (p := ⟨b, 0, none⟩) hl _).setCell (p := ⟨b, 1, none⟩) hl _).setCell (p := ⟨b, 2, none⟩) hl _).setCell (p := ⟨b, 3, none⟩) hl _,
    fun k hk => by rw [heap_setCell_other _ _ _ _ hk, heap_setCell_other _ _ _ _ hk, heap_setCell_other _ _ _ _ hk, heap_setCell_other _ _ _ _ hk], by simp [World.setCell]⟩
set_option maxHeartbeats 4000000 in
theorem toOc_own (o : Oc) (w : World) (v : Value) (h : OcAt w w.heap.size v o) (hz : szOc o ≤ 1048576) :
    Calls Try.prog 6 #[v] w fun e w' => ∃ r, e = .returned r ∧ OwnOc w.heap.size w'.heap.size w' r o ∧ Below w.heap.size w w' := by
  obtain ⟨A, c, A', c', rfl, r1, l1, r2, l2⟩ := h
  obtain ⟨st, sg, ou, co⟩ := o
  unfold szOc at hz
  dsimp only at *
  have B3 := p3_below w [.int .i64 st, .slice A sg.length c, .slice A' ou.length c', .int .i64 co] st
  have S3 := p3_size w [.int .i64 st, .slice A sg.length c, .slice A' ou.length c', .int .i64 co] st
  obtain ⟨bx4, r4, q4⟩ := p3_blk w [.int .i64 st, .slice A sg.length c, .slice A' ou.length c', .int .i64 co] st
  obtain ⟨k0, k1, k2, k3⟩ := fourO bx4
  have cV := toI_own A c sg w _ r1 (by omega) B3
  have cW := hid (fun wx (hb : Below w.heap.size w wx) => toI_own A' c' ou w wx r2 (by omega) hb)
  rw [S3] at cV
  replace cV := hid cV
  obtain ⟨w4, hw4⟩ : ∃ W, W = (P3 w [.int .i64 st, .slice A sg.length c, .slice A' ou.length c', .int .i64 co] st) := ⟨_, rfl⟩
  rw [← hw4] at B3 S3 q4 bx4 r4
  replace hw4 := hid hw4
  have B4 := hid B3
  have S4 := hid S3
  replace q4 := hid q4
  replace bx4 := hid bx4
  replace r4 := hid r4
  clear r1 r2 l1 l2 hz B3 S3
  go_enter Try.func6, Try.ntmps6
  go_wp2_with fail
  refine cV.out.mono ?_
  rintro e w5 ⟨rfl, o5, hb⟩
  have hz4 := S4.out
  have hb' : Below w4.heap.size w4 w5 := by rw [hz4, hw4.out]; exact hb
  have B5 := B4.out.trans (hb'.mono B4.out.size)
  have q5 := q4.out.below hb' q4.out.lt
  have bx5 := bx4.out.below hb' bx4.out.lt
  have r5 := r4.out.below hb' r4.out.lt
  have z5 : w.heap.size + 3 ≤ w5.heap.size := by have := hb'.size; omega
  clear hb hb' cV k0 k1 k2 k3 B4 q4 bx4 r4
  obtain ⟨k0, k1, k2, k3⟩ := fourO bx5
  have f1 := q5.frozen 1
  obtain ⟨j0, j1, j2, j3⟩ := fourO q5
  obtain ⟨B6, q6, bx6, r6, S6, F6⟩ := set_step (i := 1) (u := .slice (some ⟨w.heap.size + 1 + 1 + 1, 0, none⟩) sg.length sg.length) B5 q5 bx5 r5 (show w.heap.size ≤ w.heap.size + 1 + 1 by omega) rfl
  have o6 := hid (o5.same (w' := w5.setCell ⟨w.heap.size + 1 + 1, 1, none⟩ (.slice (some ⟨w.heap.size + 1 + 1 + 1, 0, none⟩) sg.length sg.length)) fun k h1 h2 => F6 k (by omega))
  have cW6 := cW.out _ B6
  rw [S6] at cW6
  replace cW6 := hid cW6
  replace B6 := hid B6
  replace S6 := hid S6
  replace q6 := hid q6
  replace bx6 := hid bx6
  replace r6 := hid r6
  clear B5 q5 bx5 r5 o5 F6 cW hz4 S4
  go_wp2_with fail
  generalize (w5.setCell ⟨w.heap.size + 1 + 1, 1, none⟩ (.slice (some ⟨w.heap.size + 1 + 1 + 1, 0, none⟩) sg.length sg.length)) = w6 at *
  refine cW6.out.mono ?_
  rintro e w7 ⟨rfl, o7, hb⟩
  have hz6 := S6.out
  have hb : Below w6.heap.size w6 w7 := by rw [hz6]; exact hb
  have B7 := B6.out.trans (hb.mono B6.out.size)
  have q7 := q6.out.below hb q6.out.lt
  have bx7 := bx6.out.below hb bx6.out.lt
  have r7 := r6.out.below hb r6.out.lt
  have p7 := o6.out.same (same_below hb (by omega))
  have z7 := hb.size
  clear hb cW6 k0 k1 k2 k3 j0 j1 j2 j3 f1 B6 q6 bx6 r6 o6
  obtain ⟨k0, k1, k2, k3⟩ := fourO bx7
  obtain ⟨j0, j1, j2, j3⟩ := fourO q7
  have f2 := q7.frozen 2
  have f3 := q7.frozen 3
  generalize hG2 : w5.heap.size = g6 at *
  obtain ⟨B8, q8, bx8, r8, S8, F8⟩ := set_step (i := 2) (u := .slice (some ⟨g6, 0, none⟩) ou.length ou.length) B7 q7 bx7 r7 (show w.heap.size ≤ w.heap.size + 1 + 1 by omega) rfl
  obtain ⟨B9, q9, bx9, r9, S9, F9⟩ := set_step (i := 3) (u := .int .i64 co) B8 q8 bx8 r8 (show w.heap.size ≤ w.heap.size + 1 + 1 by omega) rfl
  obtain ⟨m0, m1, m2, m3⟩ := fourO r7
  have y0 := r7.frozen 0
  have y1 := r7.frozen 1
  have y2 := r7.frozen 2
  have y3 := r7.frozen 3
  obtain ⟨F, BF, FF, SF⟩ := putO_at (st := st) (vS := .slice (some ⟨w.heap.size + 1 + 1 + 1, 0, none⟩) sg.length sg.length) (vO := .slice (some ⟨g6, 0, none⟩) ou.length ou.length) (co := co) r9 B9 (show w.heap.size ≤ w.heap.size + 1 by omega)
  rw [S9, S8] at SF
  obtain ⟨w9, hw9⟩ : ∃ W, W = putO ((w7.setCell ⟨w.heap.size + 1 + 1, 2, none⟩ (.slice (some ⟨g6, 0, none⟩) ou.length ou.length)).setCell ⟨w.heap.size + 1 + 1, 3, none⟩ (.int .i64 co)) (w.heap.size + 1) st (.slice (some ⟨w.heap.size + 1 + 1 + 1, 0, none⟩) sg.length sg.length) (.slice (some ⟨g6, 0, none⟩) ou.length ou.length) co := ⟨_, rfl⟩
  rw [← hw9] at F BF FF SF
  have own : OwnOc w.heap.size w9.heap.size w9 (.agg #[.int .i64 st, .slice (some ⟨w.heap.size + 1 + 1 + 1, 0, none⟩) sg.length sg.length, .slice (some ⟨g6, 0, none⟩) ou.length ou.length, .int .i64 co]) ⟨st, sg, ou, co⟩ :=
    ⟨_, _, g6, rfl, by omega, by omega, (p7.same fun k h1 h2 => (FF k (by omega)).trans ((F9 k (by omega)).trans (F8 k (by omega)))).mono (by omega) (by omega),
      (o7.same fun k h1 h2 => (FF k (by omega)).trans ((F9 k (by omega)).trans (F8 k (by omega)))).mono (Nat.le_refl _) (by omega)⟩
  rw [hw9] at F BF own
  replace own := hid own
  replace F := hid F
  replace BF := hid BF
  clear B7 q7 bx7 r7 p7 o7 B8 q8 bx8 r8 S8 F8 B9 q9 bx9 r9 S9 F9 FF SF hw9
  go_wp2_with fail
  exact bodyPost_ret (results_cell_row Try.results6 _ _ (w.heap.size + 1) OT _ (0, 0) _ rfl F.out Try.underlying27 rfl (by kernel_rfl)) rfl ⟨_, rfl, own.out, BF.out⟩
/-! compared -/
set_option maxHeartbeats 1000000 in
theorem eqOc_at (o : Oc) (v v' : Value) (w : World) (h : OcAt w w.heap.size v o) (h' : OcAt w w.heap.size v' o) :
    Calls Try.prog 8 #[v, v'] w fun e w' => e = .returned (.bool true) ∧ Below w.heap.size w w' := by
  obtain ⟨A, c, A', c', rfl, r1, l1, r2, l2⟩ := h
  obtain ⟨D, d, D', d', rfl, r3, l3, r4, l4⟩ := h'
  obtain ⟨st, sg, ou, co⟩ := o
  dsimp only at *
  have b1 := bxb w (.cells #[.int .i64 st, .slice A sg.length c, .slice A' ou.length c', .int .i64 co] 27)
  have z1 := size_alloc' w (.cells #[.int .i64 st, .slice A sg.length c, .slice A' ou.length c', .int .i64 co] 27)
  have b2 := b1.trans ((bxb (w.alloc (.cells #[.int .i64 st, .slice A sg.length c, .slice A' ou.length c', .int .i64 co] 27)) (.cells #[.int .i64 st, .slice D sg.length d, .slice D' ou.length d', .int .i64 co] 27)).mono (by omega))
  have x1 := (box_blkO w st A sg.length c A' ou.length c' co 27).alloc (.cells #[.int .i64 st, .slice D sg.length d, .slice D' ou.length d', .int .i64 co] 27)
  have x2 := box_blkO (w.alloc (.cells #[.int .i64 st, .slice A sg.length c, .slice A' ou.length c', .int .i64 co] 27)) st D sg.length d D' ou.length d' co 27
  rw [z1] at x2
  have cS := hid (fun wx (hb : Below w.heap.size w wx) => eqI_any A D c d sg wx ((r1.below hb).more hb.size) ((r3.below hb).more hb.size) l1)
  have cO := hid (fun wx (hb : Below w.heap.size w wx) => eqI_any A' D' c' d' ou wx ((r2.below hb).more hb.size) ((r4.below hb).more hb.size) l2)
  have m1 : (st != st) = false := bne_self_eq_false _
  have m2 : (co != co) = false := bne_self_eq_false _
  replace b2 := hid b2
  replace x1 := hid x1
  replace x2 := hid x2
  clear r1 r2 r3 r4 l1 l2 l3 l4 b1 z1
  go_enter Try.func8, Try.ntmps8
  obtain ⟨k0, k1, k2, k3⟩ := fourO x1.out
  obtain ⟨j0, j1, j2, j3⟩ := fourO x2.out
  go_wp2_with fail
  refine (cS.out _ b2.out).mono ?_
  rintro e3 w3 ⟨rfl, hb⟩
  have b3 := hid (b2.out.trans (hb.mono b2.out.size))
  have y1 := hid (x1.out.below hb x1.out.lt)
  have y2 := hid (x2.out.below hb x2.out.lt)
  clear hb k0 k1 k2 k3 j0 j1 j2 j3 x1 x2 b2 cS
  obtain ⟨k0, k1, k2, k3⟩ := fourO y1.out
  obtain ⟨j0, j1, j2, j3⟩ := fourO y2.out
  go_wp2_with fail
  refine (cO.out _ b3.out).mono ?_
  rintro e4 w4 ⟨rfl, hb⟩
  have b4 := hid (b3.out.trans (hb.mono b3.out.size))
  have y3 := hid (y1.out.below hb y1.out.lt)
  have y4 := hid (y2.out.below hb y2.out.lt)
  clear hb k0 k1 k2 k3 j0 j1 j2 j3 y1 y2 b3 cO
  obtain ⟨k0, k1, k2, k3⟩ := fourO y3.out
  obtain ⟨j0, j1, j2, j3⟩ := fourO y4.out
  go_wp2_with fail
  go_ret
  exact ⟨rfl, b4.out⟩
theorem eqOc_own {lo lo' hi hi' : Nat} {v v' : Value} {o : Oc} (w : World) (h : OwnOc lo hi w v o) (h' : OwnOc lo' hi' w v' o) :
    Calls Try.prog 8 #[v, v'] w fun e w' => e = .returned (.bool true) ∧ Below w.heap.size w w' := eqOc_at o v v' w h.at_ h'.at_
/-- how many marks -/
def cntOc (o : Oc) : Nat := o.sg.length + o.ou.length
/-- marked from k on -/
def markO (k : Nat) (o : Oc) : Oc := ⟨o.st, marksI k o.sg.length, marksI (k + o.sg.length) o.ou.length, o.co⟩
/-! equality of two outcomes, asked by the model and by the program -/
theorem rd_i {w : World} {B : Nat} {A : Option Addr} {l : List Int} (h : Rd w B A (l.map iv)) {k : Nat} (hk : k < l.length) : ∃ ad, A = some ad ∧ w.cell? (ad.add k) = some (.int .i64 l[k]) := by
  obtain ⟨ad, e, _, hc⟩ := rd_int h hk
  exact ⟨ad, e, hc⟩
set_option maxHeartbeats 2000000 in
theorem l1Ints_any (V V' : List Int) (A A' : Option Addr) (c c' : Nat) (w : World) (hV : V.length ≤ I63) (hV' : V'.length ≤ I63) (hr : Rd w w.heap.size A (V.map iv)) (hr' : Rd w w.heap.size A' (V'.map iv)) :
    Calls Try.prog 10 #[.slice A V.length c, .slice A' V'.length c'] w fun e w' => e = .returned (.bool (decide (V = V'))) ∧ Below w.heap.size w w' := by
  by_cases hne : V.length ≠ V'.length
  · have t1 : ((V.length : Int) != (V'.length : Int)) = true := bne_iff_ne.2 (by omega)
    have hf := hid (show decide (V = V') = false from decide_eq_false fun e => hne (by rw [e]))
    clear hne
    go_enter Try.func10, Try.ntmps10
    go_wp2_with fail
    go_ret
    exact ⟨by rw [hf.out]; rfl, Below.refl _ _⟩
  have heq : V'.length = V.length := Classical.byContradiction fun h => hne (fun e => h e.symm)
  have hl63 : V.length ≤ 9223372036854775807 := hV
  clear hne
  generalize hL : V.length = n at *
  rw [heq] at hV' ⊢
  have hcmp : ((n : Int) != (n : Int)) = false := bne_self_eq_false _
  replace heq := hid heq
  go_enter Try.func10, Try.ntmps10
  go_wp2_with fail
  go_loopw [5] (fun i wr => ∃ m : Nat, m ≤ n ∧ i = .int .i64 m ∧ V.take m = V'.take m ∧ Below w.heap.size w wr) (fun i _ => n - (Go.RowKit.intOf i).toNat)
  case atStart => exact ⟨0, Nat.zero_le _, rfl, by simp, Below.refl _ _⟩
  case round =>
    obtain ⟨m, hm, rfl, htk, hb⟩ := hrel
    by_cases hlt : m < n
    · have hm1 : m < V.length := by omega
      have hm2 : m < V'.length := by have := heq.out; omega
      obtain ⟨ad1, rfl, hc1⟩ := rd_i (hr.below hb) hm1
      obtain ⟨ad2, rfl, hc2⟩ := rd_i (hr'.below hb) hm2
      by_cases hq : V[m] = V'[m]
      · have n1 : (V[m] != V'[m]) = false := by rw [hq]; exact bne_self_eq_false _
        have hnx := hid (show V.take (m + 1) = V'.take (m + 1) by
          rw [List.take_succ_eq_append_getElem hm1, List.take_succ_eq_append_getElem hm2, htk, hq])
        replace htk := hid htk
        clear hq
        generalize V[m] = x at *
        generalize V'[m] = y at *
        go_wp2_with fail
        go_quiet (fail)
        go_wp2_with fail
        exact ⟨⟨m + 1, hlt, by go_num, hnx.out, bdr hb nq⟩, by simp [Go.RowKit.intOf]; omega⟩
      · have n1 : (V[m] != V'[m]) = true := bne_iff_ne.2 hq
        have hf := hid (show decide (V = V') = false from decide_eq_false fun e => by
          subst e
          exact hq rfl)
        replace htk := hid htk
        clear hq
        generalize V[m] = x at *
        generalize V'[m] = y at *
        go_wp2_with fail
        go_quiet (fail)
        go_wp2_with fail
        go_ret
        exact ⟨by rw [hf.out]; rfl, bdr hb nq⟩
    · obtain rfl : m = n := by omega
      have hf := hid (show decide (V = V') = true from decide_eq_true (by
        rw [List.take_of_length_le (by omega), List.take_of_length_le (by rw [heq.out]; exact Nat.le_refl _)] at htk; exact htk))
      clear htk
      go_wp2_with fail
      go_ret
      exact ⟨by rw [hf.out]; rfl, hb⟩
set_option maxHeartbeats 2000000 in
theorem slicesEq_any (V V' : List Int) (A A' : Option Addr) (c c' : Nat) (w : World) (hV : V.length ≤ I63) (hV' : V'.length ≤ I63) (hr : Rd w w.heap.size A (V.map iv)) (hr' : Rd w w.heap.size A' (V'.map iv)) :
    Calls Try.prog 12 #[.slice A V.length c, .slice A' V'.length c'] w fun e w' => e = .returned (.bool (decide (V = V'))) ∧ Below w.heap.size w w' := by
  by_cases hne : V.length ≠ V'.length
  · have t1 : ((V.length : Int) != (V'.length : Int)) = true := bne_iff_ne.2 (by omega)
    have hf := hid (show decide (V = V') = false from decide_eq_false fun e => hne (by rw [e]))
    clear hne
    go_enter Try.func12, Try.ntmps12
    go_wp2_with fail
    go_ret
    exact ⟨by rw [hf.out]; rfl, Below.refl _ _⟩
  have heq : V'.length = V.length := Classical.byContradiction fun h => hne (fun e => h e.symm)
  have hl63 : V.length ≤ 9223372036854775807 := hV
  clear hne
  generalize hL : V.length = n at *
  rw [heq] at hV' ⊢
  have hcmp : ((n : Int) != (n : Int)) = false := bne_self_eq_false _
  replace heq := hid heq
  go_enter Try.func12, Try.ntmps12
  go_wp2_with fail
  go_loopw [13] (fun i wr => ∃ m : Nat, m ≤ n ∧ i = .int .i64 m ∧ V.take m = V'.take m ∧ Below w.heap.size w wr) (fun i _ => n - (Go.RowKit.intOf i).toNat)
  case atStart => exact ⟨0, Nat.zero_le _, rfl, by simp, Below.refl _ _⟩
  case round =>
    obtain ⟨m, hm, rfl, htk, hb⟩ := hrel
    by_cases hlt : m < n
    · have hm1 : m < V.length := by omega
      have hm2 : m < V'.length := by have := heq.out; omega
      obtain ⟨ad1, rfl, hc1⟩ := rd_i (hr.below hb) hm1
      obtain ⟨ad2, rfl, hc2⟩ := rd_i (hr'.below hb) hm2
      by_cases hq : V[m] = V'[m]
      · have n1 : (V[m] != V'[m]) = false := by rw [hq]; exact bne_self_eq_false _
        have hnx := hid (show V.take (m + 1) = V'.take (m + 1) by
          rw [List.take_succ_eq_append_getElem hm1, List.take_succ_eq_append_getElem hm2, htk, hq])
        replace htk := hid htk
        clear hq
        generalize V[m] = x at *
        generalize V'[m] = y at *
        go_wp2_with fail
        go_quiet (fail)
        go_wp2_with fail
        exact ⟨⟨m + 1, hlt, by go_num, hnx.out, bdr hb nq⟩, by simp [Go.RowKit.intOf]; omega⟩
      · have n1 : (V[m] != V'[m]) = true := bne_iff_ne.2 hq
        have hf := hid (show decide (V = V') = false from decide_eq_false fun e => by
          subst e
          exact hq rfl)
        replace htk := hid htk
        clear hq
        generalize V[m] = x at *
        generalize V'[m] = y at *
        go_wp2_with fail
        go_quiet (fail)
        go_wp2_with fail
        go_ret
        exact ⟨by rw [hf.out]; rfl, bdr hb nq⟩
    · obtain rfl : m = n := by omega
      have hf := hid (show decide (V = V') = true from decide_eq_true (by
        rw [List.take_of_length_le (by omega), List.take_of_length_le (by rw [heq.out]; exact Nat.le_refl _)] at htk; exact htk))
      clear htk
      go_wp2_with fail
      go_ret
      exact ⟨by rw [hf.out]; rfl, hb⟩
/-- whether two outcomes are equal -/
def eqOB (o p : Oc) : Bool := (o.st == p.st) && (decide (o.sg = p.sg) && (decide (o.ou = p.ou) && (o.co == p.co)))
theorem eqOB_self (o : Oc) : eqOB o o = true := by unfold eqOB; simp
set_option maxHeartbeats 2000000 in
theorem sEqO (o p : Oc) (v v' : Value) (w : World) (h : OcAt w w.heap.size v o) (h' : OcAt w w.heap.size v' p) :
    Calls Try.prog 5 #[v, v'] w fun e w' => e = .returned (.bool (eqOB o p)) ∧ Below w.heap.size w w' := by
  obtain ⟨A, c, A', c', rfl, r1, l1, r2, l2⟩ := h
  obtain ⟨D, d, D', d', rfl, r3, l3, r4, l4⟩ := h'
  obtain ⟨st, sg, ou, co⟩ := o
  obtain ⟨su, tg, pu, cp⟩ := p
  dsimp only at *
  have b1 := bxb w (.cells #[.int .i64 st, .slice A sg.length c, .slice A' ou.length c', .int .i64 co] 27)
  have z1 := size_alloc' w (.cells #[.int .i64 st, .slice A sg.length c, .slice A' ou.length c', .int .i64 co] 27)
  have b2 := b1.trans ((bxb (w.alloc (.cells #[.int .i64 st, .slice A sg.length c, .slice A' ou.length c', .int .i64 co] 27)) (.cells #[.int .i64 su, .slice D tg.length d, .slice D' pu.length d', .int .i64 cp] 27)).mono (by omega))
  have x1 := (box_blkO w st A sg.length c A' ou.length c' co 27).alloc (.cells #[.int .i64 su, .slice D tg.length d, .slice D' pu.length d', .int .i64 cp] 27)
  have x2 := box_blkO (w.alloc (.cells #[.int .i64 st, .slice A sg.length c, .slice A' ou.length c', .int .i64 co] 27)) su D tg.length d D' pu.length d' cp 27
  rw [z1] at x2
  have cS := hid (fun wx (hb : Below w.heap.size w wx) => l1Ints_any sg tg A D c d wx l1 l3 ((r1.below hb).more hb.size) ((r3.below hb).more hb.size))
  have cO := hid (fun wx (hb : Below w.heap.size w wx) => l1Ints_any ou pu A' D' c' d' wx l2 l4 ((r2.below hb).more hb.size) ((r4.below hb).more hb.size))
  have hR : eqOB ⟨st, sg, ou, co⟩ ⟨su, tg, pu, cp⟩ = ((st == su) && (decide (sg = tg) && (decide (ou = pu) && (co == cp)))) := rfl
  generalize eqOB ⟨st, sg, ou, co⟩ ⟨su, tg, pu, cp⟩ = R at *
  replace b2 := hid b2
  replace x1 := hid x1
  replace x2 := hid x2
  clear r1 r2 r3 r4 l1 l2 l3 l4 b1 z1
  generalize hm1 : (st == su) = q1 at *
  cases q1 with
  | false =>
    rw [Bool.false_and] at hR
    replace hR := hid hR
    clear cS cO
    go_enter Try.func5, Try.ntmps5
    obtain ⟨k0, k1, k2, k3⟩ := fourO x1.out
    obtain ⟨j0, j1, j2, j3⟩ := fourO x2.out
    go_wp2_with fail
    go_ret
    exact ⟨by rw [hR.out]; rfl, b2.out⟩
  | true =>
    rw [Bool.true_and] at hR
    generalize decide (sg = tg) = q2 at *
    go_enter Try.func5, Try.ntmps5
    obtain ⟨k0, k1, k2, k3⟩ := fourO x1.out
    obtain ⟨j0, j1, j2, j3⟩ := fourO x2.out
    replace hR := hid hR
    go_wp2_with fail
    refine (cS.out _ b2.out).mono ?_
    rintro e3 w3 ⟨rfl, hb⟩
    have b3 := hid (b2.out.trans (hb.mono b2.out.size))
    have y1 := hid (x1.out.below hb x1.out.lt)
    have y2 := hid (x2.out.below hb x2.out.lt)
    clear hb k0 k1 k2 k3 j0 j1 j2 j3 x1 x2 b2 cS
    obtain ⟨k0, k1, k2, k3⟩ := fourO y1.out
    obtain ⟨j0, j1, j2, j3⟩ := fourO y2.out
    cases q2 with
    | false =>
      have hR := hid (hR.out.trans (Bool.false_and _))
      go_wp2_with fail
      go_ret
      exact ⟨by rw [hR.out]; rfl, b3.out⟩
    | true =>
      have hR := hid (hR.out.trans (Bool.true_and _))
      generalize decide (ou = pu) = q3 at *
      go_wp2_with fail
      refine (cO.out _ b3.out).mono ?_
      rintro e4 w4 ⟨rfl, hb⟩
      have b4 := hid (b3.out.trans (hb.mono b3.out.size))
      have y3 := hid (y1.out.below hb y1.out.lt)
      have y4 := hid (y2.out.below hb y2.out.lt)
      clear hb k0 k1 k2 k3 j0 j1 j2 j3 y1 y2 b3 cO
      obtain ⟨k0, k1, k2, k3⟩ := fourO y3.out
      obtain ⟨j0, j1, j2, j3⟩ := fourO y4.out
      cases q3 with
      | false =>
        have hR := hid (hR.out.trans (Bool.false_and _))
        go_wp2_with fail
        go_ret
        exact ⟨by rw [hR.out]; rfl, b4.out⟩
      | true =>
        have hR := hid (hR.out.trans (Bool.true_and _))
        go_wp2_with fail
        go_ret
        exact ⟨by rw [hR.out]; rfl, b4.out⟩
set_option maxHeartbeats 2000000 in
theorem iEqO (o p : Oc) (v v' : Value) (w : World) (h : OcAt w w.heap.size v o) (h' : OcAt w w.heap.size v' p) :
    Calls Try.prog 7 #[v, v'] w fun e w' => e = .returned (.bool (eqOB o p)) ∧ Below w.heap.size w w' := by
  obtain ⟨A, c, A', c', rfl, r1, l1, r2, l2⟩ := h
  obtain ⟨D, d, D', d', rfl, r3, l3, r4, l4⟩ := h'
  obtain ⟨st, sg, ou, co⟩ := o
  obtain ⟨su, tg, pu, cp⟩ := p
  dsimp only at *
  have b1 := bxb w (.cells #[.int .i64 st, .slice A sg.length c, .slice A' ou.length c', .int .i64 co] 27)
  have z1 := size_alloc' w (.cells #[.int .i64 st, .slice A sg.length c, .slice A' ou.length c', .int .i64 co] 27)
  have b2 := b1.trans ((bxb (w.alloc (.cells #[.int .i64 st, .slice A sg.length c, .slice A' ou.length c', .int .i64 co] 27)) (.cells #[.int .i64 su, .slice D tg.length d, .slice D' pu.length d', .int .i64 cp] 27)).mono (by omega))
  have x1 := (box_blkO w st A sg.length c A' ou.length c' co 27).alloc (.cells #[.int .i64 su, .slice D tg.length d, .slice D' pu.length d', .int .i64 cp] 27)
  have x2 := box_blkO (w.alloc (.cells #[.int .i64 st, .slice A sg.length c, .slice A' ou.length c', .int .i64 co] 27)) su D tg.length d D' pu.length d' cp 27
  rw [z1] at x2
  have cS := hid (fun wx (hb : Below w.heap.size w wx) => slicesEq_any sg tg A D c d wx l1 l3 ((r1.below hb).more hb.size) ((r3.below hb).more hb.size))
  have cO := hid (fun wx (hb : Below w.heap.size w wx) => slicesEq_any ou pu A' D' c' d' wx l2 l4 ((r2.below hb).more hb.size) ((r4.below hb).more hb.size))
  have hR : eqOB ⟨st, sg, ou, co⟩ ⟨su, tg, pu, cp⟩ = ((st == su) && (decide (sg = tg) && (decide (ou = pu) && (co == cp)))) := rfl
  generalize eqOB ⟨st, sg, ou, co⟩ ⟨su, tg, pu, cp⟩ = R at *
  replace b2 := hid b2
  replace x1 := hid x1
  replace x2 := hid x2
  clear r1 r2 r3 r4 l1 l2 l3 l4 b1 z1
  generalize hm1 : (st == su) = q1 at *
  cases q1 with
  | false =>
    rw [Bool.false_and] at hR
    replace hR := hid hR
    clear cS cO
    go_enter Try.func7, Try.ntmps7
    obtain ⟨k0, k1, k2, k3⟩ := fourO x1.out
    obtain ⟨j0, j1, j2, j3⟩ := fourO x2.out
    go_wp2_with fail
    go_ret
    exact ⟨by rw [hR.out]; rfl, b2.out⟩
  | true =>
    rw [Bool.true_and] at hR
    generalize decide (sg = tg) = q2 at *
    go_enter Try.func7, Try.ntmps7
    obtain ⟨k0, k1, k2, k3⟩ := fourO x1.out
    obtain ⟨j0, j1, j2, j3⟩ := fourO x2.out
    replace hR := hid hR
    go_wp2_with fail
    refine (cS.out _ b2.out).mono ?_
    rintro e3 w3 ⟨rfl, hb⟩
    have b3 := hid (b2.out.trans (hb.mono b2.out.size))
    have y1 := hid (x1.out.below hb x1.out.lt)
    have y2 := hid (x2.out.below hb x2.out.lt)
    clear hb k0 k1 k2 k3 j0 j1 j2 j3 x1 x2 b2 cS
    obtain ⟨k0, k1, k2, k3⟩ := fourO y1.out
    obtain ⟨j0, j1, j2, j3⟩ := fourO y2.out
    cases q2 with
    | false =>
      have hR := hid (hR.out.trans (Bool.false_and _))
      go_wp2_with fail
      go_ret
      exact ⟨by rw [hR.out]; rfl, b3.out⟩
    | true =>
      have hR := hid (hR.out.trans (Bool.true_and _))
      generalize decide (ou = pu) = q3 at *
      go_wp2_with fail
      refine (cO.out _ b3.out).mono ?_
      rintro e4 w4 ⟨rfl, hb⟩
      have b4 := hid (b3.out.trans (hb.mono b3.out.size))
      have y3 := hid (y1.out.below hb y1.out.lt)
      have y4 := hid (y2.out.below hb y2.out.lt)
      clear hb k0 k1 k2 k3 j0 j1 j2 j3 y1 y2 b3 cO
      obtain ⟨k0, k1, k2, k3⟩ := fourO y3.out
      obtain ⟨j0, j1, j2, j3⟩ := fourO y4.out
      cases q3 with
      | false =>
        have hR := hid (hR.out.trans (Bool.false_and _))
        go_wp2_with fail
        go_ret
        exact ⟨by rw [hR.out]; rfl, b4.out⟩
      | true =>
        have hR := hid (hR.out.trans (Bool.true_and _))
        go_wp2_with fail
        go_ret
        exact ⟨by rw [hR.out]; rfl, b4.out⟩
theorem sEqO_own {lo lo' hi hi' : Nat} {v v' : Value} {o p : Oc} (w : World) (h : OwnOc lo hi w v o) (h' : OwnOc lo' hi' w v' p) :
    Calls Try.prog 5 #[v, v'] w fun e w' => e = .returned (.bool (eqOB o p)) ∧ Below w.heap.size w w' := sEqO o p v v' w h.at_ h'.at_
theorem iEqO_own {lo lo' hi hi' : Nat} {v v' : Value} {o p : Oc} (w : World) (h : OwnOc lo hi w v o) (h' : OwnOc lo' hi' w v' p) :
    Calls Try.prog 7 #[v, v'] w fun e w' => e = .returned (.bool (eqOB o p)) ∧ Below w.heap.size w w' := iEqO o p v v' w h.at_ h'.at_
end Go.Proofs.Ytnmomlaimffonaa.Oc
