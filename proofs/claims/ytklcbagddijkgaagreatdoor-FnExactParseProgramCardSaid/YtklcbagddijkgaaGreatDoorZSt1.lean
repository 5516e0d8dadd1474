/- Statements: their fields; measured. -/
import Derived.Test.YtklcbagddijkgaaGreatDoorZGd
import Derived.Test.YtklcbagddijkgaaGreatDoorZTr6
import Derived.Test.YtklcbagddijkgaaGreatDoorZMp
import Derived.Test.YtklcbagddijkgaaGreatDoorZTr
set_option maxRecDepth 100000
namespace Go.Proofs.YtklcbagddijkgaaGreatDoor.Gd
open Go.RowKit Go.Lib Go.Sort Go.Proofs.YtklcbagddijkgaaGreatDoor.Com Go.Proofs.YtklcbagddijkgaaGreatDoor.Mem Go.Proofs.YtklcbagddijkgaaGreatDoor.Os Go.Proofs.YtklcbagddijkgaaGreatDoor.Tr

/-- the fields of a statement -/
inductive IsSt : List D → Prop where
  | mk {k : Int} {s : List UInt8} {e : T} {bs es : List (List D)} (h1 : ∀ d ∈ bs, IsSt d) (h2 : ∀ d ∈ es, IsSt d) : IsSt [.i k, .s s, .x e, .sl 1 bs, .sl 1 es]
/-- a statement's cells -/
abbrev sc (k : Int) (s : List UInt8) (ek en : Int) (es : List UInt8) (A : Option Addr) (l c : Nat) (B : Option Addr) (lb cb : Nat) (C : Option Addr) (lc cc : Nat) : List Value :=
  [.int .i64 k, sv s, .int .i64 ek, .int .i64 en, sv es, .slice A l c, .slice B lb cb, .slice C lc cc]
theorem add_pos (a : Addr) (i : Nat) (h : 0 < i) : a.add i = ⟨a.block, a.off + i, none⟩ := by unfold Addr.add; rw [if_neg (by omega)]
theorem ld8 {w : World} {a : Addr} {c0 c1 c2 c3 c4 c5 c6 c7 : Value} (h : LdN w a [c0, c1, c2, c3, c4, c5, c6, c7]) :
    w.cell? a = some c0 ∧ w.cell? ⟨a.block, a.off + 1, none⟩ = some c1 ∧ w.cell? ⟨a.block, a.off + 2, none⟩ = some c2 ∧ w.cell? ⟨a.block, a.off + 3, none⟩ = some c3 ∧ w.cell? ⟨a.block, a.off + 4, none⟩ = some c4 ∧ w.cell? ⟨a.block, a.off + 5, none⟩ = some c5 ∧ w.cell? ⟨a.block, a.off + 6, none⟩ = some c6 ∧ w.cell? ⟨a.block, a.off + 7, none⟩ = some c7 := by
  have g : ∀ i u, 0 < i → [c0, c1, c2, c3, c4, c5, c6, c7][i]? = some u → w.cell? ⟨a.block, a.off + i, none⟩ = some u := fun i u hi hu => by rw [← add_pos a i hi]; exact h i u hu
  exact ⟨h 0 c0 rfl, g 1 c1 (by omega) rfl, g 2 c2 (by omega) rfl, g 3 c3 (by omega) rfl, g 4 c4 (by omega) rfl, g 5 c5 (by omega) rfl, g 6 c6 (by omega) rfl, g 7 c7 (by omega) rfl⟩
theorem eight {w : World} {g ty : Nat} {c0 c1 c2 c3 c4 c5 c6 c7 : Value} (h : Blk w g ty [c0, c1, c2, c3, c4, c5, c6, c7]) :
    w.cell? ⟨g, 0, none⟩ = some c0 ∧ w.cell? ⟨g, 1, none⟩ = some c1 ∧ w.cell? ⟨g, 2, none⟩ = some c2 ∧ w.cell? ⟨g, 3, none⟩ = some c3 ∧ w.cell? ⟨g, 4, none⟩ = some c4 ∧ w.cell? ⟨g, 5, none⟩ = some c5 ∧ w.cell? ⟨g, 6, none⟩ = some c6 ∧ w.cell? ⟨g, 7, none⟩ = some c7 :=
  ⟨h.cell 0, h.cell 1, h.cell 2, h.cell 3, h.cell 4, h.cell 5, h.cell 6, h.cell 7⟩
theorem box8 {w : World} {o : Obj} : Below w.heap.size w (w.alloc o) := (Below.refl _ _).alloc (Nat.le_refl _) _
/-- a statement's cells, and what they lead to -/
theorem st_inv {w : World} {B : Nat} {cs : List Value} {k : Int} {s : List UInt8} {e : T} {bs es : List (List D)} (h : Rd8 w B cs [.i k, .s s, .x e, .sl 1 bs, .sl 1 es]) :
    ∃ ek en en' A l c Bb cb C cc rb rc, cs = sc k s ek en en' A l c Bb bs.length cb C es.length cc ∧ s.length ≤ maxI ∧ Ex w B (nv ek en en' A l c) e ∧ Row w B 1 Bb bs rb ∧ bs.length ≤ maxI ∧ Row w B 1 C es rc ∧ es.length ≤ maxI := by
  obtain ⟨r1, rfl, h1⟩ := h.i_
  obtain ⟨r2, rfl, hs, h2⟩ := h1.s_
  obtain ⟨ek, en, en', A, l, c, r3, rfl, he, h3⟩ := h2.x_
  obtain ⟨Bb, cb, r4, rb, rfl, hb, hlb, h4⟩ := h3.sl_
  obtain ⟨C, cc, r5, rc, rfl, hc, hlc, h5⟩ := h4.sl_
  obtain rfl := h5.nil_
  exact ⟨ek, en, en', A, l, c, Bb, cb, C, cc, rb, rc, rfl, hs, he, hb, hlb, hc, hlc⟩
end Go.Proofs.YtklcbagddijkgaaGreatDoor.Gd

/- Statements as trees; what is asked of them. -/
set_option maxRecDepth 100000
namespace Go.Proofs.YtklcbagddijkgaaGreatDoor.Gd
open Go.RowKit Go.Lib Go.Proofs.YtklcbagddijkgaaGreatDoor.Com Go.Proofs.YtklcbagddijkgaaGreatDoor.Mem Go.Proofs.YtklcbagddijkgaaGreatDoor.Os Go.Proofs.YtklcbagddijkgaaGreatDoor.Tr

/-- a statement -/
inductive St where
  | mk (k : Int) (s : List UInt8) (e : T) (bs es : List St)
theorem St.ind {P : St → Prop} (h : ∀ k s e bs es, (∀ a ∈ bs, P a) → (∀ a ∈ es, P a) → P (.mk k s e bs es)) : ∀ t, P t
  | .mk k s e bs es => h k s e bs es
      (fun a ha => by have := List.sizeOf_lt_of_mem ha; exact St.ind h a)
      (fun a ha => by have := List.sizeOf_lt_of_mem ha; exact St.ind h a)
termination_by t => SizeOf.sizeOf t
decreasing_by all_goals (simp only [St.mk.sizeOf_spec]; omega)
/-- its fields -/
def St.d : St → List D
  | .mk k s e bs es => [.i k, .s s, .x e, .sl 1 (bs.attach.map fun ⟨a, _⟩ => a.d), .sl 1 (es.attach.map fun ⟨a, _⟩ => a.d)]
termination_by t => SizeOf.sizeOf t
decreasing_by all_goals (have := List.sizeOf_lt_of_mem ‹_›; simp only [St.mk.sizeOf_spec]; omega)
abbrev dl (L : List St) : List (List D) := L.map St.d
theorem St.d_mk (k : Int) (s : List UInt8) (e : T) (bs es : List St) : (St.mk k s e bs es).d = [.i k, .s s, .x e, .sl 1 (dl bs), .sl 1 (dl es)] := by
  rw [St.d]; simp
theorem St.is (t : St) : IsSt t.d := by
  induction t using St.ind with
  | h k s e bs es h1 h2 =>
    rw [St.d_mk]
    refine .mk (fun d hd => ?_) (fun d hd => ?_)
    · obtain ⟨a, ha, rfl⟩ := List.mem_map.1 hd
      exact h1 a ha
    · obtain ⟨a, ha, rfl⟩ := List.mem_map.1 hd
      exact h2 a ha
theorem dl_is (L : List St) : ∀ d ∈ dl L, IsSt d := fun d hd => by
  obtain ⟨a, _, rfl⟩ := List.mem_map.1 hd
  exact a.is
mutual
/-- how many statements -/
def cntSt : St → Nat
  | .mk _ _ _ bs es => 1 + cntL bs + cntL es
def cntL : List St → Nat
  | [] => 0
  | a :: r => cntSt a + cntL r
end
theorem cntL_take {L : List St} {m : Nat} (h : m < L.length) : cntL (L.take (m + 1)) = cntL (L.take m) + cntSt L[m] := by
  induction L generalizing m with
  | nil => simp at h
  | cons e r ih =>
    cases m with
    | zero => simp [cntL]
    | succ m =>
      simp only [List.take_succ_cons, cntL, List.getElem_cons_succ]
      rw [ih (by simpa using h)]; omega
theorem cntL_le (L : List St) (m : Nat) : cntL (L.take m) ≤ cntL L := by
  induction L generalizing m with
  | nil => simp
  | cons e r ih =>
    cases m with
    | zero => simp [cntL]
    | succ m => simp only [List.take_succ_cons, cntL]; have := ih m; omega
theorem cntSt_mem {L : List St} {a : St} (h : a ∈ L) : cntSt a ≤ cntL L := by
  induction L with
  | nil => cases h
  | cons b r ih =>
    simp only [cntL]
    rcases List.mem_cons.1 h with rfl | h
    · omega
    · have := ih h; omega
theorem len_cntL (L : List St) : L.length ≤ cntL L := by
  induction L with
  | nil => simp
  | cons b r ih =>
    obtain ⟨k, s, e, bs, es⟩ := b
    simp only [cntL, cntSt, List.length_cons]; omega
/-- one statement of a row -/
theorem Row.st {w : World} {B : Nat} {A : Option Addr} {L : List St} {rows : Nat → List Value} (h : Row w B 1 A (dl L) rows) {m : Nat} (hm : m < L.length) :
    ∃ ad k s e bs es ek en en' A1 l1 c1 Bb cb C cc rb rc, A = some ad ∧ ad.block < B ∧ L[m] = .mk k s e bs es ∧
      LdN w (ad.add (m * 8)) (sc k s ek en en' A1 l1 c1 Bb bs.length cb C es.length cc) ∧ s.length ≤ maxI ∧ Ex w B (nv ek en en' A1 l1 c1) e ∧ Row w B 1 Bb (dl bs) rb ∧ bs.length ≤ maxI ∧ Row w B 1 C (dl es) rc ∧ es.length ≤ maxI := by
  obtain ⟨_, ad, hA, hB, hld⟩ := h.cell m (by simpa using hm)
  have hk := h.kid m L[m].d (by simp [hm])
  generalize hT : L[m] = t at *
  obtain ⟨k, s, e, bs, es⟩ := t
  rw [St.d_mk] at hk
  obtain ⟨ek, en, en', A1, l1, c1, Bb, cb, C, cc, rb, rc, e8, hs, hx, hb, hlb, hc, hlc⟩ := st_inv hk
  rw [e8] at hld
  simp only [List.length_map] at hld hlb hlc
  exact ⟨ad, k, s, e, bs, es, ek, en, en', A1, l1, c1, Bb, cb, C, cc, rb, rc, hA, hB, rfl, hld, hs, hx, hb, hlb, hc, hlc⟩
end Go.Proofs.YtklcbagddijkgaaGreatDoor.Gd

/- Statements that the call itself has made: toStmt, toStmtS. -/
set_option maxRecDepth 100000
namespace Go.Proofs.YtklcbagddijkgaaGreatDoor.Gd
open Go.RowKit Go.Lib Go.Sort Go.Proofs.YtklcbagddijkgaaGreatDoor.Com Go.Proofs.YtklcbagddijkgaaGreatDoor.Mem Go.Proofs.YtklcbagddijkgaaGreatDoor.Os Go.Proofs.YtklcbagddijkgaaGreatDoor.Tr

abbrev SI : TypeId := 79
theorem zeroSt : (Tryz.prog.info? SI).map (fun i => (i.zero, i.size, i.bytes)) = some (some (.agg (sc 0 [] 0 0 [] none 0 0 none 0 0 none 0 0).toArray), 8, 128) := by kernel_rfl
/-- fields put before others, each in blocks of its own -/
theorem OwnD.app_sl {w : World} {R R1 R2 : Nat → Prop} {v : Value} {n : Nat} {l : List (List D)} {cs : List Value} {ds : List D} (h1 : OwnD w R1 [v] [.sl n l]) (h2 : OwnD w R2 cs ds) (hd : ∀ g, R1 g → R g ∧ ¬ R2 g) (hs : ∀ g, R2 g → R g) : OwnD w R (v :: cs) (.sl n l :: ds) := by
  cases h1 with
  | sl rows Rs hl hc h0 hA hk hR' hd' h2' r =>
    refine .sl (R2 := R2) rows Rs hl hc h0 (fun ad e => ?_) hk (fun j g hj hg => hd g (hR' j g hj hg).1) hd' hs h2
    obtain ⟨g, cs0, e1, h3, h4, h5, h6, h7⟩ := hA ad e
    exact ⟨g, cs0, e1, (hd g h3).1, (hd g h3).2, h5, h6, h7⟩
theorem own_st8 {w : World} {R : Nat → Prop} {cs : List Value} {k : Int} {s : List UInt8} {e : T} {bs es : List (List D)} (h : OwnD w R cs [.i k, .s s, .x e, .sl 1 bs, .sl 1 es]) :
    ∃ ek en en' A l c Bb cb C cc, cs = sc k s ek en en' A l c Bb bs.length cb C es.length cc := by
  obtain ⟨ek, en, en', A, l, c, Bb, cb, C, cc, rb, rc, e8, _⟩ := st_inv h.rd
  exact ⟨ek, en, en', A, l, c, Bb, cb, C, cc, e8⟩
end Go.Proofs.YtklcbagddijkgaaGreatDoor.Gd

/- Statements compared by the laws. -/
set_option maxRecDepth 100000
namespace Go.Proofs.YtklcbagddijkgaaGreatDoor.Gd
open Go.RowKit Go.Lib Go.Sort Go.Proofs.YtklcbagddijkgaaGreatDoor.Com Go.Proofs.YtklcbagddijkgaaGreatDoor.Mem Go.Proofs.YtklcbagddijkgaaGreatDoor.Os Go.Proofs.YtklcbagddijkgaaGreatDoor.Tr

/-- what eqStmt promises: true, of statements that read as the same -/
def EqSt (ds : List D) : Prop := ∀ (cs cs' : List Value) (w : World), Rd8 w w.heap.size cs ds → Rd8 w w.heap.size cs' ds → Calls Tryz.prog 122 #[.agg cs.toArray, .agg cs'.toArray] w fun e w' => e = .returned (.bool true) ∧ Below w.heap.size w w'
set_option maxHeartbeats 4000000 in
theorem eqStS (L : List (List D)) (hst : ∀ d ∈ L, IsSt d) (ih : ∀ d ∈ L, EqSt d) (A A' : Option Addr) (c c' : Nat) (rows rows' : Nat → List Value) (w : World) (hk : Row w w.heap.size 1 A L rows) (hk' : Row w w.heap.size 1 A' L rows') (hl : L.length ≤ maxI) :
    Calls Tryz.prog 76 #[.slice A L.length c, .slice A' L.length c'] w fun e w' => e = .returned (.bool true) ∧ Below w.heap.size w w' := by
  have hl : L.length ≤ 9223372036854775807 := hl
  generalize hL : L.length = N at *
  have hcmp : ((N : Int) != (N : Int)) = false := bne_self_eq_false _
  go_enter Tryz.func76, Tryz.ntmps76
  go_wp2_with fail
  go_loopw [5] (fun i wr => ∃ m : Nat, m ≤ N ∧ i = .int .i64 m ∧ Below w.heap.size w wr) (fun i _ => N - (Go.RowKit.intOf i).toNat)
  case atStart => exact ⟨0, Nat.zero_le _, rfl, Below.refl _ _⟩
  case round =>
    obtain ⟨m, hm, rfl, hb⟩ := hrel
    by_cases hlt : m < N
    · have hkr := hk.go hb
      have hkr' := hk'.go hb
      obtain ⟨_, ad, rfl, _, hld⟩ := hkr.cell m (by omega)
      have hld : LdN wr (ad.add (m * 8)) (rows m) := hld
      obtain ⟨_, ad', rfl, _, hld'⟩ := hkr'.cell m (by omega)
      have hld' : LdN wr (ad'.add (m * 8)) (rows' m) := hld'
      have hu : L[m]? = some L[m] := List.getElem?_eq_getElem (by omega)
      have x1 := hkr.kid m _ hu
      have x2 := hkr'.kid m _ hu
      have hih := ih L[m] (List.getElem_mem _)
      have hI := hst L[m] (List.getElem_mem _)
      generalize L[m] = ds at *
      cases hI with
      | @mk k s e bs es g1 g2 =>
        obtain ⟨ek, en, en', A1, l1, c1, Bb, cb, C1, cc, rb, rc, e1, -, -, -, -, -, -⟩ := st_inv x1
        obtain ⟨fk, fn, fn', A2, l2, c2, B2, cb2, C2, cc2, rb2, rc2, e2, -, -, -, -, -, -⟩ := st_inv x2
        rw [e1] at x1 hld
        rw [e2] at x2 hld'
        obtain ⟨k0, k1, k2, k3, k4, k5, k6, k7⟩ := ld8 hld
        obtain ⟨j0, j1, j2, j3, j4, j5, j6, j7⟩ := ld8 hld'
        have cE := hid (fun (d : Nat) (os : Array Obj) => Calls.regrown_of (d := d) (os := os) (hih _ _ (grow (redrawn wr d) os) (x1.go (below_regrown wr d os)) (x2.go (below_regrown wr d os))))
        replace k0 := cell_regrown k0
        replace k1 := cell_regrown k1
        replace k2 := cell_regrown k2
        replace k3 := cell_regrown k3
        replace k4 := cell_regrown k4
        replace k5 := cell_regrown k5
        replace k6 := cell_regrown k6
        replace k7 := cell_regrown k7
        replace j0 := cell_regrown j0
        replace j1 := cell_regrown j1
        replace j2 := cell_regrown j2
        replace j3 := cell_regrown j3
        replace j4 := cell_regrown j4
        replace j5 := cell_regrown j5
        replace j6 := cell_regrown j6
        replace j7 := cell_regrown j7
        replace hb := hid hb
        clear hkr hkr' x1 x2 hu e1 e2 hih hld hld' g1 g2
        go_wp2_with fail
        refine wp_region_quiet_below (by kernel_rfl) (by kernel_rfl) ?_
        repeat (quiet_step (exact cE.out _ _))
        refine wpQuiet_nil ?_
        intro _ hw'
        obtain ⟨⟨dq, osq⟩, hw''⟩ := hw'
        subst hw''
        have hq := hid (hb.out.trans ((below_regrown wr dq osq).mono hb.out.size))
        clear k0 k1 k2 k3 k4 k5 k6 k7 j0 j1 j2 j3 j4 j5 j6 j7 cE hb
        generalize grow (redrawn wr dq) osq = wq at *
        go_wp2_with fail
        exact ⟨⟨m + 1, hlt, by go_num, hq.out⟩, by simp [Go.RowKit.intOf]; omega⟩
    · obtain rfl : m = N := by omega
      go_wp2_with fail
      go_ret
      exact ⟨rfl, hb⟩
set_option maxHeartbeats 4000000 in
theorem eqSt {ds : List D} (h : IsSt ds) : EqSt ds := by
  induction h with
  | @mk k s e bs es hb1 hb2 ih1 ih2 =>
    intro cs cs' w hv hv'
    obtain ⟨ek, en, en', A, l, c, Bb, cb, C, cc, rb, rc, rfl, hs, hx, hrb, hlb, hrc, hlc⟩ := st_inv hv
    obtain ⟨fk, fn, fn', A', l', c', Bb', cb', C', cc', rb', rc', rfl, hs', hx', hrb', hlb', hrc', hlc'⟩ := st_inv hv'
    have n1 : (k != k) = false := bne_self_eq_false _
    have n3 : (s != s) = false := bne_self_eq_false _
    have b1 : Below w.heap.size w (w.alloc (.cells (sc k s ek en en' A l c Bb bs.length cb C es.length cc).toArray SI)) := box8
    have z1 := size_alloc' w (.cells (sc k s ek en en' A l c Bb bs.length cb C es.length cc).toArray SI)
    have b2 := b1.trans ((box8 (w := w.alloc (.cells (sc k s ek en en' A l c Bb bs.length cb C es.length cc).toArray SI)) (o := .cells (sc k s fk fn fn' A' l' c' Bb' bs.length cb' C' es.length cc').toArray SI)).mono (by omega))
    have x1 := (Blk.new w SI (sc k s ek en en' A l c Bb bs.length cb C es.length cc)).alloc (.cells (sc k s fk fn fn' A' l' c' Bb' bs.length cb' C' es.length cc').toArray SI)
    have x2 := Blk.new (w.alloc (.cells (sc k s ek en en' A l c Bb bs.length cb C es.length cc).toArray SI)) SI (sc k s fk fn fn' A' l' c' Bb' bs.length cb' C' es.length cc')
    rw [z1] at x2
    have cE := hid (fun wx (hb : Below w.heap.size w wx) => eqE e _ _ wx (hx.go hb) (hx'.go hb))
    have cB := hid (fun wx (hb : Below w.heap.size w wx) => eqStS bs hb1 ih1 Bb Bb' cb cb' rb rb' wx (hrb.go hb) (hrb'.go hb) hlb)
    have cC := hid (fun wx (hb : Below w.heap.size w wx) => eqStS es hb2 ih2 C C' cc cc' rc rc' wx (hrc.go hb) (hrc'.go hb) hlc)
    replace b2 := hid b2
    replace x1 := hid x1
    replace x2 := hid x2
    clear hv hv' hx hx' hrb hrb' hrc hrc' hlb hlb' hlc hlc' ih1 ih2 hb1 hb2 b1 z1
    go_enter Tryz.func122, Tryz.ntmps122
    obtain ⟨k0, k1, k2, k3, k4, k5, k6, k7⟩ := eight x1.out
    obtain ⟨j0, j1, j2, j3, j4, j5, j6, j7⟩ := eight x2.out
    go_wp2_with fail
    refine (cE.out _ b2.out).mono ?_
    rintro e3 w3 ⟨rfl, hb⟩
    have b3 := hid (b2.out.trans (hb.mono b2.out.size))
    have y1 := hid (x1.out.below hb x1.out.lt)
    have y2 := hid (x2.out.below hb x2.out.lt)
    clear hb k0 k1 k2 k3 k4 k5 k6 k7 j0 j1 j2 j3 j4 j5 j6 j7 x1 x2 b2
    obtain ⟨k0, k1, k2, k3, k4, k5, k6, k7⟩ := eight y1.out
    obtain ⟨j0, j1, j2, j3, j4, j5, j6, j7⟩ := eight y2.out
    go_wp2_with fail
    refine (cB.out _ b3.out).mono ?_
    rintro e4 w4 ⟨rfl, hb⟩
    have b4 := hid (b3.out.trans (hb.mono b3.out.size))
    have x1 := hid (y1.out.below hb y1.out.lt)
    have x2 := hid (y2.out.below hb y2.out.lt)
    clear hb k0 k1 k2 k3 k4 k5 k6 k7 j0 j1 j2 j3 j4 j5 j6 j7 y1 y2 b3
    obtain ⟨k0, k1, k2, k3, k4, k5, k6, k7⟩ := eight x1.out
    obtain ⟨j0, j1, j2, j3, j4, j5, j6, j7⟩ := eight x2.out
    go_wp2_with fail
    refine (cC.out _ b4.out).mono ?_
    rintro e5 w5 ⟨rfl, hb⟩
    have b5 := hid (b4.out.trans (hb.mono b4.out.size))
    clear hb k0 k1 k2 k3 k4 k5 k6 k7 j0 j1 j2 j3 j4 j5 j6 j7 x1 x2 b4
    go_wp2_with fail
    go_ret
    exact ⟨rfl, b5.out⟩
end Go.Proofs.YtklcbagddijkgaaGreatDoor.Gd

/- Programs: their fields; measured, copied and compared by the laws. -/
set_option maxRecDepth 100000
namespace Go.Proofs.YtklcbagddijkgaaGreatDoor.Gd
open Go.RowKit Go.Lib Go.Sort Go.Proofs.YtklcbagddijkgaaGreatDoor.Com Go.Proofs.YtklcbagddijkgaaGreatDoor.Mem Go.Proofs.YtklcbagddijkgaaGreatDoor.Os Go.Proofs.YtklcbagddijkgaaGreatDoor.Tr

/-- a program -/
structure Pg where
  vs : List (List UInt8)
  body : List St
/-- its fields -/
def Pg.d (p : Pg) : List D := [.ss p.vs, .sl 1 (dl p.body)]
abbrev PI : TypeId := 39
abbrev pc (A : Option Addr) (l c : Nat) (B : Option Addr) (lb cb : Nat) : List Value := [.slice A l c, .slice B lb cb]
theorem pg_inv {w : World} {B : Nat} {cs : List Value} {p : Pg} (h : Rd8 w B cs p.d) :
    ∃ A c Bb cb rows, cs = pc A p.vs.length c Bb p.body.length cb ∧ Rd w B A (p.vs.map sv) ∧ (∀ x ∈ p.vs, x.length ≤ maxI) ∧ (p.vs.length ≤ maxI ∧ p.vs.length ≤ c) ∧ Row w B 1 Bb (dl p.body) rows ∧ p.body.length ≤ maxI := by
  unfold Pg.d at h
  obtain ⟨A, c, r1, rfl, hv, hs, hl, hcp, h1⟩ := h.ss_
  obtain ⟨Bb, cb, r2, rows, rfl, hb, hlb, h2⟩ := h1.sl_
  obtain rfl := h2.nil_
  rw [List.length_map] at *
  exact ⟨A, c, Bb, cb, rows, rfl, hv, hs, ⟨hl, hcp⟩, hb, hlb⟩
theorem two {w : World} {g ty : Nat} {c0 c1 : Value} (h : Blk w g ty [c0, c1]) : w.cell? ⟨g, 0, none⟩ = some c0 ∧ w.cell? ⟨g, 1, none⟩ = some c1 := ⟨h.cell 0, h.cell 1⟩
theorem dl_len (L : List St) : (dl L).length = L.length := List.length_map _
/-! the rows' contracts, over statements as trees -/
section
variable (L : List St) (A : Option Addr) (c : Nat) (rows : Nat → List Value) (w : World) (hk : Row w w.heap.size 1 A (dl L) rows)
include hk
theorem eqStL (A' : Option Addr) (c' : Nat) (rows' : Nat → List Value) (hk' : Row w w.heap.size 1 A' (dl L) rows') (hl : L.length ≤ maxI) :
    Calls Tryz.prog 76 #[.slice A L.length c, .slice A' L.length c'] w fun e w' => e = .returned (.bool true) ∧ Below w.heap.size w w' := by
  have := eqStS (dl L) (dl_is L) (fun d hd => eqSt (dl_is L d hd)) A A' c c' rows rows' w hk hk' (by rw [dl_len]; exact hl)
  rw [dl_len] at this
  exact this
end
set_option maxHeartbeats 4000000 in
theorem eqPg (p : Pg) (cs cs' : List Value) (w : World) (hv : Rd8 w w.heap.size cs p.d) (hv' : Rd8 w w.heap.size cs' p.d) :
    Calls Tryz.prog 31 #[.agg cs.toArray, .agg cs'.toArray] w fun e w' => e = .returned (.bool true) ∧ Below w.heap.size w w' := by
  obtain ⟨A, c, Bb, cb, rows, rfl, hr, hs, hl, hk, hlb⟩ := pg_inv hv
  obtain ⟨A', c', Bb', cb', rows', rfl, hr', hs', hl', hk', hlb'⟩ := pg_inv hv'
  obtain ⟨V, P⟩ := p
  dsimp only at hr hs hl hk hlb hr' hk' ⊢
  have b1 : Below w.heap.size w (w.alloc (.cells (pc A V.length c Bb P.length cb).toArray 39)) := box8
  have z1 := size_alloc' w (.cells (pc A V.length c Bb P.length cb).toArray 39)
  have b2 := b1.trans ((box8 (w := w.alloc (.cells (pc A V.length c Bb P.length cb).toArray 39)) (o := .cells (pc A' V.length c' Bb' P.length cb').toArray 39)).mono (by omega))
  have x1 := (Blk.new w 39 (pc A V.length c Bb P.length cb)).alloc (.cells (pc A' V.length c' Bb' P.length cb').toArray 39)
  have x2 := Blk.new (w.alloc (.cells (pc A V.length c Bb P.length cb).toArray 39)) 39 (pc A' V.length c' Bb' P.length cb')
  rw [z1] at x2
  have cV := hid (fun wx (hb : Below w.heap.size w wx) => Lh.eqS_any A A' c c' V wx ((hr.below hb).more hb.size) ((hr'.below hb).more hb.size) hl.1)
  have cB := hid (fun wx (hb : Below w.heap.size w wx) => eqStL P Bb cb rows wx (hk.go hb) Bb' cb' rows' (hk'.go hb) hlb)
  replace b2 := hid b2
  replace x1 := hid x1
  replace x2 := hid x2
  clear hv hv' hr hr' hk hk' hlb hlb' hl hl' b1 z1
  go_enter Tryz.func31, Tryz.ntmps31
  obtain ⟨k0, k1⟩ := two x1.out
  obtain ⟨j0, j1⟩ := two x2.out
  go_wp2_with fail
  refine (cV.out _ b2.out).mono ?_
  rintro e3 w3 ⟨rfl, hb⟩
  have b3 := hid (b2.out.trans (hb.mono b2.out.size))
  have y1 := hid (x1.out.below hb x1.out.lt)
  have y2 := hid (x2.out.below hb x2.out.lt)
  clear hb k0 k1 j0 j1 x1 x2 b2
  obtain ⟨k0, k1⟩ := two y1.out
  obtain ⟨j0, j1⟩ := two y2.out
  go_wp2_with fail
  refine (cB.out _ b3.out).mono ?_
  rintro e4 w4 ⟨rfl, hb⟩
  have b4 := hid (b3.out.trans (hb.mono b3.out.size))
  clear hb k0 k1 j0 j1 y1 y2 b3
  go_wp2_with fail
  go_ret
  exact ⟨rfl, b4.out⟩
end Go.Proofs.YtklcbagddijkgaaGreatDoor.Gd
