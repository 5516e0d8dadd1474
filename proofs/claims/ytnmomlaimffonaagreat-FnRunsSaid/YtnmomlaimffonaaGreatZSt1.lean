/- Statements: their fields; measured. -/
import Derived.Test.YtnmomlaimffonaaGreatZGd
import Derived.Test.YtnmomlaimffonaaGreatZTr6
set_option maxRecDepth 100000
namespace Go.Proofs.YtnmomlaimffonaaGreat.Gd
open Go.RowKit Go.Lib Go.Sort Com Mem YtnmomlaimffonaaGreat.Os Tr
abbrev sc (k : Int) (s : List UInt8) (ek en : Int) (es : List UInt8) (A : Option Addr) (l c : Nat) (B : Option Addr) (lb cb : Nat) (C : Option Addr) (lc cc : Nat) : List Value :=
  [.int .i64 k, sv s, .int .i64 ek, .int .i64 en, sv es, .slice A l c, .slice B lb cb, .slice C lc cc]
theorem add_pos (a : Addr) (i : Nat) (h : 0 < i) : a.add i = ⟨a.block, a.off + i, none⟩ := by unfold Addr.add; rw [if_neg (by omega)]
theorem ld8 {w : World} {a : Addr} {c0 c1 c2 c3 c4 c5 c6 c7 : Value} (h : LdN w a [c0, c1, c2, c3, c4, c5, c6, c7]) :
    w.cell? a = some c0 ∧ w.cell? ⟨a.block, a.off + 1, none⟩ = some c1 ∧ w.cell? ⟨a.block, a.off + 2, none⟩ = some c2 ∧ w.cell? ⟨a.block, a.off + 3, none⟩ = some c3 ∧ w.cell? ⟨a.block, a.off + 4, none⟩ = some c4 ∧ w.cell? ⟨a.block, a.off + 5, none⟩ = some c5 ∧ w.cell? ⟨a.block, a.off + 6, none⟩ = some c6 ∧ w.cell? ⟨a.block, a.off + 7, none⟩ = some c7 := by
  have g : ∀ i u, 0 < i → [c0, c1, c2, c3, c4, c5, c6, c7][i]? = some u → w.cell? ⟨a.block, a.off + i, none⟩ = some u := fun i u hi hu => by rw [← add_pos a i hi]; exact h i u hu
  exact ⟨h 0 c0 rfl, g 1 c1 (by omega) rfl, g 2 c2 (by omega) rfl, g 3 c3 (by omega) rfl, g 4 c4 (by omega) rfl, g 5 c5 (by omega) rfl, g 6 c6 (by omega) rfl, g 7 c7 (by omega) rfl⟩
theorem eight {w : World} {g ty : Nat} {c0 c1 c2 c3 c4 c5 c6 c7 : Value} (h : Blk w g ty [c0, c1, c2, c3, c4, c5, c6, c7]) :
    w.cell? ⟨g, 0, none⟩ = some c0 ∧ w.cell? ⟨g, 1, none⟩ = some c1 ∧ w.cell? ⟨g, 2, none⟩ = some c2 ∧ w.cell? ⟨g, 3, none⟩ = some c3 ∧ w.cell? ⟨g, 4, none⟩ = some c4 ∧ w.cell? ⟨g, 5, none⟩ = some c5 ∧ w.cell? ⟨g, 6, none⟩ = some c6 ∧ w.cell? ⟨g, 7, none⟩ = some c7 :=
  ⟨h.cell 0, h.cell 1, h.cell 2, h.cell 3, h.cell 4, h.cell 5, h.cell 6, h.cell 7⟩
theorem box8 {w : World} {o : Obj} : Below w.heap.size w (w.alloc o) := (Below.refl _ _).alloc (Nat.le_refl _) _
theorem st_inv {w : World} {B : Nat} {cs : List Value} {k : Int} {s : List UInt8} {e : T} {bs es : List (List D)} (h : Rd8 w B cs [.i k, .s s, .x e, .sl 1 bs, .sl 1 es]) :
    ∃ ek en en' A l c Bb cb C cc rb rc, cs = sc k s ek en en' A l c Bb bs.length cb C es.length cc ∧ s.length ≤ maxI ∧ Ex w B (nv ek en en' A l c) e ∧ Row w B 1 Bb bs rb ∧ bs.length ≤ maxI ∧ Row w B 1 C es rc ∧ es.length ≤ maxI := by
  obtain ⟨r1, rfl, h1⟩ := h.i_
  obtain ⟨r2, rfl, hs, h2⟩ := h1.s_
  obtain ⟨ek, en, en', A, l, c, r3, rfl, he, h3⟩ := h2.x_
  obtain ⟨Bb, cb, r4, rb, rfl, hb, hlb, h4⟩ := h3.sl_
  obtain ⟨C, cc, r5, rc, rfl, hc, hlc, h5⟩ := h4.sl_
  obtain rfl := h5.nil_
  exact ⟨ek, en, en', A, l, c, Bb, cb, C, cc, rb, rc, rfl, hs, he, hb, hlb, hc, hlc⟩
inductive St where
  | mk (k : Int) (s : List UInt8) (e : T) (bs es : List St)
theorem St.ind {P : St → Prop} (h : ∀ k s e bs es, (∀ a ∈ bs, P a) → (∀ a ∈ es, P a) → P (.mk k s e bs es)) : ∀ t, P t
  | .mk k s e bs es => h k s e bs es
      (fun a ha => by have := List.sizeOf_lt_of_mem ha; exact St.ind h a)
      (fun a ha => by have := List.sizeOf_lt_of_mem ha; exact St.ind h a)
termination_by t => SizeOf.sizeOf t
decreasing_by all_goals (simp only [St.mk.sizeOf_spec]; omega)
def St.d : St → List D
  | .mk k s e bs es => [.i k, .s s, .x e, .sl 1 (bs.attach.map fun ⟨a, _⟩ => a.d), .sl 1 (es.attach.map fun ⟨a, _⟩ => a.d)]
termination_by t => SizeOf.sizeOf t
decreasing_by all_goals (have := List.sizeOf_lt_of_mem ‹_›; simp only [St.mk.sizeOf_spec]; omega)
abbrev dl (L : List St) : List (List D) := L.map St.d
theorem St.d_mk (k : Int) (s : List UInt8) (e : T) (bs es : List St) : (St.mk k s e bs es).d = [.i k, .s s, .x e, .sl 1 (dl bs), .sl 1 (dl es)] := by
  rw [St.d]; simp
mutual
def cntSt : St → Nat
  | .mk _ _ _ bs es => 1 + cntL bs + cntL es
def cntL : List St → Nat
  | [] => 0
  | a :: r => cntSt a + cntL r
end
theorem cntL_take {L : List St} {m : Nat} (h : m < L.length) : cntL (L.take (m + 1)) = cntL (L.take m) + cntSt L[m] := by
  induction L generalizing m with
  | nil => simp at h
  | cons e r ih =>
    cases m with
    | zero => simp [cntL]
    | succ m =>
      simp only [List.take_succ_cons, cntL, List.getElem_cons_succ]
      rw [ih (by simpa using h)]; omega
theorem cntL_le (L : List St) (m : Nat) : cntL (L.take m) ≤ cntL L := by
  induction L generalizing m with
  | nil => simp
  | cons e r ih =>
    cases m with
    | zero => simp [cntL]
    | succ m => simp only [List.take_succ_cons, cntL]; have := ih m; omega
theorem cntSt_mem {L : List St} {a : St} (h : a ∈ L) : cntSt a ≤ cntL L := by
  induction L with
  | nil => cases h
  | cons b r ih =>
    simp only [cntL]
    rcases List.mem_cons.1 h with rfl | h
    · omega
    · have := ih h; omega
theorem len_cntL (L : List St) : L.length ≤ cntL L := by
  induction L with
  | nil => simp
  | cons b r ih =>
    obtain ⟨k, s, e, bs, es⟩ := b
    simp only [cntL, cntSt, List.length_cons]; omega
theorem Row.st {w : World} {B : Nat} {A : Option Addr} {L : List St} {rows : Nat → List Value} (h : Row w B 1 A (dl L) rows) {m : Nat} (hm : m < L.length) :
    ∃ ad k s e bs es ek en en' A1 l1 c1 Bb cb C cc rb rc, A = some ad ∧ ad.block < B ∧ L[m] = .mk k s e bs es ∧
      LdN w (ad.add (m * 8)) (sc k s ek en en' A1 l1 c1 Bb bs.length cb C es.length cc) ∧ s.length ≤ maxI ∧ Ex w B (nv ek en en' A1 l1 c1) e ∧ Row w B 1 Bb (dl bs) rb ∧ bs.length ≤ maxI ∧ Row w B 1 C (dl es) rc ∧ es.length ≤ maxI := by
  obtain ⟨_, ad, hA, hB, hld⟩ := h.cell m (by simpa using hm)
  have hk := h.kid m L[m].d (by simp [hm])
  generalize hT : L[m] = t at *
  obtain ⟨k, s, e, bs, es⟩ := t
  rw [St.d_mk] at hk
  obtain ⟨ek, en, en', A1, l1, c1, Bb, cb, C, cc, rb, rc, e8, hs, hx, hb, hlb, hc, hlc⟩ := st_inv hk
  rw [e8] at hld
  simp only [List.length_map] at hld hlb hlc
  exact ⟨ad, k, s, e, bs, es, ek, en, en', A1, l1, c1, Bb, cb, C, cc, rb, rc, hA, hB, rfl, hld, hs, hx, hb, hlb, hc, hlc⟩
abbrev SI : TypeId := 94
theorem zeroSt : (Tryz.prog.info? SI).map (fun i => (i.zero, i.size, i.bytes)) = some (some (.agg (sc 0 [] 0 0 [] none 0 0 none 0 0 none 0 0).toArray), 8, 128) := by kernel_rfl
structure Pg where
  vs : List (List UInt8)
  body : List St
def Pg.d (p : Pg) : List D := [.ss p.vs, .sl 1 (dl p.body)]
abbrev PI : TypeId := 27
abbrev pc (A : Option Addr) (l c : Nat) (B : Option Addr) (lb cb : Nat) : List Value := [.slice A l c, .slice B lb cb]
theorem pg_inv {w : World} {B : Nat} {cs : List Value} {p : Pg} (h : Rd8 w B cs p.d) :
    ∃ A c Bb cb rows, cs = pc A p.vs.length c Bb p.body.length cb ∧ Rd w B A (p.vs.map sv) ∧ (∀ x ∈ p.vs, x.length ≤ maxI) ∧ (p.vs.length ≤ maxI ∧ p.vs.length ≤ c) ∧ Row w B 1 Bb (dl p.body) rows ∧ p.body.length ≤ maxI := by
  unfold Pg.d at h
  obtain ⟨A, c, r1, rfl, hv, hs, hl, hcp, h1⟩ := h.ss_
  obtain ⟨Bb, cb, r2, rows, rfl, hb, hlb, h2⟩ := h1.sl_
  obtain rfl := h2.nil_
  rw [List.length_map] at *
  exact ⟨A, c, Bb, cb, rows, rfl, hv, hs, ⟨hl, hcp⟩, hb, hlb⟩
theorem two {w : World} {g ty : Nat} {c0 c1 : Value} (h : Blk w g ty [c0, c1]) : w.cell? ⟨g, 0, none⟩ = some c0 ∧ w.cell? ⟨g, 1, none⟩ = some c1 := ⟨h.cell 0, h.cell 1⟩
theorem dl_len (L : List St) : (dl L).length = L.length := List.length_map _
end Go.Proofs.YtnmomlaimffonaaGreat.Gd
