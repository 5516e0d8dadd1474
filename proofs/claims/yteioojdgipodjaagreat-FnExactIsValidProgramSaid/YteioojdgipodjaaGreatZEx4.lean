/- Expressions in the exact laws' words. -/
import Derived.Test.YteioojdgipodjaaGreatZTr
set_option maxRecDepth 100000
namespace Go.Proofs.YteioojdgipodjaaGreat.Tr
open Go.RowKit Go.Lib Go.Proofs.YteioojdgipodjaaGreat.Com Go.Proofs.YteioojdgipodjaaGreat.Mem Go.Proofs.YteioojdgipodjaaGreat.Os

theorem four {w : World} {g ty : Nat} {a b c d : Value} (h : Blk w g ty [a, b, c, d]) : w.cell? ⟨g, 0, none⟩ = some a ∧ w.cell? ⟨g, 1, none⟩ = some b ∧ w.cell? ⟨g, 2, none⟩ = some c ∧ w.cell? ⟨g, 3, none⟩ = some d := ⟨h.cell 0, h.cell 1, h.cell 2, h.cell 3⟩
theorem blk_chg {w w' : World} {g ty lo hi : Nat} {cs : List Value} (h : Blk w g ty cs) (hc : Chg w w' lo hi) (hn : g < lo ∨ hi ≤ g) : Blk w' g ty cs := (hc.block g h.lt hn).trans h
theorem Ex.form {w : World} {B : Nat} {v : Value} {t : T} (h : Ex w B v t) : ∃ k n s A l c, v = nv k n s A l c := by
  cases h with
  | mk A c vs hs ha hc hk => exact ⟨_, _, _, _, _, _, rfl⟩
/-- a kid's cells, written out -/
theorem Kids.node {w : World} {B : Nat} {A : Option Addr} {ks : List T} {vs : Nat → Value} (h : Kids w B A ks vs) {m : Nat} (hm : m < ks.length) : ∃ ad k n s A' l c, A = some ad ∧ ad.block < B ∧ w.cell? (ad.add (m * 4)) = some (.int .i64 k) ∧
    w.cell? ⟨(ad.add (m * 4)).block, (ad.add (m * 4)).off + 1, none⟩ = some (.int .i64 n) ∧ w.cell? ⟨(ad.add (m * 4)).block, (ad.add (m * 4)).off + 2, none⟩ = some (sv s) ∧ w.cell? ⟨(ad.add (m * 4)).block, (ad.add (m * 4)).off + 3, none⟩ = some (.slice A' l c) ∧ Ex w B (nv k n s A' l c) ks[m] := by
  obtain ⟨ad, hA, hB, c0, c1, c2, c3, e, k0, k1, k2, k3⟩ := h.cell m hm
  have hx := h.kid m _ (List.getElem?_eq_getElem hm)
  generalize ks[m] = t at *
  obtain ⟨k, n, s, ks'⟩ := t
  obtain ⟨A', c', vs', ev, _⟩ := hx.kids
  rw [ev] at e hx
  injection e with e1
  have e2 := congrArg Array.toList e1
  simp only [List.cons.injEq] at e2
  obtain ⟨rfl, rfl, rfl, rfl, _⟩ := e2
  exact ⟨ad, k, n, s, A', _, c', hA, hB, k0, k1, k2, k3, hx⟩
/-- how many marks an expression takes -/
def markC (t : T) : Nat := 3 * (cntT t - 1)
abbrev OwnX (lo hi : Nat) (w : World) (v : Value) (t : T) : Prop := OwnE 54 w lo hi v t
theorem szE_over (t : T) (left : Int) (w : World) (v : Value) (h : Ex w w.heap.size v t) (h0 : 0 ≤ left) (h1 : left ≤ 1048576) (h2 : left < ((szT t : Nat) : Int)) :
    Calls Tryz.prog 89 #[v, .int .i64 left] w fun e w' => e = .returned (.int .i64 (-1)) ∧ Below w.heap.size w w' :=
  (szE t left v w h h0 h1).mono fun e w' h => ⟨h.1.trans (by unfold szAns; rw [if_neg (by omega)]), h.2⟩
theorem szE_fit (t : T) (left : Int) (w : World) (v : Value) (h : Ex w w.heap.size v t) (h0 : 0 ≤ left) (h1 : left ≤ 1048576) (h2 : ((szT t : Nat) : Int) ≤ left) :
    Calls Tryz.prog 89 #[v, .int .i64 left] w fun e w' => e = .returned (.int .i64 (left - ((szT t : Nat) : Int))) ∧ Below w.heap.size w w' :=
  (szE t left v w h h0 h1).mono fun e w' h => ⟨h.1.trans (by unfold szAns; rw [if_pos h2]), h.2⟩
theorem toE_own (t : T) (w1 : World) (v : Value) (h : Ex w1 w1.heap.size v t) (hz : szT t ≤ 1048576) :
    Calls Tryz.prog 90 #[v] w1 fun e w' => ∃ r, e = .returned r ∧ OwnX w1.heap.size w'.heap.size w' r t ∧ Below w1.heap.size w1 w' := toE t v w1 h hz
theorem eqE_own {lo hi lo' hi' : Nat} {v v' : Value} {t : T} (w : World) (h : OwnX lo hi w v t) (h' : OwnX lo' hi' w v' t) :
    Calls Tryz.prog 91 #[v, v'] w fun e w' => e = .returned (.bool true) ∧ Below w.heap.size w w' := eqE t v v' w h.ex h'.ex
theorem sdepth_own {lo hi : Nat} {v : Value} {t : T} (w : World) (h : OwnX lo hi w v t) (hz : szT t ≤ 1048576) : Calls Tryz.prog 123 #[v] w fun e w' => e = .returned (.int .i64 (depT t)) ∧ Below w.heap.size w w' :=
  sdepth t v w h.ex (by have := cnt_sz t; omega)
end Go.Proofs.YteioojdgipodjaaGreat.Tr
