/- The model's IsValidProgram: expressions, statements. -/
import Derived.Test.YteioojdgipodjaaZS8b
import Derived.Test.YteioojdgipodjaaZSt1
import Derived.Test.YteioojdgipodjaaZC3a
import Derived.Test.YteioojdgipodjaaZNm
set_option maxRecDepth 100000
namespace Go.Proofs.Yteioojdgipodjaa.Gd
open Go.RowKit Go.Lib Go.Sort Go.Proofs.Yteioojdgipodjaa.Com Go.Proofs.Yteioojdgipodjaa.Mem Go.Proofs.Yteioojdgipodjaa.Os Go.Proofs.Yteioojdgipodjaa.Tr Go.Proofs.Yteioojdgipodjaa.Nm Go.Proofs.Yteioojdgipodjaa.C2

/-- the expression is valid, and only of these variables -/
def okE8 (V : List (List UInt8)) (e : T) : Bool := okT e && (((keepS (sortU (varsT e)) V).length : Int) == 0)
/-- a statement's kind, by its other fields -/
def kindB (V : List (List UInt8)) (k : Int) (s : List UInt8) (nb ne : Bool) : Bool :=
  if k = 1 then decide (0 ≤ ixOf V s) && (nb && ne) else if k = 2 then (s == []) else if k = 3 then (s == []) && ne else if k = 4 then (s == []) && (nb && ne) else false
mutual
def okSt (V : List (List UInt8)) : St → Bool
  | .mk k s e bs es => okE8 V e && (okSts V bs && (okSts V es && kindB V k s ((bs.length : Int) == 0) ((es.length : Int) == 0)))
def okSts (V : List (List UInt8)) : List St → Bool
  | [] => true
  | a :: r => okSt V a && okSts V r
end
theorem okSts_not {V : List (List UInt8)} {L : List St} {m : Nat} (h : m < L.length) (hf : okSt V L[m] = false) : okSts V L = false := by
  induction L generalizing m with
  | nil => simp at h
  | cons a r ih =>
    rw [okSts]
    cases m with
    | zero => rw [List.getElem_cons_zero] at hf; rw [hf]; rfl
    | succ m => rw [List.getElem_cons_succ] at hf; rw [ih (by simpa using h) hf, Bool.and_false]
theorem okSts_all {V : List (List UInt8)} {L : List St} (h : ∀ j, (hj : j < L.length) → okSt V L[j] = true) : okSts V L = true := by
  induction L with
  | nil => rfl
  | cons a r ih =>
    rw [okSts, show okSt V a = true from h 0 (by simp), Bool.true_and]
    exact ih fun j hj => h (j + 1) (by simpa using hj)
end Go.Proofs.Yteioojdgipodjaa.Gd

/- The model's IsValidProgram: statements. -/
set_option maxRecDepth 100000
namespace Go.Proofs.Yteioojdgipodjaa.Gd
open Go.RowKit Go.Lib Go.Sort Go.Proofs.Yteioojdgipodjaa.Com Go.Proofs.Yteioojdgipodjaa.Mem Go.Proofs.Yteioojdgipodjaa.Os Go.Proofs.Yteioojdgipodjaa.Tr Go.Proofs.Yteioojdgipodjaa.Nm Go.Proofs.Yteioojdgipodjaa.C2

mutual
/-- how many nodes its expressions have -/
def exSt : St → Nat
  | .mk _ _ e bs es => cntT e + exL bs + exL es
def exL : List St → Nat
  | [] => 0
  | a :: r => exSt a + exL r
end
theorem exSt_mk (k : Int) (s : List UInt8) (e : T) (bs es : List St) : exSt (.mk k s e bs es) = cntT e + exL bs + exL es := by rw [exSt]
theorem exSt_mem {L : List St} {a : St} (h : a ∈ L) : exSt a ≤ exL L := by
  induction L with
  | nil => cases h
  | cons b r ih =>
    simp only [exL]
    rcases List.mem_cons.1 h with rfl | h
    · omega
    · have := ih h; omega
theorem ex_szDL (L : List St) : exL L ≤ szDL (dl L) + L.length := by
  have hs : ∀ L : List St, (∀ a ∈ L, exSt a ≤ 1 + szDR a.d) → exL L ≤ L.length + szDL (dl L) := fun L hL => by
    induction L with
    | nil => simp [exL]
    | cons b r ih =>
      have := hL b (by simp)
      have := ih fun a ha => hL a (by simp [ha])
      simp only [exL, List.length_cons, dl, List.map_cons, szDL] at *
      omega
  have key : ∀ t : St, exSt t ≤ 1 + szDR t.d := fun t => by
    induction t using St.ind with
    | h k s e bs es h1 h2 =>
      have := hs bs h1
      have := hs es h2
      have := cnt_sz e
      rw [St.d_mk, szR_st, exSt_mk]
      simp only [dl, List.length_map] at *
      omega
  have := hs L fun a _ => key a
  omega
end Go.Proofs.Yteioojdgipodjaa.Gd
