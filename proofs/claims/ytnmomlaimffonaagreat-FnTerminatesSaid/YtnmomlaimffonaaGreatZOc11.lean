/- Outcomes: two lists of integers between two integers; measured, copied, compared and marked by the laws. -/
import Derived.Test.YtnmomlaimffonaaGreatZOi
set_option maxRecDepth 100000
namespace Go.Proofs.YtnmomlaimffonaaGreat.Oc
open Go.RowKit Go.Lib Go.Sort Com Mem YtnmomlaimffonaaGreat.Os Ow
structure Oc where
  st : Int
  sg : List Int
  ou : List Int
  co : Int
abbrev I63 : Nat := 9223372036854775807
theorem bxb (w : World) (o : Obj) : Below w.heap.size w (w.alloc o) := (Below.refl _ _).alloc (Nat.le_refl _) _
theorem fourO {w : World} {g ty : Nat} {a b c d : Value} (h : Blk w g ty [a, b, c, d]) : w.cell? ⟨g, 0, none⟩ = some a ∧ w.cell? ⟨g, 1, none⟩ = some b ∧ w.cell? ⟨g, 2, none⟩ = some c ∧ w.cell? ⟨g, 3, none⟩ = some d := ⟨h.cell 0, h.cell 1, h.cell 2, h.cell 3⟩
theorem box_blkO (w : World) (st : Int) (A : Option Addr) (l c : Nat) (A' : Option Addr) (l' c' : Nat) (co : Int) (ty : TypeId) : Blk (w.alloc (.cells #[.int .i64 st, .slice A l c, .slice A' l' c', .int .i64 co] ty)) w.heap.size ty [.int .i64 st, .slice A l c, .slice A' l' c', .int .i64 co] := Blk.new w ty _
def OwnOc (lo hi : Nat) (w : World) (v : Value) (o : Oc) : Prop := ∃ vS vO m, v = .agg #[.int .i64 o.st, vS, vO, .int .i64 o.co] ∧ lo ≤ m ∧ m ≤ hi ∧ OwnI lo m w vS o.sg ∧ OwnI m hi w vO o.ou
abbrev OT : TypeId := 32
abbrev putO (w : World) (b : Nat) (st : Int) (vS vO : Value) (co : Int) : World := (((w.setCell ⟨b, 0, none⟩ (.int .i64 st)).setCell ⟨b, 1, none⟩ vS).setCell ⟨b, 2, none⟩ vO).setCell ⟨b, 3, none⟩ (.int .i64 co)
theorem putO_at {w a : World} {b lo : Nat} {z0 z1 z2 z3 : Value} (h : Blk w b OT [z0, z1, z2, z3]) (hb : Below lo a w) (hl : lo ≤ b) (st : Int) (vS vO : Value) (co : Int) :
    Blk (putO w b st vS vO co) b OT [.int .i64 st, vS, vO, .int .i64 co] ∧ Below lo a (putO w b st vS vO co) ∧ (∀ k, k ≠ b → (putO w b st vS vO co).heap[k]? = w.heap[k]?) ∧ (putO w b st vS vO co).heap.size = w.heap.size :=
  ⟨(((h.set_ 0 _).set_ 1 _).set_ 2 _).set_ 3 _, (((hb.setCell (p := ⟨b, 0, none⟩) hl _).setCell (p := ⟨b, 1, none⟩) hl _).setCell (p := ⟨b, 2, none⟩) hl _).setCell (p := ⟨b, 3, none⟩) hl _,
    fun k hk => by rw [heap_setCell_other _ _ _ _ hk, heap_setCell_other _ _ _ _ hk, heap_setCell_other _ _ _ _ hk, heap_setCell_other _ _ _ _ hk], by simp [World.setCell]⟩
end Go.Proofs.YtnmomlaimffonaaGreat.Oc
