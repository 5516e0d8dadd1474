/- What ParseExpr promises. -/
import Derived.Test.YteenkdplpalofaaGreatDoorZP6c
import Derived.Test.YteenkdplpalofaaGreatDoorZPr
set_option maxRecDepth 100000
namespace Go.Proofs.YteenkdplpalofaaGreatDoor.Tk
open Go.RowKit Go.Lib Go.Sort Go.Proofs.YteenkdplpalofaaGreatDoor.Num Go.Proofs.YteenkdplpalofaaGreatDoor.Com Go.Proofs.YteenkdplpalofaaGreatDoor.Mem Go.Proofs.YteenkdplpalofaaGreatDoor.Os Go.Proofs.YteenkdplpalofaaGreatDoor.Tr

/-- the answer goes into the result's block -/
theorem ans_fin {w wx : World} {K N : Int} {s : List UInt8} {A : Option Addr} {L cc : Nat} {t : T} {lo hi : Nat} {z0 z1 z2 z3 : Value} (hres : Blk wx w.heap.size ET [z0, z1, z2, z3]) (own : OwnE ET wx lo hi (nv K N s A L cc) t) (hlo : w.heap.size < lo) (hhi : hi ≤ wx.heap.size) (hb : Below w.heap.size w wx) :
    Blk (Dr.setR wx w.heap.size K N s (.slice A L cc)) w.heap.size ET [.int .i64 K, .int .i64 N, sv s, .slice A L cc] ∧ OwnE ET (Dr.setR wx w.heap.size K N s (.slice A L cc)) w.heap.size (Dr.setR wx w.heap.size K N s (.slice A L cc)).heap.size (nv K N s A L cc) t ∧ Below w.heap.size w (Dr.setR wx w.heap.size K N s (.slice A L cc)) := by
  have hch := Dr.setR_chg wx w.heap.size K N s (.slice A L cc)
  refine ⟨Dr.setR_blk hres K N s _, ((own.chg hch (Or.inr (by omega))).mono (by omega) (by have := hch.size; omega)), ?_⟩
  exact ((((hb.setCell (p := ⟨w.heap.size, 0, none⟩) (Nat.le_refl _) (.int .i64 K)).setCell (p := ⟨w.heap.size, 1, none⟩) (Nat.le_refl _) (.int .i64 N)).setCell (p := ⟨w.heap.size, 2, none⟩) (Nat.le_refl _) (sv s)).setCell (p := ⟨w.heap.size, 3, none⟩) (Nat.le_refl _) (.slice A L cc))
theorem good_k {t : Tok} (h : GoodT t) : t.k ≠ 0 := by
  rcases h with ⟨h, _⟩ | ⟨h, _⟩ | ⟨h, _⟩ <;> rw [h] <;> decide
/-- what ParseExpr promises -/
def ParseOk (S : List UInt8) (w : World) (e : Ending) (w' : World) : Prop :=
  ∃ K N s A L cc, e = .returned (.tuple #[nv K N s A L cc, .int .i64 (parseV S).2]) ∧ OwnE ET w' w.heap.size w'.heap.size (nv K N s A L cc) (parseV S).1 ∧ Below w.heap.size w w'
end Go.Proofs.YteenkdplpalofaaGreatDoor.Tk
