/- What ParseExpr promises. -/
import Derived.Test.YtklcbagddijkgaaGreatDoorZP6c
import Derived.Test.YtklcbagddijkgaaGreatDoorZPz
import Derived.Test.YtklcbagddijkgaaGreatDoorZEx4
set_option maxRecDepth 100000
namespace Go.Proofs.YtklcbagddijkgaaGreatDoor.Tk
open Go.RowKit Go.Lib Go.Sort Go.Proofs.YtklcbagddijkgaaGreatDoor.Num Go.Proofs.YtklcbagddijkgaaGreatDoor.Com Go.Proofs.YtklcbagddijkgaaGreatDoor.Mem Go.Proofs.YtklcbagddijkgaaGreatDoor.Os Go.Proofs.YtklcbagddijkgaaGreatDoor.Tr

/-- the answer goes into the result's block -/
theorem ans_fin {w wx : World} {K N : Int} {s : List UInt8} {A : Option Addr} {L cc : Nat} {t : T} {lo hi : Nat} {z0 z1 z2 z3 : Value} (hres : Blk wx w.heap.size ET [z0, z1, z2, z3]) (own : OwnE ET wx lo hi (nv K N s A L cc) t) (hlo : w.heap.size < lo) (hhi : hi ≤ wx.heap.size) (hb : Below w.heap.size w wx) :
    Blk (Dr.setR wx w.heap.size K N s (.slice A L cc)) w.heap.size ET [.int .i64 K, .int .i64 N, sv s, .slice A L cc] ∧ OwnE ET (Dr.setR wx w.heap.size K N s (.slice A L cc)) w.heap.size (Dr.setR wx w.heap.size K N s (.slice A L cc)).heap.size (nv K N s A L cc) t ∧ Below w.heap.size w (Dr.setR wx w.heap.size K N s (.slice A L cc)) := by
  have hch := Dr.setR_chg wx w.heap.size K N s (.slice A L cc)
  refine ⟨Dr.setR_blk hres K N s _, ((own.chg hch (Or.inr (by omega))).mono (by omega) (by have := hch.size; omega)), ?_⟩
  exact ((((hb.setCell (p := ⟨w.heap.size, 0, none⟩) (Nat.le_refl _) (.int .i64 K)).setCell (p := ⟨w.heap.size, 1, none⟩) (Nat.le_refl _) (.int .i64 N)).setCell (p := ⟨w.heap.size, 2, none⟩) (Nat.le_refl _) (sv s)).setCell (p := ⟨w.heap.size, 3, none⟩) (Nat.le_refl _) (.slice A L cc))
theorem good_k {t : Tok} (h : GoodT t) : t.k ≠ 0 := by
  rcases h with ⟨h, _⟩ | ⟨h, _⟩ | ⟨h, _⟩ <;> rw [h] <;> decide
/-- what ParseExpr promises -/
def ParseOk (S : List UInt8) (w : World) (e : Ending) (w' : World) : Prop :=
  ∃ K N s A L cc, e = .returned (.tuple #[nv K N s A L cc, .int .i64 (parseV S).2]) ∧ OwnE ET w' w.heap.size w'.heap.size (nv K N s A L cc) (parseV S).1 ∧ Below w.heap.size w w'
end Go.Proofs.YtklcbagddijkgaaGreatDoor.Tk

/- An expression of the call's own, in a block of its own behind it; what ParseExpr answers, in words for a walk. -/
set_option maxRecDepth 100000
namespace Go.Proofs.YtklcbagddijkgaaGreatDoor.Tk
open Go.RowKit Go.Lib Go.Sort Go.Proofs.YtklcbagddijkgaaGreatDoor.Com Go.Proofs.YtklcbagddijkgaaGreatDoor.Mem Go.Proofs.YtklcbagddijkgaaGreatDoor.Os Go.Proofs.YtklcbagddijkgaaGreatDoor.Ow Go.Proofs.YtklcbagddijkgaaGreatDoor.Tr

structure Boxed (lo b : Nat) (w : World) (K N : Int) (s : List UInt8) (A : Option Addr) (L cc : Nat) (t : T) : Prop where
  own : OwnX lo b w (nv K N s A L cc) t
  box : Blk w b ET [.int .i64 K, .int .i64 N, .string ⟨s.toArray⟩, .slice A L cc]
section
variable {lo b : Nat} {w w' : World} {K N : Int} {s : List UInt8} {A : Option Addr} {L cc : Nat} {t : T}
theorem Boxed.below (h : Boxed lo b w K N s A L cc t) (hb : Below w.heap.size w w') : Boxed lo b w' K N s A L cc t := by
  have hl := h.box.lt
  exact ⟨h.own.same (same_below hb (by omega)), h.box.below hb hl⟩
theorem Boxed.new (h : OwnX lo w.heap.size w (nv K N s A L cc) t) : Boxed lo w.heap.size (w.alloc (.cells #[.int .i64 K, .int .i64 N, .string ⟨s.toArray⟩, .slice A L cc] ET)) K N s A L cc t :=
  ⟨h.same (same_below (box_below _ _) (Nat.le_refl _)), Blk.new w ET _⟩
end
/-- an answer: the expression t and the offset bad -/
def Ans (t : T) (bad : Int) (w : World) (e : Ending) (w' : World) : Prop :=
  ∃ K N s A L cc, e = .returned (.tuple #[nv K N s A L cc, .int .i64 bad]) ∧ OwnX w.heap.size w'.heap.size w' (nv K N s A L cc) t ∧ Below w.heap.size w w'
theorem ans_ok {S : List UInt8} {t : T} (h : parseR S = .ok t) {w : World} {e : Ending} {w' : World} (hp : ParseOk S w e w') : Ans t (-1) w e w' := by
  unfold ParseOk at hp
  rw [parseV_ok h] at hp
  exact hp
theorem ans_err {S : List UInt8} {a : Int} (h : parseR S = .error a) {w : World} {e : Ending} {w' : World} (hp : ParseOk S w e w') : Ans zeroT a w e w' := by
  unfold ParseOk at hp
  rw [parseV_err h] at hp
  exact hp
end Go.Proofs.YtklcbagddijkgaaGreatDoor.Tk
