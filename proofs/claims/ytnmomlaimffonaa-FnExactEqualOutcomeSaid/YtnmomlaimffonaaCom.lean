/- Small facts that the walks of this seat share. -/
import Derived.Test.YtnmomlaimffonaaRows
import Derived.WalkKit
import Derived.WalkSpells
import Derived.WalkLawsBesides
import Derived.Laws.IdiomStrings
import Derived.Lib.Hide
set_option maxRecDepth 100000
namespace Go.Proofs.Ytnmomlaimffonaa.Com
open Go.RowKit

theorem var_below {P : Program} {w w' : World} {n : String} {cs : Array Value} (h : w.var? P n = some cs) (hb : Below w.heap.size w w') : w'.var? P n = some cs := by
  unfold World.var? at h ⊢
  cases hg : P.globalNamed n with
  | none => rw [hg] at h; cases h
  | some g =>
    rw [hg] at h
    simp only [Option.bind_some] at h ⊢
    have hlt : g < w.heap.size := by
      rcases Nat.lt_or_ge g w.heap.size with hl | hge
      · exact hl
      · rw [Array.getElem?_eq_none hge] at h; cases h
    rw [hb.block g hlt]; exact h
/-- a string that grows at its head -/
theorem str_cons (m : Nat) (l : List UInt8) : Value.string ({ data := #[48 + UInt8.ofNat m] } ++ { data := l.toArray }) = Value.string { data := (UInt8.ofNat (48 + m) :: l).toArray } := by
  have := ByteArray.mk_append_mk [48 + UInt8.ofNat m] l
  rw [this]
  have e : (48 : UInt8) + UInt8.ofNat m = UInt8.ofNat (48 + m) := by
    apply UInt8.toNat_inj.1
    simp [UInt8.toNat_add, UInt8.toNat_ofNat']
  rw [e]; rfl
end Go.Proofs.Ytnmomlaimffonaa.Com
