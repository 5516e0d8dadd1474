/- Small facts that the walks of this seat share. -/
import Derived.Test.YtdhpcaamhihlmaaRows
import Derived.WalkKit
import Derived.WalkSpells
import Derived.WalkLawsBesides
import Derived.Laws.IdiomStrings
import Derived.Lib.Hide
namespace Go.Proofs.Ytdhpcaamhihlmaa.Com
open Go.RowKit

/-- string([]byte{x}) -/
theorem run_str1 (w : World) (x : Int) (h0 : 0 ≤ x) (h1 : x ≤ 255) :
    (convert 33 9 (.slice (some ⟨w.heap.size, 0, none⟩) 1 1)).run Try.prog (w.alloc (.cells #[.int .u8 x] 5)) = .ok (.string ⟨[UInt8.ofNat x.toNat].toArray⟩) (w.alloc (.cells #[.int .u8 x] 5)) := by
  refine run_convert_bytes_back (l := [UInt8.ofNat x.toNat]) _ _ _ 5 _ _ Try.underlying33 Try.underlying5 Try.underlying9 ?_
  intro j hj
  obtain rfl : j = 0 := by simp at hj; omega
  have e : ((UInt8.ofNat x.toNat).toNat : Int) = x := by simp [UInt8.toNat_ofNat']; omega
  simp only [List.getElem_cons_zero, e]
  simp [go_sem, Addr.add]
/-- a string that grows at its head -/
theorem str_cons (m : Nat) (l : List UInt8) : Value.string ({ data := #[48 + UInt8.ofNat m] } ++ { data := l.toArray }) = Value.string { data := (UInt8.ofNat (48 + m) :: l).toArray } := by
  have := ByteArray.mk_append_mk [48 + UInt8.ofNat m] l
  rw [this]
  have e : (48 : UInt8) + UInt8.ofNat m = UInt8.ofNat (48 + m) := by
    apply UInt8.toNat_inj.1
    simp [UInt8.toNat_add, UInt8.toNat_ofNat']
  rw [e]; rfl
end Go.Proofs.Ytdhpcaamhihlmaa.Com
