/- Slices of strings of the call's own as the laws handle them: compared, marked, looked at again. -/
import Derived.Test.YteglampoceponaaDoorZLhS
import Derived.Test.YteglampoceponaaDoorZOz
set_option maxRecDepth 100000
namespace Go.Proofs.YteglampoceponaaDoor.Os
open Go.RowKit Go.Lib Go.Proofs.YteglampoceponaaDoor.Com Go.Proofs.YteglampoceponaaDoor.Mem Go.Proofs.YteglampoceponaaDoor.Lh Go.Proofs.YteglampoceponaaDoor.Ow

abbrev OwnS (lo hi : Nat) (w : World) (v : Value) (l : List (List UInt8)) : Prop := Own 9 lo hi w v (l.map sv)

theorem OwnS.read_ {lo hi : Nat} {w : World} {v : Value} {l : List (List UInt8)} (h : OwnS lo hi w v l) : ∃ A c, v = .slice A l.length c ∧ Rd w w.heap.size A (l.map sv) ∧ l.length ≤ c ∧ c ≤ maxLen ∧ (A = none → c = 0) ∧ ∀ ad, A = some ad → ad = ⟨ad.block, 0, none⟩ := by
  have := h.read
  rwa [List.length_map] at this


/-- the slice v is marked from k on, n places -/
def Marked (lo hi : Nat) (w : World) (v : Value) (k n : Nat) : Prop := Own 9 lo hi w v (marks k n)

end Go.Proofs.YteglampoceponaaDoor.Os
