/- The laws' own helpers on lists of strings. -/
import Derived.Test.YtgjdccibdgedbaaDoorMem
set_option maxRecDepth 100000
namespace Go.Proofs.YtgjdccibdgedbaaDoor.Lh
open Go.RowKit Go.Lib Go.Proofs.YtgjdccibdgedbaaDoor.Com Go.Proofs.YtgjdccibdgedbaaDoor.Mem

/-- how many strings and letters -/
def szL (l : List (List UInt8)) : Nat := l.length + (l.map List.length).sum
def szAns (tot : Nat) (left : Int) : Int := if (tot : Int) ≤ left then left - tot else -1

theorem sum_take {l : List (List UInt8)} {k : Nat} (hk : k < l.length) : ((l.take (k + 1)).map List.length).sum = ((l.take k).map List.length).sum + l[k].length := by
  rw [List.take_succ_eq_append_getElem hk, List.map_append, List.sum_append]; rfl
theorem sum_le (l : List (List UInt8)) (k : Nat) : ((l.take k).map List.length).sum ≤ (l.map List.length).sum := by
  conv => rhs; rw [← List.take_append_drop k l]
  rw [List.map_append, List.sum_append]; omega

/-- the cell of a list of strings -/
theorem rd_str {w : World} {B : Nat} {A : Option Addr} {l : List (List UInt8)} (h : Rd w B A (l.map sv)) {k : Nat} (hk : k < l.length) : ∃ ad, A = some ad ∧ ad.block < B ∧ w.cell? (ad.add k) = some (.string ⟨(l[k]).toArray⟩) := by
  obtain ⟨ad, e, hb, hc⟩ := h.at_ (k := k) (by simpa using hk)
  exact ⟨ad, e, hb, by rw [hc]; simp⟩

theorem rd_at {w : World} {B : Nat} {ad : Addr} {l : List (List UInt8)} (h : Rd w B (some ad) (l.map sv)) {k : Nat} (hk : k < l.length) : w.cell? (ad.add k) = some (.string ⟨(l[k]).toArray⟩) := by
  obtain ⟨ad', e, _, hc⟩ := rd_str h hk
  cases e; exact hc


theorem strInfo : (Tryd.prog.info? 9).map (fun i => (i.zero, i.size, i.bytes)) = some (some (sv []), 1, 16) := by kernel_rfl

end Go.Proofs.YtgjdccibdgedbaaDoor.Lh
