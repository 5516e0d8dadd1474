/- The laws' own helpers on lists of strings. -/
import Derived.Test.YtdhpcaamhihlmaaDoorMem
namespace Go.Proofs.YtdhpcaamhihlmaaDoor.Lh
open Go.RowKit Go.Lib Go.Proofs.YtdhpcaamhihlmaaDoor.Com Go.Proofs.YtdhpcaamhihlmaaDoor.Mem

/-- how many strings and letters -/
def szL (l : List (List UInt8)) : Nat := l.length + (l.map List.length).sum
def szAns (tot : Nat) (left : Int) : Int := if (tot : Int) ≤ left then left - tot else -1

theorem sum_take {l : List (List UInt8)} {k : Nat} (hk : k < l.length) : ((l.take (k + 1)).map List.length).sum = ((l.take k).map List.length).sum + l[k].length := by
  rw [List.take_succ_eq_append_getElem hk, List.map_append, List.sum_append]; rfl
theorem sum_le (l : List (List UInt8)) (k : Nat) : ((l.take k).map List.length).sum ≤ (l.map List.length).sum := by
  conv => rhs; rw [← List.take_append_drop k l]
  rw [List.map_append, List.sum_append]; omega

/-- the cell of a list of strings -/
theorem rd_str {w : World} {B : Nat} {A : Option Addr} {l : List (List UInt8)} (h : Rd w B A (l.map sv)) {k : Nat} (hk : k < l.length) : ∃ ad, A = some ad ∧ ad.block < B ∧ w.cell? (ad.add k) = some (.string ⟨(l[k]).toArray⟩) := by
  obtain ⟨ad, e, hb, hc⟩ := h.at_ (k := k) (by simpa using hk)
  exact ⟨ad, e, hb, by rw [hc]; simp⟩

theorem rd_at {w : World} {B : Nat} {ad : Addr} {l : List (List UInt8)} (h : Rd w B (some ad) (l.map sv)) {k : Nat} (hk : k < l.length) : w.cell? (ad.add k) = some (.string ⟨(l[k]).toArray⟩) := by
  obtain ⟨ad', e, _, hc⟩ := rd_str h hk
  cases e; exact hc


theorem strInfo : (Tryd.prog.info? 9).map (fun i => (i.zero, i.size, i.bytes)) = some (some (sv []), 1, 16) := by kernel_rfl

set_option maxHeartbeats 400000 in
theorem eqS_any (A1 A2 : Option Addr) (c1 c2 : Nat) (l : List (List UInt8)) (w : World) (h1 : Rd w w.heap.size A1 (l.map sv)) (h2 : Rd w w.heap.size A2 (l.map sv)) (hl : l.length ≤ 9223372036854775807) :
    Calls Tryd.prog 19 #[.slice A1 l.length c1, .slice A2 l.length c2] w fun e w' => e = .returned (.bool true) ∧ Below w.heap.size w w' := by
  go_enter Tryd.func19, Tryd.ntmps19
  go_wp2_with fail
  go_loopw [5] (fun i wr => ∃ k : Nat, k ≤ l.length ∧ i = .int .i64 k ∧ Below w.heap.size w wr) (fun i _ => l.length - (Go.RowKit.intOf i).toNat)
  case atStart => exact ⟨0, Nat.zero_le _, rfl, Below.refl _ _⟩
  case round =>
    obtain ⟨k, hk, rfl, hb⟩ := hrel
    by_cases hlt : k < l.length
    · obtain ⟨ad1, rfl, _, hc1⟩ := rd_str (h1.below hb) hlt
      obtain ⟨ad2, rfl, _, hc2⟩ := rd_str (h2.below hb) hlt
      go_wp2_with fail
      go_quiet (fail)
      go_wp2_with fail
      exact ⟨⟨k + 1, hlt, by go_num, bdr hb nq⟩, by simp [Go.RowKit.intOf]; omega⟩
    · obtain rfl : k = l.length := by omega
      go_wp2_with fail
      go_ret
      exact ⟨rfl, hb⟩
end Go.Proofs.YtdhpcaamhihlmaaDoor.Lh
