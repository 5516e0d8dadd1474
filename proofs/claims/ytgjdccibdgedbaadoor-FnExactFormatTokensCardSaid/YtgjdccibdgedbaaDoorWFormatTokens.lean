/- FnExactFormatTokens: the law's walk. -/
import Derived.Test.YtgjdccibdgedbaaDoorC5f
import Derived.Test.YtgjdccibdgedbaaDoorTq
import Derived.Test.YtgjdccibdgedbaaDoorTkOpen
set_option maxRecDepth 100000
namespace Go.Proofs.YtgjdccibdgedbaaDoor.WExactFormatTokens
open Go.RowKit Go.Lib Go.Proofs.YtgjdccibdgedbaaDoor.Com Go.Proofs.YtgjdccibdgedbaaDoor.Mem Go.Proofs.YtgjdccibdgedbaaDoor.Os Go.Proofs.YtgjdccibdgedbaaDoor.Tk
theorem fit_of {t : Tok} (h : LitT t) : FitT t := by
  have := h.2.1
  have hx : -9223372036854775808 ≤ t.n ∧ t.n ≤ 9223372036854775807 := by simpa [Lit.wf, IntKind.min, IntKind.max, IntKind.signed, IntKind.bits] using this
  exact hx
set_option maxHeartbeats 8000000 in
theorem walkFormatTokens (w : World) (hp : L1b.Pow w) (A : Option Addr) (c : Nat) (l : List Tok) (h : Rd w w.heap.size A (cellsT l)) (hm : ∀ t ∈ l, LitT t) (hl : l.length ≤ 9223372036854775807) :
    Calls Tryd.prog 4 #[.slice A l.length c] w fun e w' => e = .returned (.bool true) ∧ Below w.heap.size w w' := by
  have hf : ∀ t ∈ l, FitT t := fun t ht => fit_of (hm t ht)
  have hs : ∀ t ∈ l, t.s.length ≤ 9223372036854775807 := fun t ht => (hm t ht).2.2.2
  by_cases hbig : 1048576 < ((szK l : Nat) : Int)
  · have hsz := hid (szT_over A c l 1048576 w h hs hl (by omega) (by omega) hbig)
    go_enter Tryd.func4, Tryd.ntmps4
    go_wp2_with fail
    refine hsz.out.mono ?_
    rintro e w1 ⟨rfl, hb⟩
    go_wp2_with fail
    go_ret
    exact ⟨rfl, hb⟩
  have hz : szK l ≤ 1048576 := by omega
  have hll : l.length ≤ 1048576 := by unfold szK Lh.szL at hz; rw [List.length_map] at hz; omega
  have hsz := hid (szT_fit A c l 1048576 w h hs hl (by omega) (by omega) (by omega))
  have t1 : decide (1048576 - ((szK l : Nat) : Int) < 0) = false := decide_eq_false (by omega)
  have hto := hid (fun (w1 : World) (hb : Below w.heap.size w w1) => toT_own A c l w w1 h hll hb)
  have hsp := hid (fun (w1 : World) (lo hi : Nat) (v : Value) (ho : OwnT lo hi w1 v l) => show Calls Tryd.prog 12 #[v] w1 fun e w' => e = .returned (sv (fmtT l)) ∧ Below w1.heap.size w1 w' from by
    obtain ⟨A', c', rfl, hrd, _⟩ := ho.read
    exact sfmt A' c' l w1 hrd hf hz)
  have him := hid (fun (w1 : World) (lo hi : Nat) (v : Value) (ho : OwnT lo hi w1 v l) (hb : Below w.heap.size w w1) => show Calls Tryd.prog 9 #[v] w1 fun e w' => e = .returned (sv (fmtT l)) ∧ Below w1.heap.size w1 w' from by
    obtain ⟨A', c', rfl, hrd, _⟩ := ho.read
    exact ifmt A' c' l w1 hrd hf hz (hp.below hb))
  have cmp : (fmtT l == fmtT l) = true := beq_self_eq_true _
  generalize fmtT l = F at *
  generalize ((szK l : Nat) : Int) = Z at *
  clear hm hf hs hp h hbig hz
  go_enter Tryd.func4, Tryd.ntmps4
  go_wp2_with fail
  refine hsz.out.mono ?_
  rintro e w1 ⟨rfl, hb⟩
  have B1 := hid hb
  clear hb
  go_wp2_with fail
  refine (hto.out _ B1.out).mono ?_
  rintro e w2 ⟨rfl, o, hb⟩
  have s1 := B1.out.size
  have B2 := hid (B1.out.trans (hb.mono s1))
  replace o := hid o
  clear hb
  go_wp2_with fail
  refine (hsp.out _ _ _ _ o.out).mono ?_
  rintro e w3 ⟨rfl, hb⟩
  have s2 := B2.out.size
  have B3 := hid (B2.out.trans (hb.mono s2))
  clear hb o
  go_wp2_with fail
  refine (hto.out _ B3.out).mono ?_
  rintro e w4 ⟨rfl, o, hb⟩
  have s3 := B3.out.size
  have B4 := hid (B3.out.trans (hb.mono s3))
  replace o := hid o
  clear hb
  go_wp2_with fail
  refine (him.out _ _ _ _ o.out B4.out).mono ?_
  rintro e w5 ⟨rfl, hb⟩
  have s4 := B4.out.size
  have s45 := hb.size
  have B5 := hid (B4.out.trans (hb.mono s4))
  replace o := hid (o.out.same (same_below hb (by omega)))
  clear hb
  go_wp2_with fail
  refine (hto.out _ B5.out).mono ?_
  rintro e w6 ⟨rfl, o2, hb⟩
  have s5 := B5.out.size
  have B6 := hid (B5.out.trans (hb.mono s5))
  replace o := hid (o.out.same (same_below hb (by omega)))
  replace o2 := hid o2
  clear hb
  go_wp2_with fail
  refine (eqT_own _ o.out o2.out).mono ?_
  rintro e w7 ⟨rfl, hb⟩
  have s6 := B6.out.size
  have B7 := hid (B6.out.trans (hb.mono s6))
  clear hb
  go_wp2_with fail
  go_ret
  exact ⟨rfl, B7.out⟩
end Go.Proofs.YtgjdccibdgedbaaDoor.WExactFormatTokens
