/- Chapter 2's draws. -/
import Derived.Test.YtkoppcpkkpgaiaaDr1
import Derived.Test.YtkoppcpkkpgaiaaOs
namespace Go.Proofs.Ytkoppcpkkpgaiaa.Dr
open Go.RowKit Go.Lib Go.Proofs.Ytkoppcpkkpgaiaa.Com Go.Proofs.Ytkoppcpkkpgaiaa.Mem Go.Proofs.Ytkoppcpkkpgaiaa.Cur Go.Proofs.Ytkoppcpkkpgaiaa.Ow Go.Proofs.Ytkoppcpkkpgaiaa.Os

def names8 : List (List UInt8) := [[120], [121], [122], [110], [107], [116], [117], [115]]
set_option maxHeartbeats 1000000 in
theorem name_any (g : Nat) (A : Option Addr) (c : Nat) (xs : List UInt8) (w : World) (hc : CurAt w g A c xs) :
    Calls Try.prog 60 #[.pointer (some ⟨g, 0, none⟩)] w fun e w' => (∃ s ∈ names8, e = .returned (sv s)) ∧ Drew w g A c xs w' := by
  have hp := hid (pick_lit g A c xs names8 w hc (by decide) (by decide))
  clear hc
  go_enter Try.func60, Try.ntmps60
  go_wp2_with fail
  refine hp.out.mono ?_
  rintro e w1 ⟨⟨s, hs, rfl⟩, hd⟩
  go_wp2_with fail
  go_ret
  exact ⟨⟨s, hs, rfl⟩, hd⟩
def anys : List (List UInt8) := [[], [49, 97], [97, 49], [97, 98, 99, 100, 101, 102, 103, 104], [97, 98, 99, 100, 101, 102, 103, 104, 105], [105, 102], [101, 109, 105, 116], [119, 104, 105, 108, 101], [115, 117, 109, 115], [65], [97, 95, 98], [118, 97, 114, 115]]
set_option maxHeartbeats 1000000 in
theorem anyName_any (g : Nat) (A : Option Addr) (c : Nat) (xs : List UInt8) (w : World) (hc : CurAt w g A c xs) :
    Calls Try.prog 44 #[.pointer (some ⟨g, 0, none⟩)] w fun e w' => (∃ s : List UInt8, s.length ≤ 9 ∧ e = .returned (sv s)) ∧ Drew w g A c xs w' := by
  have ho := hid (once_any g A c xs 2 w hc (by omega) (by omega))
  clear hc
  go_enter Try.func44, Try.ntmps44
  go_wp2_with fail
  refine ho.out.mono ?_
  rintro e w1 ⟨⟨b, rfl⟩, hd⟩
  have hd := hid hd
  cases b
  · go_wp2_with fail
    refine (pick_lit g A c xs anys w1 hd.out.1 (by decide) (by decide)).mono ?_
    rintro e w2 ⟨⟨s, hs, rfl⟩, hd2⟩
    have hd2 := hid hd2
    have hs : s.length ≤ 9 := (show ∀ s ∈ anys, s.length ≤ 9 by decide) s hs
    go_wp2_with fail
    go_ret
    exact ⟨⟨s, hs, rfl⟩, hd2.out.1, gb_trans hd.out.2 hd2.out.2⟩
  · go_wp2_with fail
    refine (name_any g A c xs w1 hd.out.1).mono ?_
    rintro e w2 ⟨⟨s, hs, rfl⟩, hd2⟩
    have hd2 := hid hd2
    have hs : s.length ≤ 9 := (show ∀ s ∈ names8, s.length ≤ 9 by decide) s hs
    go_wp2_with fail
    go_ret
    exact ⟨⟨s, hs, rfl⟩, hd2.out.1, gb_trans hd.out.2 hd2.out.2⟩
set_option maxHeartbeats 1000000 in
theorem list_any (g : Nat) (A : Option Addr) (c : Nat) (xs : List UInt8) (w : World) (hc : CurAt w g A c xs) :
    Calls Try.prog 38 #[.pointer (some ⟨g, 0, none⟩)] w fun e w' => (∃ (v : Value) (l : List (List UInt8)), e = .returned v ∧ v ≠ .slice none 0 0 ∧ l.length ≤ 5 ∧ (∀ x ∈ l, x.length ≤ 9) ∧ w'.ownsRow w.heap.size 9 1 v (l.map sv).length (l.map sv)) ∧ Drew w g A c xs w' := by
  have hcl := cur_lt hc
  have hb := hid (fun (o : Obj) => below_any g A c xs 6 (w.alloc o) (cur_alloc hc o) (by omega) (by omega))
  go_enter Try.func38, Try.ntmps38
  go_wp2_with fail
  refine (hb.out _).mono ?_
  rintro e w1 ⟨⟨q, rfl, hq, _⟩, hd⟩
  have h0 : w1.ownsRow w.heap.size 9 1 (.slice (some ⟨w.heap.size, 0, none⟩) 0 0) (([] : List (List UInt8)).map sv).length (([] : List (List UInt8)).map sv) :=
    (World.ownsRow_made w #[] 0 (Nat.le_refl _) (by unfold maxLen; omega) rfl).kept hd.2 (Or.inr (by simp [Value.ownBlock]; omega))
  have hdr := hid (drew_alloc hd)
  have h0 := hid h0
  have hq : q ≤ 5 := by omega
  clear hd hc hb
  go_wp2_with fail
  go_loopw [3, 5] (fun o i wr => ∃ (k : Nat) (l : List (List UInt8)), k ≤ q ∧ i = .int .i64 k ∧ o ≠ .slice none 0 0 ∧ l.length = k ∧ (∀ x ∈ l, x.length ≤ 9) ∧ wr.ownsRow w.heap.size 9 1 o (l.map sv).length (l.map sv) ∧ Drew w g A c xs wr) (fun _ i _ => q - (Go.RowKit.intOf i).toNat)
  case atStart => exact ⟨0, [], Nat.zero_le _, rfl, by simp, rfl, by simp, h0.out, hdr.out⟩
  case round =>
    obtain ⟨k, l, hk, rfl, hnn, hlk, hm, hown, hd⟩ := hrel
    have hnn := hid hnn
    have hown := hid hown
    have hd := hid hd
    have hm := hid hm
    have hlk := hid hlk
    by_cases hlt : k < q
    · go_wp2_with fail
      refine (anyName_any g A c xs _ hd.out.1).mono ?_
      rintro e w2 ⟨⟨s, hs, rfl⟩, hd2⟩
      have hown2 := hid (hown.out.kept hd2.2 (by
        cases hv : u3.ownBlock with
        | none => exact Or.inl rfl
        | some b => exact Or.inr (fun e => by have := (hown.out.lt b hv).1; have := Option.some.inj e; omega)))
      have hd2 := hid (And.intro hd2.1 (gb_trans hd.out.2 hd2.2))
      have hws := hd2.out.2.size
      go_wp2_with (at_builtin; refine own_append strT hown2.out hws (sv s) rfl (by have := hlk.out; simp <;> omega) rfl _ _ rfl rfl rfl ?_; intro v3 w3 hown3 hg3 hv3)
      refine ⟨⟨k + 1, l ++ [s], hlt, by go_num, hv3, by simp [hlk.out], ?_, by simpa using hown3, ?_⟩, by simp [Go.RowKit.intOf]; omega⟩
      · intro x hx
        rcases List.mem_append.1 hx with hx | hx
        · exact hm.out x hx
        · rw [List.mem_singleton] at hx; subst hx; exact hs
      · have hbl : ∀ b, u3.ownBlock = some b → w.heap.size ≤ b := fun b hb => (hown2.out.lt b hb).1
        refine ⟨?_, ?_⟩
        · refine cur_below hd2.out.1 ((Below.refl (g + 1) w2).grown hg3 (by have := cur_lt hd2.out.1; omega) (fun b hb => by have := hbl b hb; omega))
        · refine ⟨hg3.os.trans hd2.out.2.os, hg3.tape.trans hd2.out.2.tape, hg3.output.trans hd2.out.2.output, Nat.le_trans hws hg3.size, fun b hb hne => (hg3.block b (by omega) (fun e => by have := hbl b e.symm; omega)).trans (hd2.out.2.block b hb hne)⟩
    · obtain rfl : k = q := by omega
      go_wp2_with fail
      go_ret
      exact ⟨⟨_, l, rfl, hnn.out, by rw [hlk.out]; exact hq, hm.out, hown.out⟩, hd.out⟩
set_option maxHeartbeats 1000000 in
theorem drawSortNames (A : Option Addr) (c : Nat) (xs : List UInt8) (w : World) (hr : Rd w w.heap.size A (xs.map bv)) (hn : xs.length ≤ 1048576) :
    Calls Try.prog 13 #[.slice A xs.length c] w fun e w' => (∃ (g c' : Nat) (l : List (List UInt8)), e = .returned (.slice (some ⟨g, 0, none⟩) l.length c') ∧ l.length ≤ 5 ∧ (∀ x ∈ l, x.length ≤ 9) ∧ OwnS w.heap.size w'.heap.size w' (.slice (some ⟨g, 0, none⟩) l.length c') l) ∧ Below w.heap.size w w' := by
  have h1 := hid (new_any A c xs w hr hn)
  go_enter Try.func13, Try.ntmps13
  go_wp2_with fail
  refine h1.out.mono ?_
  rintro e w1 ⟨g, hg, rfl, hc, hb⟩
  go_wp2_with fail
  refine (list_any g A c xs w1 hc).mono ?_
  rintro e w2 ⟨⟨v, l, rfl, hnn, hl, hm, hown⟩, hd⟩
  have hb2 := hid (drew_below hg hb hd)
  have hg2 : Grow 9 w w2 v (l.map sv) := ⟨own_base hown hb.size, hb2.out⟩
  obtain ⟨g', c', cur, hv, _⟩ := hg2.some_ hnn
  rw [List.length_map] at hv
  have ho := hid (Own.of_grow hg2)
  clear hd hown hg2 hnn
  go_wp2_with fail
  go_ret
  subst hv
  exact ⟨⟨g', c', l, rfl, hl, hm, ho.out⟩, hb2.out⟩
set_option maxHeartbeats 1000000 in
theorem drawIsValidName (A : Option Addr) (c : Nat) (xs : List UInt8) (w : World) (hr : Rd w w.heap.size A (xs.map bv)) (hn : xs.length ≤ 1048576) :
    Calls Try.prog 19 #[.slice A xs.length c] w fun e w' => (∃ s : List UInt8, s.length ≤ 9 ∧ e = .returned (sv s)) ∧ Below w.heap.size w w' := by
  have h1 := hid (new_any A c xs w hr hn)
  go_enter Try.func19, Try.ntmps19
  go_wp2_with fail
  refine h1.out.mono ?_
  rintro e w1 ⟨g, hg, rfl, hc, hb⟩
  go_wp2_with fail
  refine (anyName_any g A c xs w1 hc).mono ?_
  rintro e w2 ⟨⟨s, hs, rfl⟩, hd⟩
  have hb2 := hid (drew_below hg hb hd)
  clear hd
  go_wp2_with fail
  go_ret
  exact ⟨⟨s, hs, rfl⟩, hb2.out⟩
end Go.Proofs.Ytkoppcpkkpgaiaa.Dr
