/- What a draw bends: l1Turned. -/
import Derived.Test.YteenkdplpalofaaGreatDoorZCur
import Derived.Test.YteenkdplpalofaaGreatDoorZLx
set_option maxRecDepth 100000
namespace Go.Proofs.YteenkdplpalofaaGreatDoor.Dr
open Go.RowKit Go.Lib Go.Proofs.YteenkdplpalofaaGreatDoor.Com Go.Proofs.YteenkdplpalofaaGreatDoor.Mem Go.Proofs.YteenkdplpalofaaGreatDoor.Cur Go.Proofs.YteenkdplpalofaaGreatDoor.Os Go.Proofs.YteenkdplpalofaaGreatDoor.Ow Go.Proofs.YteenkdplpalofaaGreatDoor.Tk
theorem bsz (x : List UInt8) : (⟨x.toArray⟩ : ByteArray).size = x.length := by simp [ByteArray.size]
/-- a string of so many bytes at most -/
def UpTo (n : Nat) (e : Ending) : Prop := ∃ r : List UInt8, e = .returned (sv r) ∧ r.length ≤ n
theorem upTo_of {n : Nat} (X : ByteArray) (h : X.size ≤ n) : UpTo n (.returned (.string X)) := ⟨X.data.toList, by cases X; simp, by rw [Array.length_toList]; exact h⟩
theorem rd_gb {w w2 : World} {g B : Nat} {L : Option Addr} {X : List Value} (h : Rd w B L X) (hB : ∀ ad, L = some ad → ad.block ≠ g) (hBw : B ≤ w.heap.size) (hg : w.grownBy w2 (some g)) : Rd w2 B L X := fun hne => by
  obtain ⟨ad, e, hb, hc⟩ := h hne
  exact ⟨ad, e, hb, fun j u hu => (World.cell?_of_block (hg.block (ad.add j).block (by rw [add_block]; omega) (fun e' => hB ad e (by rw [add_block] at e'; exact Option.some.inj e')))).trans (hc j u hu)⟩
set_option maxHeartbeats 4000000 in
theorem turned_any (g : Nat) (A : Option Addr) (c : Nat) (xs : List UInt8) (s : List UInt8) (hs : s.length ≤ 140737488355330) (L : Option Addr) (cap : Nat) (l : List (List UInt8)) (w : World) (hc : CurAt w g A c xs) (hL : Rd w w.heap.size L (l.map sv)) (hB : ∀ ad, L = some ad → ad.block ≠ g) (h0 : 0 < l.length) (hl : l.length ≤ 1048576) (hm : ∀ x ∈ l, x.length ≤ 8) :
    Calls Tryz.prog 17 #[.pointer (some ⟨g, 0, none⟩), .string ⟨s.toArray⟩, .slice L l.length cap] w fun e w' => UpTo (s.length + 8) e ∧ Drew w g A c xs w' := by
  have hb := hid (below_any g A c xs ((s.length : Int) + 1) w hc (by omega) (by omega))
  clear hc
  have hL := hid hL
  go_enter Tryz.func17, Tryz.ntmps17
  go_wp2_with fail
  refine hb.out.mono ?_
  rintro e w1 ⟨⟨a, rfl, ha, _⟩, hd⟩
  have ha' : a ≤ s.length := by omega
  have d1 := hid hd
  clear hd hb ha
  go_wp2_with fail
  refine (below_any g A c xs 6 w1 d1.out.1 (by omega) (by omega)).mono ?_
  rintro e w2 ⟨⟨q, rfl, hq, _⟩, hd⟩
  have d2 := hid (dr_then d1.out hd)
  clear hd d1
  have hx1 := txt_cut s 0 a
  rw [List.drop_zero, Nat.sub_zero] at hx1
  have hx2 := txt_cut s a s.length
  rw [List.take_of_length_le (by rw [List.length_drop]; exact Nat.le_refl _)] at hx2
  by_cases q0 : q = 0
  · subst q0
    have hdw : Below w2.heap.size w2 w2.drew := (Below.refl _ _).drew
    have d2' := hid (dr_below d2.out hdw)
    have hR := hid (show Rd w2.drew w2.drew.heap.size L (l.map sv) from ((rd_gb hL.out hB (Nat.le_refl _) d2'.out.2).more d2'.out.2.size))
    have step : ∀ w9, Drew w2.drew g A c xs w9 → Hid (Drew w g A c xs w9) := fun w9 hd => hid (dr_then d2'.out hd)
    go_wp2_with fail
    go_region_with (first
      | (go_at_call 18; refine (pick_any g A c xs L cap l _ d2'.out.1 hR.out hB h0 hl).mono ?_; rintro e w9 ⟨⟨p, hp, rfl⟩, hd⟩; have d9 := step w9 hd; have hp8 := hm p hp; clear hd step))
    all_goals
      go_wp2_with fail
      go_ret
      exact ⟨upTo_of _ (by rw [ByteArray.size_append, ByteArray.size_append, bsz, bsz, bsz, List.length_take, List.length_drop]; omega), d9.out⟩
  · have e0 : ((q : Int) == 0) = false := beq_false_of_ne (by omega)
    by_cases q1 : q = 1
    · subst q1
      clear hL hB hx2
      go_wp2_with fail
      go_ret
      exact ⟨upTo_of _ (by rw [bsz, List.length_take]; omega), d2.out⟩
    · have e1 : ((q : Int) == 1) = false := beq_false_of_ne (by omega)
      clear hL hB hx1 hx2
      go_wp2_with fail
      go_ret
      exact ⟨upTo_of _ (by rw [bsz]; omega), d2.out⟩
end Go.Proofs.YteenkdplpalofaaGreatDoor.Dr
