/- Chapter 6's draws: DrawParseExpr. -/
import Derived.Test.YteenkdplpalofaaGreatDoorZDt
import Derived.Test.YteenkdplpalofaaGreatDoorZDr4
import Derived.Test.YteenkdplpalofaaGreatDoorZF7b
set_option maxRecDepth 100000
namespace Go.Proofs.YteenkdplpalofaaGreatDoor.Dr
open Go.RowKit Go.Lib Go.Proofs.YteenkdplpalofaaGreatDoor.Com Go.Proofs.YteenkdplpalofaaGreatDoor.Mem Go.Proofs.YteenkdplpalofaaGreatDoor.Cur Go.Proofs.YteenkdplpalofaaGreatDoor.Os Go.Proofs.YteenkdplpalofaaGreatDoor.Ow Go.Proofs.YteenkdplpalofaaGreatDoor.Tr Go.Proofs.YteenkdplpalofaaGreatDoor.Tk
def bends6 : List (List UInt8) := [[32], [40], [41], [32, 43, 32], [33], [120], [52], [32, 38, 32]]
def odd6 : List (List UInt8) := [[], [49, 32, 43, 32, 50, 32, 42, 32, 51], [40, 49, 32, 43, 32, 50, 41, 32, 42, 32, 51], [49, 32, 60, 32, 50, 32, 60, 32, 51], [33, 120, 32, 61, 61, 32, 121], [33, 40, 120, 32, 61, 61, 32, 121, 41], [120, 32, 124, 32, 121, 32, 38, 32, 49], [105, 102], [120, 32, 120], [40, 40, 120, 41, 41], [120, 32, 45, 32, 40, 121, 32, 45, 32, 49, 41], [97, 32, 43, 32, 49]]
set_option maxHeartbeats 4000000 in
theorem drawParse (A : Option Addr) (c : Nat) (xs : List UInt8) (w : World) (hr : Rd w w.heap.size A (xs.map bv)) (hn : xs.length ≤ 1048576) :
    Calls Tryz.prog 6 #[.slice A xs.length c] w fun e w' => UpTo 400 e ∧ Below w.heap.size w w' := by
  have h1 := hid (new_any A c xs w hr hn)
  clear hr hn
  go_enter Tryz.func6, Tryz.ntmps6
  go_wp2_with fail
  refine h1.out.mono ?_
  rintro e w1 ⟨g, hg, rfl, hc, hb⟩
  have B1 := hid hb
  have s1 := hb.size
  have hgl := cur_lt hc
  have X2 := hid (Blk.new w1 9 [sv [120], sv [121]])
  have b2 := box_below w1 (.cells #[sv [120], sv [121]] 9)
  have B2 := hid (B1.out.trans (b2.mono (by omega)))
  have hc2 := hid (cur_alloc hc (.cells #[sv [120], sv [121]] 9))
  have z2 : (w1.alloc (.cells #[sv [120], sv [121]] 9)).heap.size = w1.heap.size + 1 := size_alloc' _ _
  clear hb h1 hc b2
  go_wp2_with fail
  generalize (w1.alloc (.cells #[sv [120], sv [121]] 9)) = w2 at *
  refine (below_any g A c xs 4 w2 hc2.out (by omega) (by omega)).mono ?_
  rintro e w3 ⟨⟨q, rfl, hq, _⟩, hd⟩
  have B3 := hid (drew_below hg B2.out hd)
  have D3 := hid hd.1
  have X3 := hid (X2.out.gb hd.2 (by omega))
  have s3 := hd.2.size
  have hq4 : q < 4 := by omega
  clear hd B2 hc2 X2 hq
  go_wp2_with fail
  have hdr := draw_any g A c xs (some ⟨w1.heap.size, 0, none⟩) 2 [[120], [121]] (1 + (q : Int)) w3 (by omega) (by omega) D3.out (Or.inr ⟨_, _, rfl, X3.out, rfl, by omega⟩) (by decide) (by decide)
  refine hdr.mono ?_
  rintro e w4 ⟨v, t, rfl, hm, hcnt, hd⟩
  have B4 := hid (drew_below hg B3.out hd)
  have D4 := hid hd.1
  have s4 := hd.2.size
  have hsf := hid (sformat_any t v w4 hm.1.ex (by omega))
  have hfl := fmtX_len t
  clear hm hd hdr B3 D3 X3
  generalize fmtX t = S at *
  go_wp2_with fail
  refine hsf.out.mono ?_
  rintro e w5 ⟨rfl, hb5⟩
  have B5 := hid (B4.out.trans (hb5.mono B4.out.size))
  have D5 := hid (cur_below D4.out (hb5.mono (cur_lt D4.out)))
  have s5 := hb5.size
  clear hb5 hsf B4 D4
  go_wp2_with fail
  refine (below_any g A c xs 4 w5 D5.out (by omega) (by omega)).mono ?_
  rintro e w6 ⟨⟨q2, rfl, hq2, _⟩, hd⟩
  have B6 := hid (drew_below hg B5.out hd)
  have D6 := hid hd.1
  have s6 := hd.2.size
  clear hd B5 D5
  by_cases q0 : q2 = 0
  · subst q0
    have ht := hid (turned_any g A c xs S (by omega) (some ⟨w6.heap.size, 0, none⟩) 8 bends6 (w6.alloc (.cells (bends6.map sv).toArray 9)) (cur_alloc D6.out _) ((Blk.new w6 9 (bends6.map sv)).rd.more (by simp)) (fun ad e => by cases e; exact fun h => by simp at h; omega) (by decide) (by decide) (by decide))
    go_wp2_with fail
    refine ht.out.mono ?_
    rintro e w7 ⟨⟨r, rfl, hr⟩, hd⟩
    have B7 := hid (drew_below hg B6.out (drew_alloc hd))
    clear hd ht
    go_wp2_with fail
    go_ret
    exact ⟨⟨r, rfl, by omega⟩, B7.out⟩
  · have e0 : ((q2 : Int) == 0) = false := beq_false_of_ne (by omega)
    by_cases q1 : q2 = 1
    · subst q1
      go_wp2_with fail
      refine (pick_lit g A c xs odd6 w6 D6.out (by decide) (by decide)).mono ?_
      rintro e w7 ⟨⟨s, hs, rfl⟩, hd⟩
      have B7 := hid (drew_below hg B6.out hd)
      have hs : s.length ≤ 20 := (show ∀ s ∈ odd6, s.length ≤ 20 by decide) s hs
      clear hd
      go_wp2_with fail
      go_ret
      exact ⟨⟨s, rfl, by omega⟩, B7.out⟩
    · have e1 : ((q2 : Int) == 1) = false := beq_false_of_ne (by omega)
      go_wp2_with fail
      go_ret
      exact ⟨⟨S, rfl, by omega⟩, B6.out⟩
end Go.Proofs.YteenkdplpalofaaGreatDoor.Dr
