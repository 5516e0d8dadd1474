/- FnSplit: joining the parts of a text at the separator restores it, and no part holds the separator: the walk. -/
import Derived.Test.YtdhpcaamhihlmaaDoorDr1
import Derived.Test.YtdhpcaamhihlmaaDoorC1k
import Derived.Test.YtdhpcaamhihlmaaDoorC1j
import Derived.Test.YtdhpcaamhihlmaaDoorBig
namespace Go.Proofs.YtdhpcaamhihlmaaDoor.FnSplit
open Go.RowKit Go.Lib Go.Proofs.YtdhpcaamhihlmaaDoor.Com Go.Proofs.YtdhpcaamhihlmaaDoor.Mem Go.Proofs.YtdhpcaamhihlmaaDoor.Sp Go.Proofs.YtdhpcaamhihlmaaDoor.C1k

theorem jl_cons (sep p : List UInt8) (x : UInt8) : ∀ r : List (List UInt8), C1j.jl sep ((x :: p) :: r) = x :: C1j.jl sep (p :: r)
  | [] => rfl
  | _ :: _ => rfl
/-- joining the parts restores the text -/
theorem join_sp (c : UInt8) : ∀ l : List UInt8, C1j.jl [c] (sp c l) = l
  | [] => rfl
  | x :: t => by
    have ih := join_sp c t
    simp only [sp]
    split
    · rename_i h; subst h
      cases hq : sp x t with
      | nil => exact absurd hq (sp_ne x t)
      | cons q r => rw [hq] at ih; show [] ++ [x] ++ C1j.jl [x] (q :: r) = x :: t; rw [ih]; rfl
    · split
      · rename_i e; exact absurd e (sp_ne c t)
      · rename_i q r e; rw [e] at ih; rw [jl_cons, ih]

set_option maxRecDepth 100000 in
set_option maxHeartbeats 2000000 in
theorem walk (w : World) (hw : w.ShapedOpen Tryd.prog) (A : Option Addr) (k : Nat) (xs : List UInt8) (hr : Rd w w.heap.size A (xs.map bv)) (_ : xs.length ≤ 9223372036854775807) :
    Calls Tryd.prog 4 #[.slice A xs.length k] w fun e w' => e = .returned (.bool true) ∧ Below w.heap.size w w' := by
  have hbig := hid (Big.big_any A xs.length k w)
  by_cases hb : 1048576 < xs.length
  · rw [decide_eq_true (show 1048576 < (xs.length : Int) by omega)] at hbig
    go_enter Tryd.func4, Tryd.ntmps4
    go_wp2_with fail
    refine hbig.out.mono ?_
    rintro e w1 ⟨rfl, rfl⟩
    go_wp2_with fail
    go_ret
    exact ⟨rfl, Below.refl _ _⟩
  rw [decide_eq_false (show ¬ 1048576 < (xs.length : Int) by omega)] at hbig
  have hd1 := hid (Dr.drawSplitByte A k xs w hr (by omega))
  have hw2 := hid (fun (w1 : World) (h : Below w.heap.size w w1) => shaped_below hw h)
  clear hb hr hw
  go_enter Tryd.func4, Tryd.ntmps4
  go_wp2_with fail
  refine hbig.out.mono ?_
  rintro e w1 ⟨rfl, rfl⟩
  go_wp2_with fail
  refine hd1.out.mono ?_
  rintro e w1 ⟨⟨s, c, hs, rfl⟩, hb1⟩
  have hl : (sp c s).length ≤ 22 := by rw [sp_length]; have := List.count_le_length (a := c) (l := s); omega
  have hj : Lib.join (sp c s) [c] = s := by rw [C1j.join_jl]; exact join_sp c s
  have hpart := hid (fun (i : Nat) (hi : i < (sp c s).length) => show sp c (sp c s)[i] = [(sp c s)[i]] ∧ (sp c s)[i].length ≤ 21 from
    ⟨sp_free c _ (sp_parts c s _ (List.getElem_mem hi)), Nat.le_trans (sp_part_len c s _ (List.getElem_mem hi)) hs⟩)
  have hself : (s == s) = true := beq_self_eq_true _
  go_wp2_with fail
  refine (implSplit s c w1 (by omega) (hw2.out _ hb1)).mono ?_
  rintro e w2 ⟨g, hg, rfl, hblk, hb2⟩
  have hb12 := hb1.trans (hb2.mono hb1.size)
  have hcv := run_str1' w2 c
  go_wp2_with fail
  have hba := hb12.alloc hb12.size (.cells #[.int .u8 c.toNat] 5)
  have hij := C1j.implJoin g (sp c s).length (sp c s) [c] _ (hblk.alloc (.cells #[.int .u8 c.toNat] 5)) (by omega) (Nat.le_refl _) (by rw [hj]; omega)
  rw [hj] at hij
  refine hij.mono ?_
  rintro e w3 ⟨rfl, hb3⟩
  have hb13 := hba.trans (hb3.mono hba.size)
  have hblk3 := (hblk.alloc (.cells #[.int .u8 c.toNat] 5)).below hb3 (hblk.alloc _).lt
  clear hj hij hcv hba
  go_wp2_with fail
  refine (specSplit s c w3 (by omega)).mono ?_
  rintro e w4 ⟨g4, cap4, hg4, rfl, hown4, hb4⟩
  have hb14 := hb13.trans (hb4.mono hb13.size)
  have hblk4 := hblk3.below hb4 hblk3.lt
  clear hown4
  go_wp2_with fail
  go_loopw [6] (fun i wr => ∃ m : Nat, m ≤ (sp c s).length ∧ i = .int .i64 m ∧ Below w.heap.size w wr ∧ Below w4.heap.size w4 wr) (fun i _ => (sp c s).length - (Go.RowKit.intOf i).toNat)
  case atStart => exact ⟨0, Nat.zero_le _, rfl, hb14, Below.refl _ _⟩
  case round =>
    obtain ⟨m, hm, rfl, hb5, hb6⟩ := hrel
    by_cases hlt : m < (sp c s).length
    · have hblk5 := hblk4.below hb6 hblk4.lt
      have hc5 : wr.cell? ⟨g, m, none⟩ = some (sv (sp c s)[m]) := by rw [hblk5.cell, List.getElem?_map, List.getElem?_eq_getElem hlt]; rfl
      obtain ⟨hp1, hp2⟩ := hpart.out m hlt
      have hcall := implSplit (sp c s)[m] c wr (by omega) (hw2.out _ hb5)
      rw [hp1] at hcall
      have hcall := hid hcall
      clear hp1 hblk5
      go_wp2_with fail
      refine hcall.out.mono ?_
      rintro e w7 ⟨g7, hg7, rfl, _, hb7⟩
      have hb17 := hb5.trans (hb7.mono hb5.size)
      have hb67 := hb6.trans (hb7.mono hb6.size)
      go_wp2_with fail
      exact ⟨⟨m + 1, hlt, by go_num, hb17, hb67⟩, by simp [Go.RowKit.intOf]; omega⟩
    · obtain rfl : m = (sp c s).length := by omega
      go_wp2_with fail
      go_ret
      exact ⟨rfl, hb5⟩
end Go.Proofs.YtdhpcaamhihlmaaDoor.FnSplit
