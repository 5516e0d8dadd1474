/- The model's reader of tokens: taking, names, operators. -/
import Derived.Test.YteenkdplpalofaaGreatDoorZC6a
import Derived.Test.YteenkdplpalofaaGreatDoorZP6a
import Derived.Test.YteenkdplpalofaaGreatDoorZC3e
import Derived.Test.YteenkdplpalofaaGreatDoorZC2a
set_option maxRecDepth 100000
namespace Go.Proofs.YteenkdplpalofaaGreatDoor.Tk
open Go.RowKit Go.Lib Go.Sort Go.Proofs.YteenkdplpalofaaGreatDoor.Num Go.Proofs.YteenkdplpalofaaGreatDoor.Com Go.Proofs.YteenkdplpalofaaGreatDoor.Mem Go.Proofs.YteenkdplpalofaaGreatDoor.Os Go.Proofs.YteenkdplpalofaaGreatDoor.Tr

/-- no error, or this one -/
def tkBad (q : Bool) (a : Int) : Int := if q = true then -1 else a
set_option maxHeartbeats 400000 in
theorem mtake_any (g : Nat) (A : Option Addr) (c : Nat) (ts : List Tok) (en i : Nat) (s : List UInt8) (w : World) (h : Rdr w g A c ts en i (-1)) (hi : i ≤ ts.length) (h63 : ts.length ≤ 1000) :
    Calls Tryz.prog 82 #[.pointer (some ⟨g, 0, none⟩), .string ⟨s.toArray⟩] w fun e w' => e = .returned (.tuple #[]) ∧ Stp w g A c ts en (nxB (seesB ts i s) i) (tkBad (seesB ts i s) (errAt ts en i)) w' := by
  have hs := hid (msees_any g A c ts en i s w h hi)
  have hf := hid (fun w1 (h1 : Rdr w1 g A c ts en i (-1)) => mfail_any g A c ts en i w1 h1 hi)
  have h := hid h
  generalize seesB ts i s = q at *
  go_enter Tryz.func82, Tryz.ntmps82
  go_wp2_with fail
  refine hs.out.mono ?_
  rintro e w1 ⟨rfl, hb⟩
  have h1 := h.out.stp hb
  clear hb hs
  cases q
  · have h1 := hid h1
    go_wp2_with fail
    refine (hf.out w1 h1.out.1).mono ?_
    rintro e w2 ⟨rfl, h2⟩
    have h2 := hid h2
    go_wp2_with fail
    refine bodyPost_ret (results_none rfl _ _ _) rfl ?_
    exact ⟨rfl, Stp.tr h1.out.2 h2.out⟩
  · obtain ⟨c0, c1, c2, c3⟩ := h1.1.cells
    have f1 := h1.1.blk.frozen 1
    have h2 := hid (h1.1.next)
    have h1 := hid h1
    clear hf
    go_wp2_with fail
    go_end0
    exact ⟨rfl, Stp.tr h1.out.2 h2.out⟩
set_option maxHeartbeats 400000 in
theorem mtake_bad (g : Nat) (A : Option Addr) (c : Nat) (ts : List Tok) (en i : Nat) (bad : Int) (s : List UInt8) (w : World) (h : Rdr w g A c ts en i bad) (hb : 0 ≤ bad) :
    Calls Tryz.prog 82 #[.pointer (some ⟨g, 0, none⟩), .string ⟨s.toArray⟩] w fun e w' => e = .returned (.tuple #[]) ∧ Below w.heap.size w w' := by
  have hs := hid (msees_bad g A c ts en i bad s w h hb)
  have hf := hid (fun w1 (h1 : Rdr w1 g A c ts en i bad) => mfail_bad g A c ts en i bad w1 h1 hb)
  have h := hid h
  go_enter Tryz.func82, Tryz.ntmps82
  go_wp2_with fail
  refine hs.out.mono ?_
  rintro e w1 ⟨rfl, hb1⟩
  have h1 := hid (h.out.below hb1)
  have hb1 := hid hb1
  go_wp2_with fail
  refine (hf.out w1 h1.out).mono ?_
  rintro e w2 ⟨rfl, hb2⟩
  have hb2 := hid (hb1.out.trans (hb2.mono hb1.out.size))
  go_wp2_with fail
  refine bodyPost_ret (results_none rfl _ _ _) rfl ?_
  exact ⟨rfl, hb2.out⟩
theorem lev7 (w : World) (I J : TypeId) (o0 : Obj) (r1 r2 r3 r4 r5 top : List Value) {W : World} (hW : W = ((((((w.alloc o0).alloc (.cells r1.toArray I)).alloc (.cells r2.toArray I)).alloc (.cells r3.toArray I)).alloc (.cells r4.toArray I)).alloc (.cells r5.toArray I)).alloc (.cells top.toArray J)) :
    Below w.heap.size w W ∧ Blk W (w.heap.size + 1) I r1 ∧ Blk W (w.heap.size + 1 + 1) I r2 ∧ Blk W (w.heap.size + 1 + 1 + 1) I r3 ∧ Blk W (w.heap.size + 1 + 1 + 1 + 1) I r4 ∧ Blk W (w.heap.size + 1 + 1 + 1 + 1 + 1) I r5 ∧ Blk W (w.heap.size + 1 + 1 + 1 + 1 + 1 + 1) J top := by
  subst hW
  have e1 := Blk.new (w.alloc o0) I r1
  have e2 := Blk.new ((w.alloc o0).alloc (.cells r1.toArray I)) I r2
  have e3 := Blk.new (((w.alloc o0).alloc (.cells r1.toArray I)).alloc (.cells r2.toArray I)) I r3
  have e4 := Blk.new ((((w.alloc o0).alloc (.cells r1.toArray I)).alloc (.cells r2.toArray I)).alloc (.cells r3.toArray I)) I r4
  have e5 := Blk.new (((((w.alloc o0).alloc (.cells r1.toArray I)).alloc (.cells r2.toArray I)).alloc (.cells r3.toArray I)).alloc (.cells r4.toArray I)) I r5
  have e6 := Blk.new ((((((w.alloc o0).alloc (.cells r1.toArray I)).alloc (.cells r2.toArray I)).alloc (.cells r3.toArray I)).alloc (.cells r4.toArray I)).alloc (.cells r5.toArray I)) J top
  simp only [size_alloc'] at e1 e2 e3 e4 e5 e6
  refine ⟨?_, ((((e1.alloc _).alloc _).alloc _).alloc _).alloc _, (((e2.alloc _).alloc _).alloc _).alloc _, ((e3.alloc _).alloc _).alloc _, (e4.alloc _).alloc _, e5.alloc _, e6⟩
  have g := fun (v : World) (o : Obj) (h : Below w.heap.size w v) => h.alloc h.size o
  exact g _ _ (g _ _ (g _ _ (g _ _ (g _ _ (g _ _ (g _ _ (Below.refl _ _)))))))
theorem levs_any (w : World) : Calls Tryz.prog 66 #[] w fun e w' => ∃ B, e = .returned (.slice (some ⟨B, 0, none⟩) 6 6) ∧ Below w.heap.size w w' ∧
    ∀ l, 1 ≤ l → l ≤ 5 → ∃ b, w'.cell? ⟨B, l, none⟩ = some (.slice (some ⟨b, 0, none⟩) (opsOf l).length (opsOf l).length) ∧ Rd w' w'.heap.size (some ⟨b, 0, none⟩) ((opsOf l).map (Value.int .i64)) ∧ w.heap.size ≤ b := by
  go_enter Tryz.func66, Tryz.ntmps66
  go_wp2_with fail
  go_ret
  obtain ⟨hb, e1, e2, e3, e4, e5, e6⟩ := lev7 w 3 84 (.cells #[] 3) [.int .i64 8] [.int .i64 7] [.int .i64 5, .int .i64 6] [.int .i64 1, .int .i64 2] [.int .i64 3, .int .i64 4]
    [.slice (some ⟨w.heap.size, 0, none⟩) 0 0, .slice (some ⟨w.heap.size + 1, 0, none⟩) 1 1, .slice (some ⟨w.heap.size + 1 + 1, 0, none⟩) 1 1, .slice (some ⟨w.heap.size + 1 + 1 + 1, 0, none⟩) 2 2, .slice (some ⟨w.heap.size + 1 + 1 + 1 + 1, 0, none⟩) 2 2, .slice (some ⟨w.heap.size + 1 + 1 + 1 + 1 + 1, 0, none⟩) 2 2] rfl
  refine ⟨_, rfl, hb, fun l h1 h2 => ?_⟩
  have hl : l = 1 ∨ l = 2 ∨ l = 3 ∨ l = 4 ∨ l = 5 := by omega
  rcases hl with rfl | rfl | rfl | rfl | rfl
  · exact ⟨_, e6.cell 1, e1.rd.more e1.lt, by omega⟩
  · exact ⟨_, e6.cell 2, e2.rd.more e2.lt, by omega⟩
  · exact ⟨_, e6.cell 3, e3.rd.more e3.lt, by omega⟩
  · exact ⟨_, e6.cell 4, e4.rd.more e4.lt, by omega⟩
  · exact ⟨_, e6.cell 5, e5.rd.more e5.lt, by omega⟩
end Go.Proofs.YteenkdplpalofaaGreatDoor.Tk
