/- Chapter 8's draws: DrawIsValidProgram (l8Bent's contract handed in). -/
import Derived.Test.YtklcbagddijkgaaGreatZDr13
set_option maxRecDepth 100000
namespace Go.Proofs.YtklcbagddijkgaaGreat.Gd
open Go.RowKit Go.Lib Go.Proofs.YtklcbagddijkgaaGreat.Com Go.Proofs.YtklcbagddijkgaaGreat.Mem Go.Proofs.YtklcbagddijkgaaGreat.Cur Go.Proofs.YtklcbagddijkgaaGreat.Os Go.Proofs.YtklcbagddijkgaaGreat.Ow Go.Proofs.YtklcbagddijkgaaGreat.Tr Go.Proofs.YtklcbagddijkgaaGreat.Dr Go.Proofs.YtklcbagddijkgaaGreat.Pl

/-- what l8Bent promises -/
def BentP : Prop := ∀ (g : Nat) (A : Option Addr) (c : Nat) (xs : List UInt8) (w : World), CurAt w g A c xs →
    Calls Tryz.prog 18 #[.pointer (some ⟨g, 0, none⟩)] w fun e w' => ∃ v V L, e = .returned v ∧ PgOut w' w.heap.size v V L ∧ V.length ≤ 3 ∧ (∀ s ∈ V, s.length ≤ 9) ∧ cntL L ≤ 200 ∧ exL L ≤ 3000 ∧ Drew w g A c xs w'
theorem PgOut.keep {W W' : World} {lo lo' h : Nat} {v : Value} {V : List (List UInt8)} {L : List St} (hP : PgOut W lo v V L) (hlt : h < lo) (hl : lo' ≤ lo) (hg : W.grownBy W' (some h)) : PgOut W' lo' v V L := by
  obtain ⟨VA, vc, B, bc, rows, e, h1, h2, h3, h4, h5, h6⟩ := hP
  have hc : Cry (ezb W lo) (ezb W' lo') W.heap.size := (Cry.two (o := none) (fun k hk hlo _ => hg.block k hk fun e => by cases e; omega)).trans (Cry.ezb_mono W' hl _) (Nat.le_refl _)
  exact ⟨VA, vc, B, bc, rows, e, h1, rd_cry h2 hc hg.size, h3, h4, h5, h6.cry hc hg.size⟩
set_option maxHeartbeats 4000000 in
theorem drawValid8 (hB : BentP) (A : Option Addr) (c : Nat) (xs : List UInt8) (w : World) (hr : Rd w w.heap.size A (xs.map bv)) (hn : xs.length ≤ 1048576) :
    Calls Tryz.prog 5 #[.slice A xs.length c] w fun e w' => ∃ v V L, e = .returned v ∧ PgOut w' w.heap.size v V L ∧ V.length ≤ 3 ∧ (∀ s ∈ V, s.length ≤ 9) ∧ cntL L ≤ 200 ∧ exL L ≤ 3000 ∧ Below w.heap.size w w' := by
  have hb0 := box_below w (.cells #[.slice none 0 0, .slice none 0 0] PI)
  have s0 := size_alloc' w (.cells #[.slice none 0 0, .slice none 0 0] PI)
  have h1 := hid (new_any A c xs _ ((hr.below hb0).more hb0.size) hn)
  have R0 := hid (Blk.new w PI [.slice none 0 0, .slice none 0 0])
  replace hb0 := hid hb0
  replace hB := hid hB
  clear hr hn
  go_enter Tryz.func5, Tryz.ntmps5
  go_wp2_with fail
  generalize (w.alloc (.cells #[.slice none 0 0, .slice none 0 0] PI)) = W0 at *
  refine h1.out.mono ?_
  rintro e w1 ⟨g, hg, rfl, hc, hb⟩
  have R1 := hid (R0.out.below hb (by omega))
  have B1 := hid (hb0.out.trans (hb.mono (by omega)))
  have s1 := hb.size
  clear hb
  go_wp2_with fail
  refine (hB.out g A c xs w1 hc).mono ?_
  rintro e w2 ⟨v, V, L, rfl, hO, n1, n2, n3, n4, hd⟩
  obtain ⟨VA, vc, B, bc, rows, rfl, hO2⟩ := hO
  have hO : PgOut w2 w1.heap.size (.agg #[.slice VA V.length vc, .slice B L.length bc]) V L := ⟨VA, vc, B, bc, rows, rfl, hO2⟩
  have R2 := R1.out.gb hd.2 (by omega)
  have B2 := drew_below (by omega) B1.out hd
  have f1 := hid (putN_blk (.slice VA V.length vc :: [.slice B L.length bc]) 0 R2)
  have f2 := hid (hO.keep (h := w.heap.size) (lo' := w.heap.size) (by omega) (by omega) (put_gb [.slice VA V.length vc, .slice B L.length bc] w2 w.heap.size))
  have f3 := hid (putN_below [.slice VA V.length vc, .slice B L.length bc] 0 B2 (Nat.le_refl w.heap.size))
  obtain ⟨x0, x1⟩ := two R2
  have r0 := R2.frozen 0
  have r1 := R2.frozen 1
  clear hO hO2 hd B2 R2 hc hB
  go_wp2_with fail
  exact bodyPost_ret (results_cell_row Tryz.results5 _ _ w.heap.size PI _ (0, 0) _ rfl f1.out Tryz.underlying27 rfl (by kernel_rfl)) rfl ⟨_, _, _, rfl, f2.out, n1, n2, n3, n4, f3.out⟩
end Go.Proofs.YtklcbagddijkgaaGreat.Gd
