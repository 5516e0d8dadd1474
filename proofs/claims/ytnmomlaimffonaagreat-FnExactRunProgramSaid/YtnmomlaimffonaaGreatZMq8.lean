/- Programs of the call's own: marked. -/
import Derived.Test.YtnmomlaimffonaaGreatZL2a
set_option maxHeartbeats 4000000
set_option maxRecDepth 100000
namespace Go.Proofs.YtnmomlaimffonaaGreat.Gd
open Go.RowKit Go.Lib Go.Sort Com Mem YtnmomlaimffonaaGreat.Os Tr
def markCP (p : Pg) : Nat := p.vs.length + nL p.body
theorem markCP_sz (p : Pg) : markCP p ≤ 5 * szP8 p := by
  have h1 := markCL_sz p.body
  have h2 := Os.szL_len p.vs
  unfold markCP szP8 szL8 markCL at *
  rw [szR_pg]; omega
theorem own_pg_inv {w : World} {R : Nat → Prop} {cs : List Value} {p : Pg} (h : OwnD w R cs p.d) :
    ∃ A c a b Bb cb, ∃ R2 : Nat → Prop, cs = [.slice A p.vs.length c, .slice Bb p.body.length cb] ∧ OwnS a b w (.slice A p.vs.length c) p.vs ∧ (∀ g, Iv a b g → R g ∧ ¬ R2 g) ∧ (∀ g, R2 g → R g) ∧ OwnD w R2 [.slice Bb p.body.length cb] [.sl 1 (dl p.body)] ∧ p.body.length ≤ maxI := by
  unfold Pg.d at h
  cases h with
  | @ss _ R2 a b v l cs ds h hs h1 h2 r =>
    obtain ⟨Bb, cb, r', rows, e, -, hl, hnil⟩ := (OwnD.rd r).sl_
    obtain rfl := hnil.nil_
    subst e
    obtain ⟨A, c, rfl, -⟩ := h.read_
    rw [dl_len] at r hl
    exact ⟨A, c, a, b, Bb, cb, R2, by rw [dl_len], h, h1, h2, r, hl⟩
theorem markP_any {lo hi : Nat} {v : Value} {p : Pg} (k : Nat) (w : World) (h : OwnP lo hi w v p) (h0 : 0 < k) (h1 : k + markCP p ≤ 9223372036000000000) (hs : hi ≤ w.heap.size) :
    Calls Tryz.prog 23 #[v, .int .i64 k] w fun e w' => e = .returned (.int .i64 ((k + markCP p : Nat) : Int)) ∧ Chg w w' lo hi := by
  obtain ⟨cs, rfl, hd⟩ := h
  obtain ⟨A, c, a, b, Bb, cb, R2, rfl, hV, hdis, hR2, hL, hl⟩ := own_pg_inv hd
  obtain ⟨V, P⟩ := p
  unfold markCP at *
  dsimp only at hV hL hl h1 ⊢
  have bx := Blk.new w PI [.slice A V.length c, .slice Bb P.length cb]
  have b1 := box_below w (.cells #[.slice A V.length c, .slice Bb P.length cb] PI)
  have z1 := size_alloc' w (.cells #[.slice A V.length c, .slice Bb P.length cb] PI)
  have hiv : ∀ g, Iv a b g → g < w.heap.size := fun g hg => by have := (hdis g hg).1.2; omega
  have hr2 : ∀ g, R2 g → g < w.heap.size := fun g hg => by have := (hR2 g hg).2; omega
  have hV1 := Own.same hV (w' := w.alloc (.cells #[.slice A V.length c, .slice Bb P.length cb] PI)) fun q g1 g2 => b1.block q (hiv q ⟨g1, g2⟩)
  have hL1 := OwnD.same hL (w' := w.alloc (.cells #[.slice A V.length c, .slice Bb P.length cb] PI)) fun q g1 => b1.block q (hr2 q g1)
  have hm := markS_own (lo := a) (hi := b) (v := .slice A V.length c) (l := V) (k : Int) _ hV1 (by omega) (by omega)
  rw [Int.toNat_natCast, show (k : Int) + (V.length : Int) = ((k + V.length : Nat) : Int) by omega] at hm
  have hL1 := hid hL1
  have hml := (fun wx (hx : OwnD wx R2 [.slice Bb P.length cb] [.sl 1 (dl P)]) (hsz : ∀ g, R2 g → g < wx.heap.size) => markL_any _ P rfl R2 Bb P.length cb (k + V.length) wx hx hsz (by omega) (by omega))
  obtain ⟨k1, hk1⟩ : ∃ z : Int, ((k + V.length : Nat) : Int) = z := ⟨_, rfl⟩
  obtain ⟨k2, hk2⟩ : ∃ z : Int, ((k + V.length + nL P : Nat) : Int) = z := ⟨_, rfl⟩
  have hfin := hid (show k2 = ((k + (V.length + nL P) : Nat) : Int) by omega)
  rw [hk1] at hm hml
  rw [hk2] at hml
  replace hk1 := hid hk1
  replace hk2 := hid hk2
  replace hm := hid hm
  replace hml := hid hml
  have c0 := ChgR.of_below b1 (Iv lo hi)
  have hc0 := hid c0
  replace hdis := hid hdis
  replace hR2 := hid hR2
  replace hiv := hid hiv
  replace hr2 := hid hr2
  have hbx := hid bx
  clear hV hV1 hL hd b1 c0
  go_enter Tryz.func23, Tryz.ntmps23
  obtain ⟨q0, q1⟩ := two bx
  clear bx
  go_wp2_with fail
  refine hm.out.mono ?_
  rintro e w2 ⟨rfl, hmk, hch⟩
  have z2 := hch.size
  have hc2 := ChgR.of_chg (R := Iv lo hi) hch fun g hg => (hdis.out g hg).1
  have hbx2 := hid (blk_chgR hbx.out (ChgR.of_chg (R := Iv a b) hch fun g hg => hg) (fun hg => by have := hiv.out _ hg; omega))
  have hL2 := hL1.out.chg (ChgR.of_chg (R := Iv a b) hch fun g hg => hg) (fun g hg hi => (hdis.out g hi).2 hg) (fun g hg => by have := hr2.out g hg; omega)
  have hc3 := hid (hc0.out.trans hc2)
  have hm2 := hid (hml.out w2 hL2 fun g hg => by have := hr2.out g hg; omega)
  have hmk := hid hmk
  clear hc2 hL2 hch hm hbx hc0 hml q0 q1
  obtain ⟨q0, q1⟩ := two hbx2.out
  go_wp2_with fail
  refine hm2.out.mono ?_
  rintro e w3 ⟨rfl, hmL, hch⟩
  have z3 := hch.size
  have hc4 := hid (hc3.out.trans (hch.mono fun g hg => hR2.out g hg)).chg
  clear hmL hch hm2 hmk q0 q1
  go_wp2_with fail
  go_ret
  exact ⟨by rw [hfin.out]; rfl, hc4.out⟩
theorem markP_own {lo hi : Nat} {v : Value} {p : Pg} (kI : Int) (w : World) (h : OwnP lo hi w v p) (h0 : 0 < kI) (h1 : kI + ((markCP p : Nat) : Int) ≤ 9223372036000000000) (hs : hi ≤ w.heap.size) :
    Calls Tryz.prog 23 #[v, .int .i64 kI] w fun e w' => e = .returned (.int .i64 (kI + ((markCP p : Nat) : Int))) ∧ Chg w w' lo hi := by
  obtain ⟨k, rfl⟩ : ∃ k : Nat, kI = k := ⟨kI.toNat, by omega⟩
  refine (markP_any k w h (by omega) (by omega) hs).mono fun e w' ⟨e1, hc⟩ => ⟨?_, hc⟩
  rw [e1]
  congr 1
end Go.Proofs.YtnmomlaimffonaaGreat.Gd
