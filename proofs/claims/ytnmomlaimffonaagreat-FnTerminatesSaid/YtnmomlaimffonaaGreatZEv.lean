/- A value is a word, and depends on the variables that occur alone. -/
import Derived.Test.YtnmomlaimffonaaGreatZDr13
import Derived.Test.YtnmomlaimffonaaGreatZPss
import Derived.Test.YtnmomlaimffonaaGreatZKs
set_option maxRecDepth 100000
namespace Go.Proofs.YtnmomlaimffonaaGreat.Tr
open Go.RowKit Go.Lib Go.Sort Com Mem YtnmomlaimffonaaGreat.Os C2 C3 YtnmomlaimffonaaGreat.Nm
theorem bit_w (b : Bool) : isW (bit b) = true := by cases b <;> rfl
theorem opV_w {k x y : Int} (hx : 0 ≤ x) (hx2 : x < 4) (hy : 0 ≤ y) : isW (opV k x y) = true := by
  unfold opV
  repeat' split
  · exact isW_wrap _
  · exact isW_wrap _
  · exact isW_wrap _
  · rfl
  · have h1 : 0 ≤ x / y := Int.ediv_nonneg hx hy
    have h2 : x / y ≤ x := Int.ediv_le_self _ hx
    rw [isW_iff]; omega
  · exact bit_w _
  · exact bit_w _
  · exact bit_w _
  · exact bit_w _
  · rfl
theorem appV_w (k x y : Int) : isW (appV k x y) = true := opV_w (word_lo x) (word_hi x) (word_lo y)
theorem readV_w (L : List (List UInt8)) (S : List Int) (s : List UInt8) : isW (readV L S s) = true := by
  unfold readV
  split
  · exact isW_wrap _
  · rfl
theorem evalT_w (L : List (List UInt8)) (S : List Int) (t : T) (h : allT t = true) : isW (evalT L S t).1 = true := by
  obtain ⟨k, n, s, ks⟩ := t
  have hn : nodeB k n s ks.length = true := by rw [allT_mk] at h; simp only [Bool.and_eq_true] at h; exact h.2
  rcases node_cases hn with rfl | rfl | ⟨rfl, a, b, rfl⟩ | ⟨rfl, a, rfl⟩
  · rw [evalT_1]
    unfold nodeB at hn
    rw [if_pos rfl] at hn
    simp only [Bool.and_eq_true] at hn
    exact hn.1
  · rw [evalT_2]; exact readV_w _ _ _
  · rw [evalT_3]
    split
    · exact appV_w _ _ _
    · rfl
  · rw [evalT_4]
    split
    · exact bit_w _
    · rfl
theorem okT_all {t : T} (h : okT t = true) : allT t = true := by
  unfold okT at h; simp only [Bool.and_eq_true] at h; exact h.2.2
theorem evT_w (L : List (List UInt8)) (S : List Int) (t : T) : isW (evT L S t).1 = true := by
  unfold evT
  split
  · next h => exact evalT_w L S t (okT_all h)
  · rfl
end Go.Proofs.YtnmomlaimffonaaGreat.Tr
set_option maxRecDepth 100000
namespace Go.Proofs.YtnmomlaimffonaaGreat.Gd
open Go.RowKit Go.Lib Com Mem Cur YtnmomlaimffonaaGreat.Os Ow Tr Dr Pl
theorem PgOut.keep {W W' : World} {lo lo' h : Nat} {v : Value} {V : List (List UInt8)} {L : List St} (hP : PgOut W lo v V L) (hlt : h < lo) (hl : lo' ≤ lo) (hg : W.grownBy W' (some h)) : PgOut W' lo' v V L := by
  obtain ⟨VA, vc, B, bc, rows, e, h1, h2, h3, h4, h5, h6⟩ := hP
  have hc : Cry (ezb W lo) (ezb W' lo') W.heap.size := (Cry.two (o := none) (fun k hk hlo _ => hg.block k hk fun e => by cases e; omega)).trans (Cry.ezb_mono W' hl _) (Nat.le_refl _)
  exact ⟨VA, vc, B, bc, rows, e, h1, rd_cry h2 hc hg.size, h3, h4, h5, h6.cry hc hg.size⟩
end Go.Proofs.YtnmomlaimffonaaGreat.Gd
set_option maxRecDepth 100000
namespace Go.Proofs.YtnmomlaimffonaaGreat.Gs
open Go.RowKit Go.Lib Go.Sort Com Mem Tr Im Ag Pl Kd
end Go.Proofs.YtnmomlaimffonaaGreat.Gs
