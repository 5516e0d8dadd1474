/- The program's formatStmt by its contract. -/
import Derived.Test.YtiogceepjffmkaaGreatDoorQMew
set_option maxHeartbeats 4000000
set_option maxRecDepth 100000
namespace Go.Proofs.YtiogceepjffmkaaGreatDoor.Gp
open Go.RowKit Go.Lib Go.Sort Com Mem Ow YtiogceepjffmkaaGreatDoor.Os Tr Tk Im Ag Pl Kd Gs Gd
theorem own_cut {w : World} {lo e sz n m c : Nat} {A : Option Addr} {xs : List Value} (h : w.ownsRow lo e sz (.slice A n c) n xs) (hm : m ≤ n) : w.ownsRow lo e sz (.slice A m c) m (xs.take (m * sz)) := by
 obtain ⟨hl, h | ⟨g, cap, cur, hv, hg, hblk, h1, h2, h3, h4⟩⟩ := h
 ·obtain ⟨hv, h0⟩ := h
  injection hv with q1 q2 q3
  subst q1 q3
  have : m = 0 := by omega
  subst this
  exact ⟨by simp, Or.inl ⟨rfl, rfl⟩⟩
 ·injection hv with q1 q2 q3
  subst q1 q3
  have hmul : m * sz ≤ n * sz := Nat.mul_le_mul_right _ hm
  refine ⟨by rw [List.length_take, hl]; omega, Or.inr ⟨g, c, cur, rfl, hg, hblk, by omega, h2, h3, ?_⟩⟩
  rw [← h4, List.take_take, Nat.min_eq_left hmul]
theorem own_at {w : World} {lo e sz n : Nat} {v : Value} {xs : List Value} (h : w.ownsRow lo e sz v n xs) (hn : n ≠ 0) : ∃ g c, v = .slice (some ⟨g, 0, none⟩) n c ∧ lo ≤ g ∧ g < w.heap.size ∧ n ≤ c ∧ (∃ cur, w.heap[g]? = some (.cells cur e (0, 0))) ∧ ∀ j u, xs[j]? = some u → w.cell? ⟨g, j, none⟩ = some u := by
 obtain ⟨hl, h | ⟨g, cap, cur, hv, hg, hblk, h1, h2, h3, h4⟩⟩ := h
 ·exact absurd h.2 hn
 ·refine ⟨g, cap, hv, hg, (Array.getElem?_eq_some_iff.1 hblk).1, h1, ⟨cur, hblk⟩, fun j u hu => ?_⟩
  rw [← h4, List.getElem?_take] at hu
  split at hu
  ·unfold World.cell?
   rw [hblk]
   simpa using hu
  ·cases hu
abbrev BT : TypeId := 91
abbrev UT : TypeId := 5
theorem bld_keep {w w' : World} {B b : Nat} {bs : List Value} {o : Option Nat} (h : Lib.IsBuilderF BT UT B b bs w) (hg : w.grownBy w' o) (ho : ∀ g, o = some g → ∃ cur fz, w.heap[g]? = some (.cells cur PT10 fz)) : Lib.IsBuilderF BT UT B b bs w' := by
 have one : ∀ p, Lib.BuilderAtF BT UT B b p bs w → Lib.BuilderAtF BT UT B b p bs w' := fun p hp => by
  obtain ⟨hB, v, hb, hown, hne⟩ := hp
  refine ⟨hB, v, (hg.block b (Array.getElem?_eq_some_iff.1 hb).1 fun e => ?_).trans hb, hown.kept hg ?_, hne⟩
  ·obtain ⟨cur, fz, h2⟩ := ho b e.symm
   rw [hb] at h2
   injection h2 with h3
   injection h3 with _ h4 _
   revert h4; decide
  ·obtain ⟨_, h1 | ⟨g, cap, cur, fz, hv, _, hblk, _⟩⟩ := hown
   ·rw [h1.1]; exact Or.inl rfl
   ·refine Or.inr fun e => ?_
    rw [hv] at e
    obtain ⟨cur2, fz2, h2⟩ := ho g e.symm
    rw [hblk] at h2
    injection h2 with h3
    injection h3 with _ h4 _
    revert h4; decide
 exact h.elim (fun x => .inl (one _ x)) (fun x => .inr (one _ x))
theorem bld_below {w w' : World} {B b : Nat} {bs : List Value} (h : Lib.IsBuilderF BT UT B b bs w) (hb : Below w.heap.size w w') : Lib.IsBuilderF BT UT B b bs w' :=
 bld_keep (o := none) h ⟨hb.os, hb.tape, hb.output, hb.size, fun k hk _ => hb.block k hk⟩ fun g e => by cases e
theorem bld_lt {w : World} {B b : Nat} {bs : List Value} (h : Lib.IsBuilderF BT UT B b bs w) : b < w.heap.size := h.elim (fun x => x.lt) fun x => x.lt
def bldLen (w : World) (b : Nat) : Nat := match w.cell? ⟨b, 1, none⟩ with
 | some (.slice _ n _) => n
 | _ => 0
theorem bldLen_is {w : World} {B b : Nat} {acc : List UInt8} (h : Lib.IsBuilderF BT UT B b (Lib.byteCells acc) w) : bldLen w b = acc.length := by
 have one : ∀ p, Lib.BuilderAtF BT UT B b p (Lib.byteCells acc) w → bldLen w b = acc.length := fun p hp => by
  obtain ⟨hB, v, hb, hown, hne⟩ := hp
  have hl := Lib.byteCells_length acc
  unfold bldLen
  rw [show w.cell? ⟨b, 1, none⟩ = some v by unfold World.cell?; rw [hb]; rfl]
  obtain ⟨_, h1 | ⟨g, cap, cur, fz, hv, _⟩⟩ := hown
  ·rw [h1.1]; show 0 = _; omega
  ·rw [hv]; exact hl
 exact h.elim (one _) (one _)
theorem own_others {w w' : World} {lo n b : Nat} {v : Value} {xs : List Value} (h : w.ownsRow lo PT10 2 v n xs) (hk : Lib.OthersKept UT (some b) w w') (hne : v.ownBlock ≠ some b) : w'.ownsRow lo PT10 2 v n xs := by
 refine own_keep h fun g e => ?_
 rcases h.2 with ⟨hv, _⟩ | ⟨g', cap, cur, hv, _, hblk, _⟩
 ·rw [hv] at e; cases e
 ·rw [hv] at e; cases e
  rw [hk _ _ hblk (fun e2 => hne (by rw [hv]; exact e2)) fun c fz e2 => by injection e2 with _ e3 _; revert e3; decide]
  exact hblk.symm
theorem blk_others {w w' : World} {g b : Nat} {cs : List Value} (h : Blk w g PT10 cs) (hk : Lib.OthersKept UT (some b) w w') (hne : g ≠ b) : Blk w' g PT10 cs :=
 hk _ _ h (fun e => hne (Option.some.inj e)) fun c fz e2 => by injection e2 with _ e3 _; revert e3; decide
structure FmS (w wr : World) (b : Nat) (v : Value) (stk : List Pt) (acc tot : List UInt8) : Prop where
 low : Below w.heap.size w wr
 ge : w.heap.size ≤ b
 bld : Lib.IsBuilderF BT UT b b (Lib.byteCells acc) wr
 row : wr.ownsRow (b + 1) PT10 2 v stk.length (pvs stk)
 txt : acc ++ txP stk.reverse = tot
 ok : ∀ x ∈ stk, LAs w x.2
 few : stk.length ≤ 4 * acc.length + 4
def sLen (v : Value) : Nat := match v with
 | .slice _ n _ => n
 | _ => 0
theorem rune_one {c : UInt8} (h : c.toNat < 128) : Lib.runeCells (c.toNat : Int) = Lib.byteCells [c] := by
 unfold Lib.runeCells
 rw [Lib.encodeRuneZ_one (by omega) (by omega)]
 simp [Lib.byteCells]
theorem nsp_sp (b : Bool) (r : List UInt8) : nsp b (32 :: r) = nsp true r := by rw [nsp, if_pos rfl]
theorem nsp_ch {c : UInt8} (h : c ≠ 32) (b : Bool) (r : List UInt8) : nsp b (c :: r) = (if b = true then [32] else []) ++ (c :: nsp false r) := by rw [nsp, if_neg h]
theorem chr32 {c : UInt8} (h : c ≠ 32) : ¬ ((c.toNat : Int) = 32) := fun e => h (UInt8.toNat_inj.1 (by rw [show (32 : UInt8).toNat = 32 from rfl]; omega))
structure NsS (w wr : World) (S acc : List UInt8) (b : Bool) (pos : Nat) : Prop where
 bld : Lib.IsBuilderF BT UT w.heap.size w.heap.size (Lib.byteCells acc) wr
 it : wr.heap[w.heap.size + 1]? = some (.stringIter ⟨S.toArray⟩ pos)
 low : Below w.heap.size w wr
 txt : acc ++ nsp b (S.drop pos) = nsp false S
 len : acc.length ≤ 2 * pos
 le : pos ≤ S.length
theorem inormS (S : List UInt8) (ha : Asc S) (hl : S.length ≤ 17592186044416) (w : World) :
  Calls Tryz.prog 23 #[.string ⟨S.toArray⟩] w fun e w' => e = .returned (.string ⟨(nsp false S).toArray⟩) ∧ Below w.heap.size w w' := by
 go_enter Tryz.func23, Tryz.ntmps23
 go_wp2_with fail
 go_loopw [4] (fun b wr => ∃ (bb : Bool) (pos : Nat) (acc : List UInt8), b = .bool bb ∧ NsS w wr S acc bb pos) (fun _ wr => S.length - wr.iterPos (w.heap.size + 1))
 case atStart =>
  refine ⟨false, 0, [], rfl, (Lib.IsBuilderF.of (Lib.fresh_isBuilder BT UT w)).alloc _, ?_, ((Below.refl _ w).alloc (Nat.le_refl _) _).alloc (by simp) _, rfl, by simp, Nat.zero_le _⟩
  have := World.iter_heap (w.alloc (.cells #[.pointer none, .slice none 0 0] BT)) ⟨S.toArray⟩ 0
  simpa using this
 case round =>
  obtain ⟨bb, pos, acc, rfl, hN⟩ := hrel
  have hit := hN.it
  have hsz : w.heap.size + 1 < wr.heap.size := (Array.getElem?_eq_some_iff.1 hit).1
  have hss : (⟨S.toArray⟩ : ByteArray).size = S.length := by show S.toArray.size = _; rw [List.size_toArray]
  by_cases hp : pos < S.length
  ·obtain ⟨c, hc⟩ : ∃ c, S[pos] = c := ⟨_, rfl⟩
   have hca : c.toNat < 128 := by rw [← hc]; exact ha _ (List.getElem_mem hp)
   have hdr : S.drop pos = c :: S.drop (pos + 1) := by rw [← hc]; exact List.drop_eq_getElem_cons hp
   have hnx : ∀ ty, (Instr.next (.pointer (some ⟨w.heap.size + 1, 0, none⟩)) true ty).run Tryz.prog wr = .ok (.tuple #[.bool true, .int .i64 pos, .int .i32 (c.toNat : Nat)]) (wr.iterAt (w.heap.size + 1) ⟨S.toArray⟩ (pos + 1)) := fun ty => by
    have h1 : ((⟨S.toArray⟩ : ByteArray)[pos]'(by rw [hss]; exact hp)) = c := by rw [← hc]; rfl
    have h2 := Lib.run_next_ascii_at (P := Tryz.prog) wr (w.heap.size + 1) ⟨S.toArray⟩ pos ty hit (by rw [hss]; exact hp) (by rw [h1]; exact hca)
    rw [h1] at h2; exact h2
   have hI2 := hid (hN.bld.iterAt hit (pos + 1))
   have hit2 := hid (Lib.iterAt_heap wr (w.heap.size + 1) ⟨S.toArray⟩ pos (pos + 1) hit)
   have hbw2 := hid (Lib.below_iterAt hN.low (k := w.heap.size + 1) (by omega) ⟨S.toArray⟩ (pos + 1))
   have hsz2 : w.heap.size ≤ (wr.iterAt (w.heap.size + 1) ⟨S.toArray⟩ (pos + 1)).heap.size := by rw [Lib.iterAt_size]; omega
   have htx := hid hN.txt
   have hal := hN.len
   have hpo := hid (show wr.iterPos (w.heap.size + 1) = pos by simp only [World.iterPos, hit])
   clear hN hss
   by_cases h32 : c = 32
   ·subst h32
    have t1 : (((32 : UInt8).toNat : Nat) : Int) = 32 := rfl
    replace hit := hid hit
    go_wp2_with fail
    refine ⟨⟨true, pos + 1, acc, rfl, hI2.out, hit2.out, hbw2.out, ?_, by omega, hp⟩, ?_⟩
    ·rw [← htx.out, hdr, nsp_sp]
    ·rw [hpo.out, show (wr.iterAt (w.heap.size + 1) ⟨S.toArray⟩ (pos + 1)).iterPos (w.heap.size + 1) = pos + 1 by simp only [World.iterPos, hit2.out]]; omega
   ·have hne := chr32 h32
    have hch := nsp_ch h32 bb (S.drop (pos + 1))
    rw [← hdr] at hch
    replace hch := hid hch
    replace hit := hid hit
    cases bb with
    | false =>
     have hwr := hid (Bld.writeRune w.heap.size w.heap.size _ (c.toNat : Int) (by omega) (by omega) _ hI2.out (by rw [Lib.byteCells_length]; omega) hsz2)
     generalize hW1 : wr.iterAt (w.heap.size + 1) ⟨S.toArray⟩ (pos + 1) = W1 at *
     go_wp2_with fail
     refine hwr.out.mono ?_
     rintro e W2 ⟨rfl, h1, b1, k1⟩
     have hit3 := hid (k1.iter hit2.out (by omega))
     replace h1 := hid h1
     replace b1 := hid b1
     clear k1 hwr
     go_wp2_with fail
     refine ⟨⟨false, pos + 1, acc ++ [c], rfl, ?_, hit3.out, hbw2.out.trans b1.out, ?_, by simp; omega, hp⟩, ?_⟩
     ·rw [Lib.byteCells_append, ← rune_one hca]; exact Or.inr h1.out
     ·rw [← htx.out, hch.out]; simp
     ·rw [hpo.out]; simp only [World.iterPos, hit3.out]; omega
    | true =>
     have hwb := hid (Bld.writeByte w.heap.size w.heap.size _ 32 _ hI2.out (by rw [Lib.byteCells_length]; omega) hsz2)
     generalize hW1 : wr.iterAt (w.heap.size + 1) ⟨S.toArray⟩ (pos + 1) = W1 at *
     go_wp2_with fail
     refine hwb.out.mono ?_
     rintro e W2 ⟨rfl, h1, b1, k1⟩
     have hit3 := hid (k1.iter hit2.out (by omega))
     have hI3 : Lib.IsBuilderF BT UT w.heap.size w.heap.size (Lib.byteCells (acc ++ [32])) W2 := by
      rw [show Lib.byteCells (acc ++ [32]) = Lib.byteCells acc ++ [.int .u8 32] by simp [Lib.byteCells]]
      exact Or.inr h1
     have hwr := hid (Bld.writeRune w.heap.size w.heap.size _ (c.toNat : Int) (by omega) (by omega) _ hI3 (by rw [Lib.byteCells_length, List.length_append]; simp; omega) (by have := b1.size; omega))
     replace b1 := hid b1
     clear k1 hwb h1
     replace hI3 := hid hI3
     go_wp2_with fail
     refine hwr.out.mono ?_
     rintro e W3 ⟨rfl, h2, b2, k2⟩
     have hit4 := hid (k2.iter hit3.out (by omega))
     replace h2 := hid h2
     replace b2 := hid b2
     clear k2 hwr
     go_wp2_with fail
     refine ⟨⟨false, pos + 1, acc ++ [32] ++ [c], rfl, ?_, hit4.out, (hbw2.out.trans b1.out).trans b2.out, ?_, by simp; omega, hp⟩, ?_⟩
     ·rw [Lib.byteCells_append, ← rune_one hca]; exact Or.inr h2.out
     ·rw [← htx.out, hch.out]; simp
     ·rw [hpo.out]; simp only [World.iterPos, hit4.out]; omega
  ·have hnx : ∀ ty, (Instr.next (.pointer (some ⟨w.heap.size + 1, 0, none⟩)) true ty).run Tryz.prog wr = _ := fun ty => Lib.run_next_end_at wr (w.heap.size + 1) ⟨S.toArray⟩ pos ty hit (by rw [hss]; exact hp)
   have htx := hN.txt
   rw [List.drop_eq_nil_of_le (by omega), show nsp bb [] = [] by cases bb <;> rfl, List.append_nil] at htx
   have hst := hid (Bld.string_ w.heap.size w.heap.size acc _ hN.bld (by omega))
   have hlow := hid hN.low
   clear hN
   go_wp2_with fail
   refine hst.out.mono ?_
   rintro e W1 ⟨rfl, -, b1, -⟩
   replace b1 := hid b1
   clear hst
   go_wp2_with fail
   go_ret
   subst htx
   exact ⟨rfl, hlow.out.trans b1.out⟩
end Go.Proofs.YtiogceepjffmkaaGreatDoor.Gp
set_option maxRecDepth 100000
namespace Go.Proofs.YtiogceepjffmkaaGreatDoor.Tk
open Go.RowKit Go.Lib Num Mem Ch Tr Gd
section
variable {ts : List Tok} {en i j : Nat}
theorem From.word {s u : List UInt8} {R : List Tok} (h : From ts i (wT s :: R)) : seesB ts i u = decide (s = u) := by rw [h.sees]; unfold isWordB; simp
theorem From.symb {s u : List UInt8} {R : List Tok} (h : From ts i (yT s :: R)) : seesB ts i u = decide (s = u) := by rw [h.sees]; unfold isWordB; simp
theorem From.name {s : List UInt8} {R : List Tok} (h : From ts i (wT s :: R)) (hv : C2.validB s = true) : nameAt ts i = some s := by
 obtain ⟨⟨t, ht, hk, _, hs⟩, _⟩ := h.cons
 have hs : t.s = s := hs
 have hk : t.k = 1 := hk
 unfold nameAt
 rw [ht]
 show (if t.k = 1 ∧ C2.validB t.s = true then some t.s else none) = _
 rw [hs, if_pos ⟨hk, hv⟩]
theorem From.lt {x : Tok} {R : List Tok} (h : From ts i (x :: R)) : i < ts.length := by
 obtain ⟨⟨t, ht, _⟩, _⟩ := h.cons
 exact lt_of_get ht
theorem nameAt_sym {s : List UInt8} {R : List Tok} (h : From ts i (yT s :: R)) : nameAt ts i = none := by
 obtain ⟨⟨t, ht, hk, _, hs⟩, _⟩ := h.cons
 have hk : t.k = 3 := hk
 unfold nameAt
 rw [ht]
 show (if t.k = 1 ∧ C2.validB t.s = true then some t.s else none) = _
 rw [if_neg fun e => by omega]
theorem at_end : atSt ts ts.length = false := by
 cases h : atSt ts ts.length with
 | false => rfl
 | true => have := atSt_lt h; omega
theorem at_close {R : List Tok} (h : From ts i (yT [125] :: R)) : atSt ts i = false := by
 unfold atSt
 rw [h.symb, h.symb, h.symb, nameAt_sym h]
 decide
theorem From.over {s : List UInt8} {R : List Tok} (h : From ts i (yT s :: R)) (hs : s = [59] ∨ s = [123]) : NoOp ts 1 i := fun m h1 h2 => by
 rw [h.atOp]
 have hm : m = 1 ∨ m = 2 ∨ m = 3 ∨ m = 4 ∨ m = 5 := by omega
 rcases hs with rfl | rfl <;> rcases hm with rfl | rfl | rfl | rfl | rfl <;> decide
end
end Go.Proofs.YtiogceepjffmkaaGreatDoor.Tk
namespace Go.Proofs.YtiogceepjffmkaaGreatDoor.Gd
open Go.RowKit Go.Lib Num Mem Ch Tr Tk
section
variable {ts : List Tok} {en i j : Nat}
theorem expr8 {e : T} (he : okT e = true) (h150 : ts.length ≤ 150) {s : List UInt8} (hs : s = [59] ∨ s = [123]) {R : List Tok} (h : From ts i (tkT e ++ yT s :: R)) :
  pz ts en 2000 1 i = .ok (e, i + (tkT e).length) ∧ From ts (i + (tkT e).length) (yT s :: R) ∧ i < i + (tkT e).length := by
 have h2 := h.skip
 have hp := (rdT e (ok_parts he).2).all ts en i (yT s :: R) h 1 (Nat.le_refl _) (by obtain ⟨k, n, s, ks⟩ := e; exact (lvl_le k n).1) (h2.over hs)
 exact ⟨hp.go 2000 (by unfold need; omega), h2, hp.lt⟩
end
structure QzOk (ts : List Tok) (en i : Nat) (s : St) (j : Nat) : Prop where
 lt : i < j
 go : ∀ n, needQ ts i ≤ n → qz ts en n i = .ok (s, j)
structure BzOk (ts : List Tok) (en i : Nat) (L : List St) (j : Nat) : Prop where
 le : i ≤ j
 go : ∀ n, needB ts i ≤ n → bz ts en n i = .ok (L, j)
structure KzOk (ts : List Tok) (en i : Nat) (L : List St) (j : Nat) : Prop where
 lt : i < j
 go : ∀ n, needK ts i ≤ n → kz ts en n i = .ok (L, j)
theorem head8 {V : List (List UInt8)} (hV : ∀ x ∈ V, C2.validB x = true) {t : St} (h : OkS V t) : ∃ w R, tkSt t = wT w :: R ∧ w ≠ elseW ∧ ∀ ts i R', From ts i (wT w :: R') → atSt ts i = true := by
 cases h with
 | @asg s e hs he =>
  refine ⟨s, _, by rw [tkSt_mk, if_pos rfl]; rfl, fun e => ?_, fun ts i R' h => ?_⟩
  ·have := hV s hs
   rw [e] at this; exact absurd this (by decide)
  ·unfold atSt; rw [h.name (hV s hs)]; simp
 | @emit e he => exact ⟨emitW, _, by rw [tkSt_mk, if_neg (by decide), if_pos rfl]; rfl, by decide, fun ts i R' h => by unfold atSt; rw [h.word]; simp⟩
 | @loop e bs he hb => exact ⟨whileW, _, by rw [tkSt_mk, if_neg (by decide), if_neg (by decide), if_pos rfl]; rfl, by decide, fun ts i R' h => by unfold atSt; rw [h.word, h.word (u := whileW)]; simp⟩
 | @cond e bs es he hb hc =>
  refine ⟨ifW, ?_⟩
  by_cases h0 : 0 < es.length
  ·exact ⟨_, by rw [tkSt_mk, if_neg (by decide), if_neg (by decide), if_neg (by decide), if_pos rfl, if_pos h0]; rfl, by decide, fun ts i R' h => by unfold atSt; rw [h.word, h.word (u := whileW), h.word (u := ifW)]; simp⟩
  ·exact ⟨_, by rw [tkSt_mk, if_neg (by decide), if_neg (by decide), if_neg (by decide), if_pos rfl, if_neg h0]; rfl, by decide, fun ts i R' h => by unfold atSt; rw [h.word, h.word (u := whileW), h.word (u := ifW)]; simp⟩
def RdS (t : St) : Prop := ∀ (ts : List Tok) (en i : Nat) (R : List Tok), From ts i (tkSt t ++ R) → ts.length ≤ 150 → seesB ts (i + (tkSt t).length) elseW = false → QzOk ts en i t (i + (tkSt t).length)
theorem rdL {V : List (List UInt8)} (hV : ∀ x ∈ V, C2.validB x = true) : ∀ (L : List St), (∀ a ∈ L, OkS V a ∧ RdS a) → ∀ (ts : List Tok) (en i : Nat) (R : List Tok), From ts i (tkJ L ++ R) → ts.length ≤ 150 → seesB ts (i + (tkJ L).length) elseW = false → atSt ts (i + (tkJ L).length) = false → BzOk ts en i L (i + (tkJ L).length)
 | [], _, ts, en, i, R, hf, h150, he, ha => by
  rw [tkJ, List.length_nil, Nat.add_zero] at *
  refine ⟨Nat.le_refl _, fun n hn => ?_⟩
  obtain ⟨n, rfl⟩ : ∃ m, n = m + 1 := ⟨n - 1, by unfold needB at hn; omega⟩
  rw [bz, if_neg (by rw [ha]; simp)]
 | a :: r, hL, ts, en, i, R, hf, h150, he, ha => by
  rw [tkJ, List.length_append] at *
  rw [List.append_assoc] at hf
  obtain ⟨hok, hrd⟩ := hL a (by simp)
  obtain ⟨w, Q, hw, _, hat⟩ := head8 hV hok
  have hf2 := hf.skip
  have hel : seesB ts (i + (tkSt a).length) elseW = false := by
   cases r with
   | nil => rw [tkJ, List.length_nil, Nat.add_zero] at he; exact he
   | cons b s =>
    obtain ⟨w', Q', hw', hne', _⟩ := head8 hV (hL b (by simp)).1
    rw [tkJ, hw', List.cons_append, List.cons_append] at hf2
    rw [hf2.word]; exact decide_eq_false hne'
  have hq := hrd ts en i (tkJ r ++ R) hf h150 hel
  have hb := rdL hV r (fun b hb => hL b (by simp [hb])) ts en (i + (tkSt a).length) R hf2 h150 (by rw [Nat.add_assoc]; exact he) (by rw [Nat.add_assoc]; exact ha)
  rw [Nat.add_assoc] at hb
  have h1 := hq.lt
  have h2 := hf2.1
  refine ⟨by omega, fun n hn => ?_⟩
  unfold needB at hn
  obtain ⟨n, rfl⟩ : ∃ m, n = m + 1 := ⟨n - 1, by omega⟩
  have hat1 : atSt ts i = true := hat ts i _ (by rw [hw, List.cons_append] at hf; exact hf)
  rw [bz, if_pos hat1, hq.go n (by unfold needQ; omega)]
  simp only
  rw [hb.go n (by unfold needB; omega)]
theorem rdK {V : List (List UInt8)} (hV : ∀ x ∈ V, C2.validB x = true) (L : List St) (hL : ∀ a ∈ L, OkS V a ∧ RdS a) (ts : List Tok) (en i : Nat) (R : List Tok) (hf : From ts i (tkB L ++ R)) (h150 : ts.length ≤ 150) : KzOk ts en i L (i + (tkB L).length) := by
 unfold tkB at *
 have e0 : (yT [123] :: tkJ L ++ [yT [125]]) ++ R = yT [123] :: (tkJ L ++ yT [125] :: R) := by simp
 have e1 : (yT [123] :: tkJ L ++ [yT [125]]).length = 1 + (tkJ L).length + 1 := by simp; omega
 rw [e0] at hf
 rw [e1]
 have hlt := hf.lt
 have hs := hf.symb (u := [123])
 obtain ⟨_, hf1⟩ := hf.cons
 have hf2 := hf1.skip
 have hs2 := hf2.symb (u := [125])
 have hlt2 := hf2.lt
 have hb := rdL hV L hL ts en (i + 1) _ hf1 h150 (by rw [hf2.symb]; decide) (at_close hf2)
 refine ⟨by omega, fun n hn => ?_⟩
 unfold needK at hn
 obtain ⟨n, rfl⟩ : ∃ m, n = m + 1 := ⟨n - 1, by omega⟩
 rw [kz, if_pos (by rw [hs]; simp), hb.go n (by unfold needB; omega)]
 simp only
 rw [if_pos (by rw [hs2]; simp)]
 rw [show i + 1 + (tkJ L).length + 1 = i + (1 + (tkJ L).length + 1) by omega]
theorem rdG {V : List (List UInt8)} (hV : ∀ x ∈ V, C2.validB x = true) (q : Int) {e : T} (he : okT e = true) (L : List St) (hL : ∀ a ∈ L, OkS V a ∧ RdS a) (ts : List Tok) (en i : Nat) (R : List Tok) (hf : From ts i (tkT e ++ (tkB L ++ R))) (h150 : ts.length ≤ 150) :
  (∀ n, needG ts i ≤ n → gz ts en n q i = .ok (.mk q [] e L [], i + ((tkT e).length + (tkB L).length))) ∧ From ts (i + ((tkT e).length + (tkB L).length)) R ∧ i < i + ((tkT e).length + (tkB L).length) := by
 have e0 : tkB L ++ R = yT [123] :: (tkJ L ++ [yT [125]] ++ R) := by unfold tkB; simp
 have hfx := hf
 rw [e0] at hfx
 obtain ⟨hp, _, h3⟩ := expr8 (en := en) he h150 (Or.inr rfl) hfx
 have hf2 := hf.skip
 have hk := rdK hV L hL ts en (i + (tkT e).length) R hf2 h150
 have hf3 := hf2.skip
 have h4 := hf2.1
 have h5 : i + (tkT e).length < ts.length := by
  have := hf2; rw [e0] at this; exact this.lt
 refine ⟨fun n hn => ?_, by rw [← Nat.add_assoc]; exact hf3, by omega⟩
 unfold needG at hn
 obtain ⟨n, rfl⟩ : ∃ m, n = m + 1 := ⟨n - 1, by omega⟩
 rw [gz, hp]
 simp only
 rw [hk.go n (by unfold needK; omega)]
 simp only [Nat.add_assoc]
theorem rdS {V : List (List UInt8)} (hV : ∀ x ∈ V, C2.validB x = true) (t : St) : OkS V t → RdS t := by
 induction t using St.ind with
 | h k s e bs es ih1 ih2 =>
  intro hok ts en i R hf h150 hel
  rw [tkSt_mk] at hf hel ⊢
  cases hok with
  | asg hs he =>
   rw [if_pos rfl] at hf hel ⊢
   have hv := hV s hs
   have e0 : ([wT s, yT [58, 61]] ++ tkT e ++ [yT [59]]) ++ R = wT s :: yT [58, 61] :: (tkT e ++ yT [59] :: R) := by simp
   have e1 : ([wT s, yT [58, 61]] ++ tkT e ++ [yT [59]]).length = 2 + (tkT e).length + 1 := by simp; omega
   rw [e0] at hf
   rw [e1]
   have hn := hf.name hv
   obtain ⟨_, hf1⟩ := hf.cons
   have hs2 := hf1.symb (u := [58, 61])
   obtain ⟨_, hf2⟩ := hf1.cons
   obtain ⟨hp, hf3, h4⟩ := expr8 (en := en) he h150 (Or.inl rfl) hf2
   have hs3 := hf3.symb (u := [59])
   refine ⟨by omega, fun n hn' => ?_⟩
   obtain ⟨n, rfl⟩ : ∃ m, n = m + 1 := ⟨n - 1, by unfold needQ at hn'; omega⟩
   have n1 : ∀ u, C2.validB u = false → seesB ts i u = false := fun u hu => name_not hn hu
   rw [qz, if_neg (by rw [n1 emitW (by decide)]; simp), if_neg (by rw [n1 whileW (by decide)]; simp), if_neg (by rw [n1 ifW (by decide)]; simp), hn]
   simp only
   rw [if_pos (by rw [hs2]; simp), hp]
   simp only
   rw [if_pos (by rw [hs3]; simp)]
   rw [show i + 1 + 1 + (tkT e).length + 1 = i + (2 + (tkT e).length + 1) by omega]
  | emit he =>
   rw [if_neg (by decide), if_pos rfl] at hf hel ⊢
   have e0 : (wT emitW :: tkT e ++ [yT [59]]) ++ R = wT emitW :: (tkT e ++ yT [59] :: R) := by simp
   have e1 : (wT emitW :: tkT e ++ [yT [59]]).length = 1 + (tkT e).length + 1 := by simp; omega
   rw [e0] at hf
   rw [e1]
   have hs1 := hf.word (u := emitW)
   obtain ⟨_, hf2⟩ := hf.cons
   obtain ⟨hp, hf3, h4⟩ := expr8 (en := en) he h150 (Or.inl rfl) hf2
   have hs3 := hf3.symb (u := [59])
   refine ⟨by omega, fun n hn' => ?_⟩
   obtain ⟨n, rfl⟩ : ∃ m, n = m + 1 := ⟨n - 1, by unfold needQ at hn'; omega⟩
   rw [qz, if_pos (by rw [hs1]; simp), hp]
   simp only
   rw [if_pos (by rw [hs3]; simp)]
   rw [show i + 1 + (tkT e).length + 1 = i + (1 + (tkT e).length + 1) by omega]
  | loop he hb =>
   rw [if_neg (by decide), if_neg (by decide), if_pos rfl] at hf hel ⊢
   have e0 : (wT whileW :: tkT e ++ tkB bs) ++ R = wT whileW :: (tkT e ++ (tkB bs ++ R)) := by simp
   have e1 : (wT whileW :: tkT e ++ tkB bs).length = 1 + ((tkT e).length + (tkB bs).length) := by simp; omega
   rw [e0] at hf
   rw [e1]
   have hlt := hf.lt
   have hs1 := hf.word (u := emitW)
   have hs2 := hf.word (u := whileW)
   obtain ⟨_, hf2⟩ := hf.cons
   obtain ⟨hg, _, h4⟩ := rdG hV 3 he bs (fun a ha => ⟨hb a ha, ih1 a ha (hb a ha)⟩) ts en (i + 1) R hf2 h150
   refine ⟨by omega, fun n hn' => ?_⟩
   unfold needQ at hn'
   obtain ⟨n, rfl⟩ : ∃ m, n = m + 1 := ⟨n - 1, by omega⟩
   rw [qz, if_neg (by rw [hs1]; decide), if_pos (by rw [hs2]; simp), hg n (by unfold needG; omega), Nat.add_assoc]
  | cond he hb hc =>
   rw [if_neg (by decide), if_neg (by decide), if_neg (by decide), if_pos rfl] at hf hel ⊢
   have hbs : ∀ a ∈ bs, OkS V a ∧ RdS a := fun a ha => ⟨hb a ha, ih1 a ha (hb a ha)⟩
   have hcs : ∀ a ∈ es, OkS V a ∧ RdS a := fun a ha => ⟨hc a ha, ih2 a ha (hc a ha)⟩
   by_cases h0 : 0 < es.length
   ·rw [if_pos h0] at hf hel ⊢
    have e0 : (wT ifW :: tkT e ++ tkB bs ++ wT elseW :: tkB es) ++ R = wT ifW :: (tkT e ++ (tkB bs ++ wT elseW :: (tkB es ++ R))) := by simp
    have e1 : (wT ifW :: tkT e ++ tkB bs ++ wT elseW :: tkB es).length = 1 + ((tkT e).length + (tkB bs).length) + 1 + (tkB es).length := by simp; omega
    rw [e0] at hf
    rw [e1]
    have hlt := hf.lt
    have hs1 := hf.word (u := emitW)
    have hs2 := hf.word (u := whileW)
    have hs3 := hf.word (u := ifW)
    obtain ⟨_, hf2⟩ := hf.cons
    obtain ⟨hg, hf3, h4⟩ := rdG hV 2 he bs hbs ts en (i + 1) _ hf2 h150
    have hs4 := hf3.word (u := elseW)
    have hlt3 := hf3.lt
    obtain ⟨_, hf4⟩ := hf3.cons
    have hk := rdK hV es hcs ts en _ R hf4 h150
    refine ⟨by omega, fun n hn' => ?_⟩
    unfold needQ at hn'
    obtain ⟨n, rfl⟩ : ∃ m, n = m + 1 := ⟨n - 1, by omega⟩
    rw [qz, if_neg (by rw [hs1]; decide), if_neg (by rw [hs2]; decide), if_pos (by rw [hs3]; simp), hg n (by unfold needG; omega)]
    simp only
    rw [if_pos (by rw [hs4]; simp), hk.go n (by unfold needK; omega)]
    simp only [St.withElse]
    rw [show i + 1 + ((tkT e).length + (tkB bs).length) + 1 + (tkB es).length = i + (1 + ((tkT e).length + (tkB bs).length) + 1 + (tkB es).length) by omega]
   ·rw [if_neg h0] at hf hel ⊢
    have hes : es = [] := List.eq_nil_of_length_eq_zero (by omega)
    subst hes
    have e0 : (wT ifW :: tkT e ++ tkB bs) ++ R = wT ifW :: (tkT e ++ (tkB bs ++ R)) := by simp
    have e1 : (wT ifW :: tkT e ++ tkB bs).length = 1 + ((tkT e).length + (tkB bs).length) := by simp; omega
    rw [e0] at hf
    rw [e1] at hel ⊢
    have hlt := hf.lt
    have hs1 := hf.word (u := emitW)
    have hs2 := hf.word (u := whileW)
    have hs3 := hf.word (u := ifW)
    obtain ⟨_, hf2⟩ := hf.cons
    obtain ⟨hg, hf3, h4⟩ := rdG hV 2 he bs hbs ts en (i + 1) R hf2 h150
    refine ⟨by omega, fun n hn' => ?_⟩
    unfold needQ at hn'
    obtain ⟨n, rfl⟩ : ∃ m, n = m + 1 := ⟨n - 1, by omega⟩
    rw [qz, if_neg (by rw [hs1]; decide), if_neg (by rw [hs2]; decide), if_pos (by rw [hs3]; simp), hg n (by unfold needG; omega)]
    simp only
    rw [if_neg (by rw [Nat.add_assoc, hel]; simp), Nat.add_assoc]
theorem rdV (ts : List Tok) (en : Nat) : ∀ (V : List (List UInt8)), (∀ x ∈ V, C2.validB x = true) → ∀ (i : Nat) (R : List Tok), From ts i (tkV V ++ yT [59] :: R) → ∀ n, needQ ts i ≤ n → vz ts en n i = .ok (V, i + (V.length + 1))
 | [], _, i, R, hf, n, hn => by
  rw [tkV, List.nil_append] at hf
  obtain ⟨n, rfl⟩ : ∃ m, n = m + 1 := ⟨n - 1, by unfold needQ at hn; omega⟩
  rw [vz, if_pos (by rw [hf.symb]; simp)]
  rfl
 | a :: r, hV, i, R, hf, n, hn => by
  rw [tkV, List.cons_append] at hf
  have hv := hV a (by simp)
  have hnm := hf.name hv
  have hlt := hf.lt
  obtain ⟨_, hf1⟩ := hf.cons
  have hne : a ≠ [59] := fun e => by rw [e] at hv; exact absurd hv (by decide)
  unfold needQ at hn
  obtain ⟨n, rfl⟩ : ∃ m, n = m + 1 := ⟨n - 1, by omega⟩
  rw [vz, if_neg (by rw [hf.word, decide_eq_false hne]; simp), hnm]
  simp only
  rw [rdV ts en r (fun x hx => hV x (by simp [hx])) (i + 1) R hf1 n (by unfold needQ; omega)]
  simp only [List.length_cons]
  rw [show i + 1 + (r.length + 1) = i + (r.length + 1 + 1) by omega]
theorem tkV_len (V : List (List UInt8)) : (tkV V).length = V.length := by
 induction V with
 | nil => rfl
 | cons a r ih => rw [tkV, List.length_cons, List.length_cons, ih]
theorem read_prog {p : Pg} (h : okP p = true) (hb : (tokz (fmtP p)).2 = -1) : progR (fmtP p) = .ok p := by
 obtain ⟨hV, hS⟩ := ok_prog h
 have htk := tokz_prog h hb
 have h150 := tokz_len (fmtP p)
 unfold progR
 rw [if_pos hb]
 generalize (tokz (fmtP p)).1 = ts at *
 generalize (fmtP p).length = en
 have hf : From ts 0 (tkP p) := ⟨Nat.zero_le _, by rw [List.drop_zero]; exact htk⟩
 unfold tkP at hf
 have hs := hf.word (u := varsW)
 obtain ⟨_, hf1⟩ := hf.cons
 have hv := rdV ts en p.vs hV (0 + 1) _ hf1 2000 (by unfold needQ; omega)
 have hf2 := hf1.skip
 obtain ⟨_, hf3⟩ := hf2.cons
 rw [tkV_len] at hf3
 have hf4 : From ts (0 + 1 + p.vs.length + 1) (tkJ p.body ++ []) := by rw [List.append_nil]; exact hf3
 have hf5 := hf4.skip
 have hend : 0 + 1 + p.vs.length + 1 + (tkJ p.body).length = ts.length := by
  have hlen := congrArg List.length hf5.2
  simp only [List.length_drop, List.length_map, List.length_nil] at hlen
  have := hf5.1
  omega
 have hbd := rdL hV p.body (fun a ha => ⟨hS a ha, rdS hV a (hS a ha)⟩) ts en (0 + 1 + p.vs.length + 1) [] hf4 h150 (by
  rw [hend]
  unfold seesB
  rw [List.getElem?_eq_none (Nat.le_refl _)]) (by rw [hend]; exact at_end)
 unfold progT bodyR
 rw [if_pos (by rw [hs]; simp), show (1 : Nat) = 0 + 1 from rfl, hv]
 simp only
 rw [show 0 + 1 + (p.vs.length + 1) = 0 + 1 + p.vs.length + 1 by omega, hbd.go 2000 (by unfold needB; omega)]
 simp only
 rw [if_neg (by omega), if_pos h]
end Go.Proofs.YtiogceepjffmkaaGreatDoor.Gd
