/- The program's formatStmt by its contract. -/
import Derived.Test.YtiogceepjffmkaaGreatDoorYMew
set_option maxHeartbeats 4000000
set_option maxRecDepth 100000
namespace Go.Proofs.YtiogceepjffmkaaGreatDoor.Gp
open Go.RowKit Go.Lib Go.Sort Com Mem Ow YtiogceepjffmkaaGreatDoor.Os Tr Tk Im Ag Pl Kd Gs Gd
theorem own_cut {w : World} {lo e sz n m c : Nat} {A : Option Addr} {xs : List Value} (h : w.ownsRow lo e sz (.slice A n c) n xs) (hm : m ≤ n) : w.ownsRow lo e sz (.slice A m c) m (xs.take (m * sz)) := by
  obtain ⟨hl, h | ⟨g, cap, cur, hv, hg, hblk, h1, h2, h3, h4⟩⟩ := h
  · obtain ⟨hv, h0⟩ := h
    injection hv with q1 q2 q3
    subst q1 q3
    have : m = 0 := by omega
    subst this
    exact ⟨by simp, Or.inl ⟨rfl, rfl⟩⟩
  · injection hv with q1 q2 q3
    subst q1 q3
    have hmul : m * sz ≤ n * sz := Nat.mul_le_mul_right _ hm
    refine ⟨by rw [List.length_take, hl]; omega, Or.inr ⟨g, c, cur, rfl, hg, hblk, by omega, h2, h3, ?_⟩⟩
    rw [← h4, List.take_take, Nat.min_eq_left hmul]
theorem own_at {w : World} {lo e sz n : Nat} {v : Value} {xs : List Value} (h : w.ownsRow lo e sz v n xs) (hn : n ≠ 0) : ∃ g c, v = .slice (some ⟨g, 0, none⟩) n c ∧ lo ≤ g ∧ g < w.heap.size ∧ n ≤ c ∧ (∃ cur, w.heap[g]? = some (.cells cur e (0, 0))) ∧ ∀ j u, xs[j]? = some u → w.cell? ⟨g, j, none⟩ = some u := by
  obtain ⟨hl, h | ⟨g, cap, cur, hv, hg, hblk, h1, h2, h3, h4⟩⟩ := h
  · exact absurd h.2 hn
  · refine ⟨g, cap, hv, hg, (Array.getElem?_eq_some_iff.1 hblk).1, h1, ⟨cur, hblk⟩, fun j u hu => ?_⟩
    rw [← h4, List.getElem?_take] at hu
    split at hu
    · unfold World.cell?
      rw [hblk]
      simpa using hu
    · cases hu
abbrev BT : TypeId := 91
abbrev UT : TypeId := 5
theorem bld_keep {w w' : World} {B b : Nat} {bs : List Value} {o : Option Nat} (h : Lib.IsBuilderF BT UT B b bs w) (hg : w.grownBy w' o) (ho : ∀ g, o = some g → ∃ cur fz, w.heap[g]? = some (.cells cur PT10 fz)) : Lib.IsBuilderF BT UT B b bs w' := by
  have one : ∀ p, Lib.BuilderAtF BT UT B b p bs w → Lib.BuilderAtF BT UT B b p bs w' := fun p hp => by
    obtain ⟨hB, v, hb, hown, hne⟩ := hp
    refine ⟨hB, v, (hg.block b (Array.getElem?_eq_some_iff.1 hb).1 fun e => ?_).trans hb, hown.kept hg ?_, hne⟩
    · obtain ⟨cur, fz, h2⟩ := ho b e.symm
      rw [hb] at h2
      injection h2 with h3
      injection h3 with _ h4 _
      revert h4; decide
    · obtain ⟨_, h1 | ⟨g, cap, cur, fz, hv, _, hblk, _⟩⟩ := hown
      · rw [h1.1]; exact Or.inl rfl
      · refine Or.inr fun e => ?_
        rw [hv] at e
        obtain ⟨cur2, fz2, h2⟩ := ho g e.symm
        rw [hblk] at h2
        injection h2 with h3
        injection h3 with _ h4 _
        revert h4; decide
  exact h.elim (fun x => .inl (one _ x)) (fun x => .inr (one _ x))
theorem bld_below {w w' : World} {B b : Nat} {bs : List Value} (h : Lib.IsBuilderF BT UT B b bs w) (hb : Below w.heap.size w w') : Lib.IsBuilderF BT UT B b bs w' :=
  bld_keep (o := none) h ⟨hb.os, hb.tape, hb.output, hb.size, fun k hk _ => hb.block k hk⟩ fun g e => by cases e
theorem bld_lt {w : World} {B b : Nat} {bs : List Value} (h : Lib.IsBuilderF BT UT B b bs w) : b < w.heap.size := h.elim (fun x => x.lt) fun x => x.lt
def bldLen (w : World) (b : Nat) : Nat := match w.cell? ⟨b, 1, none⟩ with
  | some (.slice _ n _) => n
  | _ => 0
theorem bldLen_is {w : World} {B b : Nat} {acc : List UInt8} (h : Lib.IsBuilderF BT UT B b (Lib.byteCells acc) w) : bldLen w b = acc.length := by
  have one : ∀ p, Lib.BuilderAtF BT UT B b p (Lib.byteCells acc) w → bldLen w b = acc.length := fun p hp => by
    obtain ⟨hB, v, hb, hown, hne⟩ := hp
    have hl := Lib.byteCells_length acc
    unfold bldLen
    rw [show w.cell? ⟨b, 1, none⟩ = some v by unfold World.cell?; rw [hb]; rfl]
    obtain ⟨_, h1 | ⟨g, cap, cur, fz, hv, _⟩⟩ := hown
    · rw [h1.1]; show 0 = _; omega
    · rw [hv]; exact hl
  exact h.elim (one _) (one _)
theorem own_others {w w' : World} {lo n b : Nat} {v : Value} {xs : List Value} (h : w.ownsRow lo PT10 2 v n xs) (hk : Lib.OthersKept UT (some b) w w') (hne : v.ownBlock ≠ some b) : w'.ownsRow lo PT10 2 v n xs := by
  refine own_keep h fun g e => ?_
  rcases h.2 with ⟨hv, _⟩ | ⟨g', cap, cur, hv, _, hblk, _⟩
  · rw [hv] at e; cases e
  · rw [hv] at e; cases e
    rw [hk _ _ hblk (fun e2 => hne (by rw [hv]; exact e2)) fun c fz e2 => by injection e2 with _ e3 _; revert e3; decide]
    exact hblk.symm
theorem blk_others {w w' : World} {g b : Nat} {cs : List Value} (h : Blk w g PT10 cs) (hk : Lib.OthersKept UT (some b) w w') (hne : g ≠ b) : Blk w' g PT10 cs :=
  hk _ _ h (fun e => hne (Option.some.inj e)) fun c fz e2 => by injection e2 with _ e3 _; revert e3; decide
structure FmS (w wr : World) (b : Nat) (v : Value) (stk : List Pt) (acc tot : List UInt8) : Prop where
  low : Below w.heap.size w wr
  ge : w.heap.size ≤ b
  bld : Lib.IsBuilderF BT UT b b (Lib.byteCells acc) wr
  row : wr.ownsRow (b + 1) PT10 2 v stk.length (pvs stk)
  txt : acc ++ txP stk.reverse = tot
  ok : ∀ x ∈ stk, LAs w x.2
  few : stk.length ≤ 4 * acc.length + 4
def sLen (v : Value) : Nat := match v with
  | .slice _ n _ => n
  | _ => 0
theorem rune_one {c : UInt8} (h : c.toNat < 128) : Lib.runeCells (c.toNat : Int) = Lib.byteCells [c] := by
  unfold Lib.runeCells
  rw [Lib.encodeRuneZ_one (by omega) (by omega)]
  simp [Lib.byteCells]
theorem nsp_sp (b : Bool) (r : List UInt8) : nsp b (32 :: r) = nsp true r := by rw [nsp, if_pos rfl]
theorem nsp_ch {c : UInt8} (h : c ≠ 32) (b : Bool) (r : List UInt8) : nsp b (c :: r) = (if b = true then [32] else []) ++ (c :: nsp false r) := by rw [nsp, if_neg h]
theorem chr32 {c : UInt8} (h : c ≠ 32) : ¬ ((c.toNat : Int) = 32) := fun e => h (UInt8.toNat_inj.1 (by rw [show (32 : UInt8).toNat = 32 from rfl]; omega))
structure NsS (w wr : World) (S acc : List UInt8) (b : Bool) (pos : Nat) : Prop where
  bld : Lib.IsBuilderF BT UT w.heap.size w.heap.size (Lib.byteCells acc) wr
  it : wr.heap[w.heap.size + 1]? = some (.stringIter ⟨S.toArray⟩ pos)
  low : Below w.heap.size w wr
  txt : acc ++ nsp b (S.drop pos) = nsp false S
  len : acc.length ≤ 2 * pos
  le : pos ≤ S.length
theorem inormS (S : List UInt8) (ha : Asc S) (hl : S.length ≤ 17592186044416) (w : World) :
    Calls Tryz.prog 23 #[.string ⟨S.toArray⟩] w fun e w' => e = .returned (.string ⟨(nsp false S).toArray⟩) ∧ Below w.heap.size w w' := by
  go_enter Tryz.func23, Tryz.ntmps23
  go_wp2_with fail
  go_loopw [4] (fun b wr => ∃ (bb : Bool) (pos : Nat) (acc : List UInt8), b = .bool bb ∧ NsS w wr S acc bb pos) (fun _ wr => S.length - wr.iterPos (w.heap.size + 1))
  case atStart =>
    refine ⟨false, 0, [], rfl, (Lib.IsBuilderF.of (Lib.fresh_isBuilder BT UT w)).alloc _, ?_, ((Below.refl _ w).alloc (Nat.le_refl _) _).alloc (by simp) _, rfl, by simp, Nat.zero_le _⟩
    have := World.iter_heap (w.alloc (.cells #[.pointer none, .slice none 0 0] BT)) ⟨S.toArray⟩ 0
    simpa using this
  case round =>
    obtain ⟨bb, pos, acc, rfl, hN⟩ := hrel
    have hit := hN.it
    have hsz : w.heap.size + 1 < wr.heap.size := (Array.getElem?_eq_some_iff.1 hit).1
    have hss : (⟨S.toArray⟩ : ByteArray).size = S.length := by show S.toArray.size = _; rw [List.size_toArray]
    by_cases hp : pos < S.length
    · obtain ⟨c, hc⟩ : ∃ c, S[pos] = c := ⟨_, rfl⟩
      have hca : c.toNat < 128 := by rw [← hc]; exact ha _ (List.getElem_mem hp)
      have hdr : S.drop pos = c :: S.drop (pos + 1) := by rw [← hc]; exact List.drop_eq_getElem_cons hp
      have hnx : ∀ ty, (Instr.next (.pointer (some ⟨w.heap.size + 1, 0, none⟩)) true ty).run Tryz.prog wr = .ok (.tuple #[.bool true, .int .i64 pos, .int .i32 (c.toNat : Nat)]) (wr.iterAt (w.heap.size + 1) ⟨S.toArray⟩ (pos + 1)) := fun ty => by
        have h1 : ((⟨S.toArray⟩ : ByteArray)[pos]'(by rw [hss]; exact hp)) = c := by rw [← hc]; rfl
        have h2 := Lib.run_next_ascii_at (P := Tryz.prog) wr (w.heap.size + 1) ⟨S.toArray⟩ pos ty hit (by rw [hss]; exact hp) (by rw [h1]; exact hca)
        rw [h1] at h2; exact h2
      have hI2 := hid (hN.bld.iterAt hit (pos + 1))
      have hit2 := hid (Lib.iterAt_heap wr (w.heap.size + 1) ⟨S.toArray⟩ pos (pos + 1) hit)
      have hbw2 := hid (Lib.below_iterAt hN.low (k := w.heap.size + 1) (by omega) ⟨S.toArray⟩ (pos + 1))
      have hsz2 : w.heap.size ≤ (wr.iterAt (w.heap.size + 1) ⟨S.toArray⟩ (pos + 1)).heap.size := by rw [Lib.iterAt_size]; omega
      have htx := hid hN.txt
      have hal := hN.len
      have hpo := hid (show wr.iterPos (w.heap.size + 1) = pos by simp only [World.iterPos, hit])
      clear hN hss
      by_cases h32 : c = 32
      · subst h32
        have t1 : (((32 : UInt8).toNat : Nat) : Int) = 32 := rfl
        replace hit := hid hit
        go_wp2_with fail
        refine ⟨⟨true, pos + 1, acc, rfl, hI2.out, hit2.out, hbw2.out, ?_, by omega, hp⟩, ?_⟩
        · rw [← htx.out, hdr, nsp_sp]
        · rw [hpo.out, show (wr.iterAt (w.heap.size + 1) ⟨S.toArray⟩ (pos + 1)).iterPos (w.heap.size + 1) = pos + 1 by simp only [World.iterPos, hit2.out]]; omega
      · have hne := chr32 h32
        have hch := nsp_ch h32 bb (S.drop (pos + 1))
        rw [← hdr] at hch
        replace hch := hid hch
        replace hit := hid hit
        cases bb with
        | false =>
          have hwr := hid (Bld.writeRune w.heap.size w.heap.size _ (c.toNat : Int) (by omega) (by omega) _ hI2.out (by rw [Lib.byteCells_length]; omega) hsz2)
          generalize hW1 : wr.iterAt (w.heap.size + 1) ⟨S.toArray⟩ (pos + 1) = W1 at *
          go_wp2_with fail
          refine hwr.out.mono ?_
          rintro e W2 ⟨rfl, h1, b1, k1⟩
          have hit3 := hid (k1.iter hit2.out (by omega))
          replace h1 := hid h1
          replace b1 := hid b1
          clear k1 hwr
          go_wp2_with fail
          refine ⟨⟨false, pos + 1, acc ++ [c], rfl, ?_, hit3.out, hbw2.out.trans b1.out, ?_, by simp; omega, hp⟩, ?_⟩
          · rw [Lib.byteCells_append, ← rune_one hca]; exact Or.inr h1.out
          · rw [← htx.out, hch.out]; simp
          · rw [hpo.out]; simp only [World.iterPos, hit3.out]; omega
        | true =>
          have hwb := hid (Bld.writeByte w.heap.size w.heap.size _ 32 _ hI2.out (by rw [Lib.byteCells_length]; omega) hsz2)
          generalize hW1 : wr.iterAt (w.heap.size + 1) ⟨S.toArray⟩ (pos + 1) = W1 at *
          go_wp2_with fail
          refine hwb.out.mono ?_
          rintro e W2 ⟨rfl, h1, b1, k1⟩
          have hit3 := hid (k1.iter hit2.out (by omega))
          have hI3 : Lib.IsBuilderF BT UT w.heap.size w.heap.size (Lib.byteCells (acc ++ [32])) W2 := by
            rw [show Lib.byteCells (acc ++ [32]) = Lib.byteCells acc ++ [.int .u8 32] by simp [Lib.byteCells]]
            exact Or.inr h1
          have hwr := hid (Bld.writeRune w.heap.size w.heap.size _ (c.toNat : Int) (by omega) (by omega) _ hI3 (by rw [Lib.byteCells_length, List.length_append]; simp; omega) (by have := b1.size; omega))
          replace b1 := hid b1
          clear k1 hwb h1
          replace hI3 := hid hI3
          go_wp2_with fail
          refine hwr.out.mono ?_
          rintro e W3 ⟨rfl, h2, b2, k2⟩
          have hit4 := hid (k2.iter hit3.out (by omega))
          replace h2 := hid h2
          replace b2 := hid b2
          clear k2 hwr
          go_wp2_with fail
          refine ⟨⟨false, pos + 1, acc ++ [32] ++ [c], rfl, ?_, hit4.out, (hbw2.out.trans b1.out).trans b2.out, ?_, by simp; omega, hp⟩, ?_⟩
          · rw [Lib.byteCells_append, ← rune_one hca]; exact Or.inr h2.out
          · rw [← htx.out, hch.out]; simp
          · rw [hpo.out]; simp only [World.iterPos, hit4.out]; omega
    · have hnx : ∀ ty, (Instr.next (.pointer (some ⟨w.heap.size + 1, 0, none⟩)) true ty).run Tryz.prog wr = _ := fun ty => Lib.run_next_end_at wr (w.heap.size + 1) ⟨S.toArray⟩ pos ty hit (by rw [hss]; exact hp)
      have htx := hN.txt
      rw [List.drop_eq_nil_of_le (by omega), show nsp bb [] = [] by cases bb <;> rfl, List.append_nil] at htx
      have hst := hid (Bld.string_ w.heap.size w.heap.size acc _ hN.bld (by omega))
      have hlow := hid hN.low
      clear hN
      go_wp2_with fail
      refine hst.out.mono ?_
      rintro e W1 ⟨rfl, -, b1, -⟩
      replace b1 := hid b1
      clear hst
      go_wp2_with fail
      go_ret
      subst htx
      exact ⟨rfl, hlow.out.trans b1.out⟩
end Go.Proofs.YtiogceepjffmkaaGreatDoor.Gp
