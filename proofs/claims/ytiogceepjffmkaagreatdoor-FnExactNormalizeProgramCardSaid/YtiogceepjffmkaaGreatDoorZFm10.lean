/- The program's formatStmt by its contract. -/
import Derived.Test.YtiogceepjffmkaaGreatDoorZMew
import Derived.Test.YtiogceepjffmkaaGreatDoorZNvx
set_option maxHeartbeats 16000000
set_option maxRecDepth 100000
namespace Go.Proofs.YtiogceepjffmkaaGreatDoor.Gp
open Go.RowKit Go.Lib Go.Sort Com Mem Ow YtiogceepjffmkaaGreatDoor.Os Tr Tk Im Ag Pl Kd Gs Gd
theorem own_cut {w : World} {lo e sz n m c : Nat} {A : Option Addr} {xs : List Value} (h : w.ownsRow lo e sz (.slice A n c) n xs) (hm : m ≤ n) : w.ownsRow lo e sz (.slice A m c) m (xs.take (m * sz)) := by
  obtain ⟨hl, h | ⟨g, cap, cur, hv, hg, hblk, h1, h2, h3, h4⟩⟩ := h
  · obtain ⟨hv, h0⟩ := h
    injection hv with q1 q2 q3
    subst q1 q3
    have : m = 0 := by omega
    subst this
    exact ⟨by simp, Or.inl ⟨rfl, rfl⟩⟩
  · injection hv with q1 q2 q3
    subst q1 q3
    have hmul : m * sz ≤ n * sz := Nat.mul_le_mul_right _ hm
    refine ⟨by rw [List.length_take, hl]; omega, Or.inr ⟨g, c, cur, rfl, hg, hblk, by omega, h2, h3, ?_⟩⟩
    rw [← h4, List.take_take, Nat.min_eq_left hmul]
theorem own_at {w : World} {lo e sz n : Nat} {v : Value} {xs : List Value} (h : w.ownsRow lo e sz v n xs) (hn : n ≠ 0) : ∃ g c, v = .slice (some ⟨g, 0, none⟩) n c ∧ lo ≤ g ∧ g < w.heap.size ∧ n ≤ c ∧ (∃ cur, w.heap[g]? = some (.cells cur e (0, 0))) ∧ ∀ j u, xs[j]? = some u → w.cell? ⟨g, j, none⟩ = some u := by
  obtain ⟨hl, h | ⟨g, cap, cur, hv, hg, hblk, h1, h2, h3, h4⟩⟩ := h
  · exact absurd h.2 hn
  · refine ⟨g, cap, hv, hg, (Array.getElem?_eq_some_iff.1 hblk).1, h1, ⟨cur, hblk⟩, fun j u hu => ?_⟩
    rw [← h4, List.getElem?_take] at hu
    split at hu
    · unfold World.cell?
      rw [hblk]
      simpa using hu
    · cases hu
abbrev BT : TypeId := 91
abbrev UT : TypeId := 5
theorem bld_keep {w w' : World} {B b : Nat} {bs : List Value} {o : Option Nat} (h : Lib.IsBuilderF BT UT B b bs w) (hg : w.grownBy w' o) (ho : ∀ g, o = some g → ∃ cur fz, w.heap[g]? = some (.cells cur PT10 fz)) : Lib.IsBuilderF BT UT B b bs w' := by
  have one : ∀ p, Lib.BuilderAtF BT UT B b p bs w → Lib.BuilderAtF BT UT B b p bs w' := fun p hp => by
    obtain ⟨hB, v, hb, hown, hne⟩ := hp
    refine ⟨hB, v, (hg.block b (Array.getElem?_eq_some_iff.1 hb).1 fun e => ?_).trans hb, hown.kept hg ?_, hne⟩
    · obtain ⟨cur, fz, h2⟩ := ho b e.symm
      rw [hb] at h2
      injection h2 with h3
      injection h3 with _ h4 _
      revert h4; decide
    · obtain ⟨_, h1 | ⟨g, cap, cur, fz, hv, _, hblk, _⟩⟩ := hown
      · rw [h1.1]; exact Or.inl rfl
      · refine Or.inr fun e => ?_
        rw [hv] at e
        obtain ⟨cur2, fz2, h2⟩ := ho g e.symm
        rw [hblk] at h2
        injection h2 with h3
        injection h3 with _ h4 _
        revert h4; decide
  exact h.elim (fun x => .inl (one _ x)) (fun x => .inr (one _ x))
theorem bld_below {w w' : World} {B b : Nat} {bs : List Value} (h : Lib.IsBuilderF BT UT B b bs w) (hb : Below w.heap.size w w') : Lib.IsBuilderF BT UT B b bs w' :=
  bld_keep (o := none) h ⟨hb.os, hb.tape, hb.output, hb.size, fun k hk _ => hb.block k hk⟩ fun g e => by cases e
theorem bld_lt {w : World} {B b : Nat} {bs : List Value} (h : Lib.IsBuilderF BT UT B b bs w) : b < w.heap.size := h.elim (fun x => x.lt) fun x => x.lt
def bldLen (w : World) (b : Nat) : Nat := match w.cell? ⟨b, 1, none⟩ with
  | some (.slice _ n _) => n
  | _ => 0
theorem bldLen_is {w : World} {B b : Nat} {acc : List UInt8} (h : Lib.IsBuilderF BT UT B b (Lib.byteCells acc) w) : bldLen w b = acc.length := by
  have one : ∀ p, Lib.BuilderAtF BT UT B b p (Lib.byteCells acc) w → bldLen w b = acc.length := fun p hp => by
    obtain ⟨hB, v, hb, hown, hne⟩ := hp
    have hl := Lib.byteCells_length acc
    unfold bldLen
    rw [show w.cell? ⟨b, 1, none⟩ = some v by unfold World.cell?; rw [hb]; rfl]
    obtain ⟨_, h1 | ⟨g, cap, cur, fz, hv, _⟩⟩ := hown
    · rw [h1.1]; show 0 = _; omega
    · rw [hv]; exact hl
  exact h.elim (one _) (one _)
theorem own_others {w w' : World} {lo n b : Nat} {v : Value} {xs : List Value} (h : w.ownsRow lo PT10 2 v n xs) (hk : Lib.OthersKept UT (some b) w w') (hne : v.ownBlock ≠ some b) : w'.ownsRow lo PT10 2 v n xs := by
  refine own_keep h fun g e => ?_
  rcases h.2 with ⟨hv, _⟩ | ⟨g', cap, cur, hv, _, hblk, _⟩
  · rw [hv] at e; cases e
  · rw [hv] at e; cases e
    rw [hk _ _ hblk (fun e2 => hne (by rw [hv]; exact e2)) fun c fz e2 => by injection e2 with _ e3 _; revert e3; decide]
    exact hblk.symm
theorem blk_others {w w' : World} {g b : Nat} {cs : List Value} (h : Blk w g PT10 cs) (hk : Lib.OthersKept UT (some b) w w') (hne : g ≠ b) : Blk w' g PT10 cs :=
  hk _ _ h (fun e => hne (Option.some.inj e)) fun c fz e2 => by injection e2 with _ e3 _; revert e3; decide
structure FmS (w wr : World) (b : Nat) (v : Value) (stk : List Pt) (acc tot : List UInt8) : Prop where
  low : Below w.heap.size w wr
  ge : w.heap.size ≤ b
  bld : Lib.IsBuilderF BT UT b b (Lib.byteCells acc) wr
  row : wr.ownsRow (b + 1) PT10 2 v stk.length (pvs stk)
  txt : acc ++ txP stk.reverse = tot
  ok : ∀ x ∈ stk, LAs w x.2
  few : stk.length ≤ 4 * acc.length + 4
def sLen (v : Value) : Nat := match v with
  | .slice _ n _ => n
  | _ => 0
theorem rune_one {c : UInt8} (h : c.toNat < 128) : Lib.runeCells (c.toNat : Int) = Lib.byteCells [c] := by
  unfold Lib.runeCells
  rw [Lib.encodeRuneZ_one (by omega) (by omega)]
  simp [Lib.byteCells]
theorem nsp_sp (b : Bool) (r : List UInt8) : nsp b (32 :: r) = nsp true r := by rw [nsp, if_pos rfl]
theorem nsp_ch {c : UInt8} (h : c ≠ 32) (b : Bool) (r : List UInt8) : nsp b (c :: r) = (if b = true then [32] else []) ++ (c :: nsp false r) := by rw [nsp, if_neg h]
theorem chr32 {c : UInt8} (h : c ≠ 32) : ¬ ((c.toNat : Int) = 32) := fun e => h (UInt8.toNat_inj.1 (by rw [show (32 : UInt8).toNat = 32 from rfl]; omega))
structure NsS (w wr : World) (S acc : List UInt8) (b : Bool) (pos : Nat) : Prop where
  bld : Lib.IsBuilderF BT UT w.heap.size w.heap.size (Lib.byteCells acc) wr
  it : wr.heap[w.heap.size + 1]? = some (.stringIter ⟨S.toArray⟩ pos)
  low : Below w.heap.size w wr
  txt : acc ++ nsp b (S.drop pos) = nsp false S
  len : acc.length ≤ 2 * pos
  le : pos ≤ S.length
theorem inormS (S : List UInt8) (ha : Asc S) (hl : S.length ≤ 17592186044416) (w : World) :
    Calls Tryz.prog 23 #[.string ⟨S.toArray⟩] w fun e w' => e = .returned (.string ⟨(nsp false S).toArray⟩) ∧ Below w.heap.size w w' := by
  go_enter Tryz.func23, Tryz.ntmps23
  go_wp2_with fail
  go_loopw [4] (fun b wr => ∃ (bb : Bool) (pos : Nat) (acc : List UInt8), b = .bool bb ∧ NsS w wr S acc bb pos) (fun _ wr => S.length - wr.iterPos (w.heap.size + 1))
  case atStart =>
    refine ⟨false, 0, [], rfl, (Lib.IsBuilderF.of (Lib.fresh_isBuilder BT UT w)).alloc _, ?_, ((Below.refl _ w).alloc (Nat.le_refl _) _).alloc (by simp) _, rfl, by simp, Nat.zero_le _⟩
    have := World.iter_heap (w.alloc (.cells #[.pointer none, .slice none 0 0] BT)) ⟨S.toArray⟩ 0
    simpa using this
  case round =>
    obtain ⟨bb, pos, acc, rfl, hN⟩ := hrel
    have hit := hN.it
    have hsz : w.heap.size + 1 < wr.heap.size := (Array.getElem?_eq_some_iff.1 hit).1
    have hss : (⟨S.toArray⟩ : ByteArray).size = S.length := by show S.toArray.size = _; rw [List.size_toArray]
    by_cases hp : pos < S.length
    · obtain ⟨c, hc⟩ : ∃ c, S[pos] = c := ⟨_, rfl⟩
      have hca : c.toNat < 128 := by rw [← hc]; exact ha _ (List.getElem_mem hp)
      have hdr : S.drop pos = c :: S.drop (pos + 1) := by rw [← hc]; exact List.drop_eq_getElem_cons hp
      have hnx : ∀ ty, (Instr.next (.pointer (some ⟨w.heap.size + 1, 0, none⟩)) true ty).run Tryz.prog wr = .ok (.tuple #[.bool true, .int .i64 pos, .int .i32 (c.toNat : Nat)]) (wr.iterAt (w.heap.size + 1) ⟨S.toArray⟩ (pos + 1)) := fun ty => by
        have h1 : ((⟨S.toArray⟩ : ByteArray)[pos]'(by rw [hss]; exact hp)) = c := by rw [← hc]; rfl
        have h2 := Lib.run_next_ascii_at (P := Tryz.prog) wr (w.heap.size + 1) ⟨S.toArray⟩ pos ty hit (by rw [hss]; exact hp) (by rw [h1]; exact hca)
        rw [h1] at h2; exact h2
      have hI2 := hid (hN.bld.iterAt hit (pos + 1))
      have hit2 := hid (Lib.iterAt_heap wr (w.heap.size + 1) ⟨S.toArray⟩ pos (pos + 1) hit)
      have hbw2 := hid (Lib.below_iterAt hN.low (k := w.heap.size + 1) (by omega) ⟨S.toArray⟩ (pos + 1))
      have hsz2 : w.heap.size ≤ (wr.iterAt (w.heap.size + 1) ⟨S.toArray⟩ (pos + 1)).heap.size := by rw [Lib.iterAt_size]; omega
      have htx := hid hN.txt
      have hal := hN.len
      have hpo := hid (show wr.iterPos (w.heap.size + 1) = pos by simp only [World.iterPos, hit])
      clear hN hss
      by_cases h32 : c = 32
      · subst h32
        have t1 : (((32 : UInt8).toNat : Nat) : Int) = 32 := rfl
        replace hit := hid hit
        go_wp2_with fail
        refine ⟨⟨true, pos + 1, acc, rfl, hI2.out, hit2.out, hbw2.out, ?_, by omega, hp⟩, ?_⟩
        · rw [← htx.out, hdr, nsp_sp]
        · rw [hpo.out, show (wr.iterAt (w.heap.size + 1) ⟨S.toArray⟩ (pos + 1)).iterPos (w.heap.size + 1) = pos + 1 by simp only [World.iterPos, hit2.out]]; omega
      · have hne := chr32 h32
        have hch := nsp_ch h32 bb (S.drop (pos + 1))
        rw [← hdr] at hch
        replace hch := hid hch
        replace hit := hid hit
        cases bb with
        | false =>
          have hwr := hid (Bld.writeRune w.heap.size w.heap.size _ (c.toNat : Int) (by omega) (by omega) _ hI2.out (by rw [Lib.byteCells_length]; omega) hsz2)
          generalize hW1 : wr.iterAt (w.heap.size + 1) ⟨S.toArray⟩ (pos + 1) = W1 at *
          go_wp2_with fail
          refine hwr.out.mono ?_
          rintro e W2 ⟨rfl, h1, b1, k1⟩
          have hit3 := hid (k1.iter hit2.out (by omega))
          replace h1 := hid h1
          replace b1 := hid b1
          clear k1 hwr
          go_wp2_with fail
          refine ⟨⟨false, pos + 1, acc ++ [c], rfl, ?_, hit3.out, hbw2.out.trans b1.out, ?_, by simp; omega, hp⟩, ?_⟩
          · rw [Lib.byteCells_append, ← rune_one hca]; exact Or.inr h1.out
          · rw [← htx.out, hch.out]; simp
          · rw [hpo.out]; simp only [World.iterPos, hit3.out]; omega
        | true =>
          have hwb := hid (Bld.writeByte w.heap.size w.heap.size _ 32 _ hI2.out (by rw [Lib.byteCells_length]; omega) hsz2)
          generalize hW1 : wr.iterAt (w.heap.size + 1) ⟨S.toArray⟩ (pos + 1) = W1 at *
          go_wp2_with fail
          refine hwb.out.mono ?_
          rintro e W2 ⟨rfl, h1, b1, k1⟩
          have hit3 := hid (k1.iter hit2.out (by omega))
          have hI3 : Lib.IsBuilderF BT UT w.heap.size w.heap.size (Lib.byteCells (acc ++ [32])) W2 := by
            rw [show Lib.byteCells (acc ++ [32]) = Lib.byteCells acc ++ [.int .u8 32] by simp [Lib.byteCells]]
            exact Or.inr h1
          have hwr := hid (Bld.writeRune w.heap.size w.heap.size _ (c.toNat : Int) (by omega) (by omega) _ hI3 (by rw [Lib.byteCells_length, List.length_append]; simp; omega) (by have := b1.size; omega))
          replace b1 := hid b1
          clear k1 hwb h1
          replace hI3 := hid hI3
          go_wp2_with fail
          refine hwr.out.mono ?_
          rintro e W3 ⟨rfl, h2, b2, k2⟩
          have hit4 := hid (k2.iter hit3.out (by omega))
          replace h2 := hid h2
          replace b2 := hid b2
          clear k2 hwr
          go_wp2_with fail
          refine ⟨⟨false, pos + 1, acc ++ [32] ++ [c], rfl, ?_, hit4.out, (hbw2.out.trans b1.out).trans b2.out, ?_, by simp; omega, hp⟩, ?_⟩
          · rw [Lib.byteCells_append, ← rune_one hca]; exact Or.inr h2.out
          · rw [← htx.out, hch.out]; simp
          · rw [hpo.out]; simp only [World.iterPos, hit4.out]; omega
    · have hnx : ∀ ty, (Instr.next (.pointer (some ⟨w.heap.size + 1, 0, none⟩)) true ty).run Tryz.prog wr = _ := fun ty => Lib.run_next_end_at wr (w.heap.size + 1) ⟨S.toArray⟩ pos ty hit (by rw [hss]; exact hp)
      have htx := hN.txt
      rw [List.drop_eq_nil_of_le (by omega), show nsp bb [] = [] by cases bb <;> rfl, List.append_nil] at htx
      have hst := hid (Bld.string_ w.heap.size w.heap.size acc _ hN.bld (by omega))
      have hlow := hid hN.low
      clear hN
      go_wp2_with fail
      refine hst.out.mono ?_
      rintro e W1 ⟨rfl, -, b1, -⟩
      replace b1 := hid b1
      clear hst
      go_wp2_with fail
      go_ret
      subst htx
      exact ⟨rfl, hlow.out.trans b1.out⟩
end Go.Proofs.YtiogceepjffmkaaGreatDoor.Gp
set_option maxRecDepth 100000
namespace Go.Proofs.YtiogceepjffmkaaGreatDoor.Sr
open Go.RowKit Go.Lib Go.Sort Com Mem YtiogceepjffmkaaGreatDoor.Os Tr Pl Gd YtiogceepjffmkaaGreatDoor.Nm C2
def kB (k : Int) (s : List UInt8) (nb ne : Bool) : Bool :=
  if k = 1 then nb && ne else if k = 2 then (s == []) else if k = 3 then (s == []) && ne else if k = 4 then ((s == []) && nb) && ne else false
mutual
def kOk : St → Bool
  | .mk k s _ bs es => kOks bs && (kOks es && kB k s ((bs.length : Int) == 0) ((es.length : Int) == 0))
def kOks : List St → Bool
  | [] => true
  | a :: r => kOk a && kOks r
end
theorem kOk_mk (k : Int) (s : List UInt8) (e : T) (bs es : List St) : kOk (.mk k s e bs es) = (kOks bs && (kOks es && kB k s ((bs.length : Int) == 0) ((es.length : Int) == 0))) := by rw [kOk]
theorem kOks_not {L : List St} {m : Nat} (h : m < L.length) (hf : kOk L[m] = false) : kOks L = false := by
  induction L generalizing m with
  | nil => simp at h
  | cons a r ih =>
    rw [kOks]
    cases m with
    | zero => rw [List.getElem_cons_zero] at hf; rw [hf]; rfl
    | succ m => rw [ih (by simpa using h) (by simpa using hf), Bool.and_false]
theorem kOks_all {L : List St} (h : ∀ j, (hj : j < L.length) → kOk L[j] = true) : kOks L = true := by
  induction L with
  | nil => rfl
  | cons a r ih =>
    rw [kOks, show kOk a = true from h 0 (by simp), Bool.true_and]
    exact ih fun j hj => h (j + 1) (by simpa using hj)
theorem ok_k (V : List (List UInt8)) (t : St) : okSt V t = true → kOk t = true := by
  induction t using St.ind with
  | h k s e bs es h1 h2 =>
    intro h
    rw [okSt_mk] at h
    simp only [Bool.and_eq_true] at h
    obtain ⟨_, hb, he, hk⟩ := h
    have sub : ∀ L : List St, (∀ a ∈ L, okSt V a = true → kOk a = true) → okSts V L = true → kOks L = true := fun L hL hh => by
      refine kOks_all fun j hj => hL _ (List.getElem_mem _) ?_
      cases hq : okSt V L[j]
      · rw [okSts_not hj hq] at hh; cases hh
      · rfl
    rw [kOk_mk, sub bs h1 hb, sub es h2 he, Bool.true_and, Bool.true_and]
    unfold kindB at hk
    unfold kB
    by_cases e1 : k = 1
    · rw [if_pos e1] at hk ⊢; simp only [Bool.and_eq_true] at hk ⊢; exact ⟨hk.2.1, hk.2.2⟩
    · rw [if_neg e1] at hk ⊢
      by_cases e2 : k = 2
      · rw [if_pos e2] at hk ⊢; exact hk
      · rw [if_neg e2] at hk ⊢
        by_cases e3 : k = 3
        · rw [if_pos e3] at hk ⊢; exact hk
        · rw [if_neg e3] at hk ⊢
          by_cases e4 : k = 4
          · rw [if_pos e4] at hk ⊢; simp only [Bool.and_eq_true] at hk ⊢; exact ⟨⟨hk.1, hk.2.1⟩, hk.2.2⟩
          · rw [if_neg e4] at hk; cases hk
theorem oks_k {V : List (List UInt8)} {L : List St} (h : kOks L = false) : okSts V L = false := by
  cases hq : okSts V L
  · rfl
  · have : kOks L = true := kOks_all fun j hj => ok_k V _ (by
      cases hj' : okSt V L[j]
      · rw [okSts_not hj hj'] at hq; cases hq
      · rfl)
    rw [this] at h; cases h
def RSt (t : St) : Prop := ∀ (B : Nat) (cs : List Value) (w : World), B ≤ w.heap.size → Rd8 (pln w) B cs t.d → cntSt t ≤ 4000000 → Calls Tryz.prog 93 #[.agg cs.toArray] w fun e w' => ∃ X, e = .returned (.tuple #[X, .bool (kOk t)]) ∧ OneI X ∧ (kOk t = true → StR (plz w' (ivb B w.heap.size)) w'.heap.size X t) ∧ Below w.heap.size w w'
theorem rstmts (L : List St) (ih : ∀ a ∈ L, RSt a) (B : Nat) (A : Option Addr) (c : Nat) (rows : Nat → List Value) (w : World) (hB : B ≤ w.heap.size) (hk : Row (pln w) B 1 A (dl L) rows) (hl : L.length ≤ 4000000) (hsz : cntL L ≤ 4000000) :
    Calls Tryz.prog 53 #[.slice A L.length c] w fun e w' => ∃ A' n' c', e = .returned (.tuple #[.slice A' n' c', .bool (kOks L)]) ∧ (kOks L = true → n' = L.length ∧ ∃ rows', RowR (plz w' (ivb B w.heap.size)) w'.heap.size A' L rows') ∧ Below w.heap.size w w' := by
  have hl63 : L.length ≤ 9223372036854775807 := by omega
  have hn := hid (show L.length = L.length from rfl)
  generalize hL : L.length = n at *
  go_enter Tryz.func53, Tryz.ntmps53
  go_wp2_with fail
  go_loopw [4, 11] (fun v i wr => ∃ m : Nat, i = .int .i64 (m : Nat) ∧ m ≤ n ∧ Below w.heap.size w wr ∧ GrowR wr w.heap.size (ivb B w.heap.size) v (L.take m) ∧ (∀ j, (hj : j < L.length) → j < m → kOk L[j] = true)) (fun _ i _ => n - (Go.RowKit.intOf i).toNat)
  case atStart => exact ⟨0, rfl, Nat.zero_le _, Below.refl _ _, by rw [List.take_zero]; exact GrowR.nil _ _ _, fun j hj h => absurd h (Nat.not_lt_zero _)⟩
  case round =>
    obtain ⟨m, rfl, hm, hb, hG, hall⟩ := hrel
    replace hall := hid hall
    by_cases hlt : m < n
    · have t0 : decide ((m : Int) < (n : Int)) = true := decide_eq_true (by omega)
      have t1 : (m : Int) < (n : Int) := by omega
      have hml : m < L.length := by omega
      obtain ⟨hw8, ad, hA, hBd, hld⟩ := hk.cell m (by simpa [dl] using hml)
      have hkr := hk.kid m L[m].d (by simp [dl, List.getElem?_eq_getElem hml])
      subst hA
      have hld2 : LdN wr (ad.add (m * 8)) (rows m) := fun i u hu => by
        rw [show wr.cell? ((ad.add (m * 8)).add i) = w.cell? ((ad.add (m * 8)).add i) from hb.cell (by rw [add_block, add_block]; omega)]
        exact (pln_cell (hld i u hu)).1
      have hszm : cntSt L[m] ≤ 4000000 := Nat.le_trans (cntSt_mem (List.getElem_mem _)) hsz
      have hck := hid (fun (W : World) (hW : Below w.heap.size w W) => ih _ (List.getElem_mem hml) B _ W (Nat.le_trans hB hW.size) (hkr.cry (cry_pb (hW.mono hB)) (Nat.le_refl _)) hszm)
      have htk : L.take (m + 1) = L.take m ++ [L[m]] := List.take_succ_eq_append_getElem hml
      have hno := hid (fun (h : kOk L[m] = false) => kOks_not hml h)
      have hnx := hid (fun (h : kOk L[m] = true) (j : Nat) (hj : j < L.length) (hjm : j < m + 1) => show kOk L[j] = true by
        by_cases e : j = m
        · subst e; exact h
        · exact hall.out j hj (by omega))
      generalize hT : L[m] = t at *
      replace htk := hid htk
      obtain ⟨k, s, e, bs, es⟩ := t
      rw [St.d_mk] at hkr
      obtain ⟨ek, en, en', A1, l1, c1, Bb, cb, C1, cc, rb, rc, e8, -⟩ := st_inv hkr
      rw [e8] at hck hld2
      obtain ⟨k0, k1, k2, k3, k4, k5, k6, k7⟩ := ld8 hld2
      clear hld2 hkr e8 hld hw8 hT
      have hbA := box_below wr (.cells (sc k s ek en en' A1 l1 c1 Bb (dl bs).length cb C1 (dl es).length cc).toArray 60)
      have hBn := hid (Blk.new wr 60 (sc k s ek en en' A1 l1 c1 Bb (dl bs).length cb C1 (dl es).length cc))
      have hbT := hid (hb.trans (hbA.mono hb.size))
      have hcall := hid (hck.out _ hbT.out)
      have hGA := hid (hG.below hbA)
      have hown := hid (fun b (h : u4.ownBlock = some b) => hG.own h)
      have hwr := hb.size
      clear hck hG hbA
      generalize (dl bs).length = lb at *
      generalize (dl es).length = le at *
      generalize hTT : St.mk k s e bs es = tt at *
      generalize hok : kOk tt = ok at *
      obtain ⟨b0, b1, b2, b3, b4, b5, b6, b7⟩ := eight hBn.out
      cases ok with
      | false =>
        have hf := hid (hno.out rfl)
        clear hno hnx
        go_wp2_with fail
        refine hcall.out.mono ?_
        rintro e2 w2 ⟨X, rfl, hX, -, hb2⟩
        have hb3 := hid (hbT.out.trans (hb2.mono hbT.out.size))
        clear hb2 hcall hGA b0 b1 b2 b3 b4 b5 b6 b7 k0 k1 k2 k3 k4 k5 k6 k7
        rcases hX with rfl | ⟨tX, yX, rfl⟩
        all_goals
          go_wp2_with fail
          go_ret2
          exact ⟨none, 0, 0, by rw [hf.out]; rfl, (fun h => by rw [hf.out] at h; cases h), hb3.out⟩
      | true =>
        have hnx2 := hid (hnx.out rfl)
        clear hno hnx
        go_wp2_with fail
        refine hcall.out.mono ?_
        rintro e2 w2 ⟨X, rfl, hX, hSt, hb2⟩
        have hb3 := hid (hbT.out.trans (hb2.mono hbT.out.size))
        have hG2 := hid (hGA.out.below hb2)
        have hs2 := hb2.size
        rw [size_alloc'] at hs2
        have hSt2 := hid ((hSt trivial).cry (cry_z (w' := w2) (S' := wow (ivb B w.heap.size) u4.ownBlock) fun k hk hS => by
          rw [size_alloc'] at hS
          refine ⟨wow_no (ivb_no ?_) fun e => ?_, rfl⟩
          · have := ivb_of hS; omega
          · have h1 := hown.out k e
            have := ivb_of hS; omega) (Nat.le_refl _))
        obtain ⟨tX, yX, rfl⟩ := hSt2.out.form
        have hlo : w.heap.size ≤ w2.heap.size := by omega
        have hnb : (L.take m).length < 1000000000 := by rw [List.length_take]; omega
        clear hb2 hcall hGA hSt b0 b1 b2 b3 b4 b5 b6 b7 k0 k1 k2 k3 k4 k5 k6 k7 hs2 hwr hok hBn
        go_wp2_with (at_builtin; refine GrowR.app hG2.out hlo (.iface tX yX) tt rfl hSt2.out hnb rfl _ _ rfl rfl w2.heap.size rfl rfl ?_; intro v7 w7 hG7 hg7; rw [← htk.out] at hG7; have hG7 := hid hG7; have hb7 := hid (hb3.out.grown hg7 hb3.out.size fun k hk => (hG2.out.own hk).1); clear hg7)
        exact ⟨⟨m + 1, by go_num, by omega, hb7.out, hG7.out, hnx2.out⟩, by simp [Go.RowKit.intOf]; omega⟩
    · obtain rfl : m = n := by omega
      have t0 : decide ((m : Int) < (m : Int)) = false := decide_eq_false (by omega)
      rw [List.take_of_length_le (by omega)] at hG
      obtain ⟨A', c', rows', e', hr, _⟩ := hG.rd fun k hk => ivb_no (Or.inr hk)
      rw [hL] at e'
      subst e'
      have hf := hid (kOks_all fun j hj => hall.out j hj (by omega))
      replace hb := hid hb
      replace hr := hid hr
      go_wp2_with fail
      go_ret2
      exact ⟨A', _, c', by rw [hf.out]; rfl, fun _ => ⟨rfl, rows', hr.out⟩, hb.out⟩
theorem emp {L : List St} {q : Bool} (h : ((L.length : Int) == 0) = q) (hq : q = true) : L = [] := by
  subst hq
  have := beq_iff_eq.1 h
  exact List.eq_nil_of_length_eq_zero (by omega)
theorem emps {s : List UInt8} {q : Bool} (h : (s == []) = q) (hq : q = true) : s = [] := by
  subst hq; exact beq_iff_eq.1 h
theorem rstmt (t : St) : RSt t := by
  induction t using St.ind with
  | h k s e bs es ihb ihe =>
    intro B cs w hB hv hsz
    rw [St.d_mk] at hv
    simp only [cntSt] at hsz
    have hlb0 := len_cntL bs
    have hlc0 := len_cntL es
    obtain ⟨ek, en, en', A1, l1, c1, Bb, cb, C1, cc, rb, rc, rfl, hs, hx, hrb, hlb, hrc, hlc⟩ := st_inv hv
    rw [dl_len] at hlb hlc ⊢
    rw [dl_len]
    have hb1 := box_below w (.cells (sc k s ek en en' A1 l1 c1 Bb bs.length cb C1 es.length cc).toArray 60)
    have hBn := hid (Blk.new w 60 (sc k s ek en en' A1 l1 c1 Bb bs.length cb C1 es.length cc))
    have hc1 := hid (rstmts bs ihb B Bb cb rb _ (Nat.le_trans hB hb1.size) (hrb.cry (cry_pb (hb1.mono hB)) (Nat.le_refl _)) (by omega) (by omega))
    have hc2 := hid (fun (W : World) (hW : Below w.heap.size w W) => rstmts es ihe B C1 cc rc W (Nat.le_trans hB hW.size) (hrc.cry (cry_pb (hW.mono hB)) (Nat.le_refl _)) (by omega) (by omega))
    have hxx := hid (fun (W : World) (hW : Below w.heap.size w W) => Ex.cry hx (cry_pz (w := w) (w' := W) (S := ivb B w.heap.size) fun k hk => ⟨ivb_no (Or.inl hk), hW.block k (by omega)⟩) (Nat.le_trans hB hW.size))
    replace hb1 := hid hb1
    have hK := hid (kOk_mk k s e bs es)
    have hlb' : bs.length ≤ maxI := hlb
    have hlc' : es.length ≤ maxI := hlc
    clear hv hx hrb hrc ihb ihe hsz hlb0 hlc0
    have z : (w.alloc (.cells (sc k s ek en en' A1 l1 c1 Bb bs.length cb C1 es.length cc).toArray 60)).heap.size = w.heap.size + 1 := size_alloc' _ _
    obtain ⟨b0, b1, b2, b3, b4, b5, b6, b7⟩ := eight hBn.out
    generalize hOB : kOks bs = ob at *
    generalize hOE : kOks es = oe at *
    generalize hNB : ((bs.length : Int) == 0) = nb at *
    generalize hNE : ((es.length : Int) == 0) = ne at *
    go_enter Tryz.func93, Tryz.ntmps93
    go_wp2_with fail
    refine hc1.out.mono ?_
    rintro e2 w2 ⟨PA, pn, pc, rfl, hp, hb2⟩
    have hB2 := hid (hBn.out.below hb2 hBn.out.lt)
    have hw2 := hid (hb1.out.trans (hb2.mono hb1.out.size))
    have hs2 := hb2.size
    replace hp := hid hp
    clear hb2 hc1 b0 b1 b2 b3 b4 b5 b6 b7
    obtain ⟨b0, b1, b2, b3, b4, b5, b6, b7⟩ := eight hB2.out
    go_wp2_with fail
    refine (hc2.out _ hw2.out).mono ?_
    rintro e3 w3 ⟨QA, qn, qc, rfl, hq, hb3⟩
    have hB3 := hid (hB2.out.below hb3 hB2.out.lt)
    have hw3 := hid (hw2.out.trans (hb3.mono hw2.out.size))
    have hs3 := hb3.size
    have hbe := hid hb3
    replace hq := hid hq
    clear hb3 hc2 b0 b1 b2 b3 b4 b5 b6 b7
    obtain ⟨b0, b1, b2, b3, b4, b5, b6, b7⟩ := eight hB3.out
    cases ob with
    | false =>
      have hf := hid (hK.out.trans (Bool.false_and _))
      go_wp2_with fail
      go_ret2
      exact ⟨.nilIface, by rw [hf.out]; rfl, Or.inl rfl, (fun h => by rw [hf.out] at h; cases h), hw3.out⟩
    | true =>
      cases oe with
      | false =>
        have hf := hid (hK.out.trans (by rw [Bool.true_and, Bool.false_and]))
        go_wp2_with fail
        go_ret2
        exact ⟨.nilIface, by rw [hf.out]; rfl, Or.inl rfl, (fun h => by rw [hf.out] at h; cases h), hw3.out⟩
      | true =>
        obtain ⟨rfl, rows1, hr1⟩ := hp.out rfl
        obtain ⟨rfl, rows2, hr2⟩ := hq.out rfl
        have hK2 := hid (hK.out.trans (by rw [Bool.true_and, Bool.true_and]))
        have hbx := box_below w3 (.cells #[.int .i64 ek, .int .i64 en, sv en', .slice A1 l1 c1] 197)
        have hBh := hid (Blk.new w3 197 [.int .i64 ek, .int .i64 en, sv en', .slice A1 l1 c1])
        have hB4 := hid (hB3.out.below hbx hB3.out.lt)
        have hw4 := hid (hw3.out.trans (hbx.mono hw3.out.size))
        rw [z] at hs2 hr1
        have hR1 := hid (fun (W : World) (hW : Below (w3.alloc (.cells #[.int .i64 ek, .int .i64 en, sv en', .slice A1 l1 c1] 197)).heap.size (w3.alloc (.cells #[.int .i64 ek, .int .i64 en, sv en', .slice A1 l1 c1] 197)) W) =>
          show RowR (plz W (ivb B w.heap.size)) W.heap.size PA bs rows1 from hr1.cry (cry_z fun k hk hS => ⟨ivb_no (by have := ivb_of hS; omega), by
            rw [hW.block k (by rw [size_alloc']; omega), hbx.block k (by omega), hbe.out.block k hk]⟩) (by have := hW.size; rw [size_alloc'] at this; omega))
        have hR2 := hid (fun (W : World) (hW : Below (w3.alloc (.cells #[.int .i64 ek, .int .i64 en, sv en', .slice A1 l1 c1] 197)).heap.size (w3.alloc (.cells #[.int .i64 ek, .int .i64 en, sv en', .slice A1 l1 c1] 197)) W) =>
          show RowR (plz W (ivb B w.heap.size)) W.heap.size QA es rows2 from hr2.cry (cry_z fun k hk hS => ⟨ivb_no (by have := ivb_of hS; omega), by
            rw [hW.block k (by rw [size_alloc']; omega), hbx.block k (by omega)]⟩) (by have := hW.size; rw [size_alloc'] at this; omega))
        clear hr1 hr2 hp hq hbx hbe hK hB3 hB2 hBn hs2 hs3 z hOB hOE
        obtain ⟨d0, d1, d2, d3, d4, d5, d6, d7⟩ := eight hB4.out
        obtain ⟨x0, x1, x2, x3⟩ := four hBh.out
        by_cases h1 : k = 1
        · subst h1
          have hK3 := hid (hK2.out.trans (show kB 1 s nb ne = (nb && ne) from rfl))
          cases nb with
          | false =>
            have hf := hid (hK3.out)
            go_wp2_with fail
            go_ret2
            exact ⟨_, by rw [hf.out]; rfl, Or.inr ⟨_, _, rfl⟩, (fun h => by rw [hf.out] at h; cases h), hw4.out⟩
          | true =>
            cases ne with
            | false =>
              have hf := hid (hK3.out)
              go_wp2_with fail
              go_ret2
              exact ⟨_, by rw [hf.out]; rfl, Or.inr ⟨_, _, rfl⟩, (fun h => by rw [hf.out] at h; cases h), hw4.out⟩
            | true =>
              have hf := hid hK3.out
              have e1 := hid (emp hNB rfl)
              have e2 := hid (emp hNE rfl)
              go_wp2_with fail
              go_ret2
              exact ⟨_, by rw [hf.out]; rfl, Or.inr ⟨_, _, rfl⟩, (fun _ => by rw [e1.out, e2.out]; exact .asg (hxx.out _ hw4.out)), hw4.out⟩
        by_cases h2 : k = 2
        · subst h2
          have hK3 := hid (hK2.out.trans (show kB 2 s nb ne = (s == []) from rfl))
          cases hS : (s == []) with
          | false =>
            rw [hS] at hK3
            have hf := hid (hK3.out)
            go_wp2_with fail
            go_quiet (fail)
            go_wp2_with fail
            go_ret2
            exact ⟨_, by rw [hf.out]; rfl, Or.inr ⟨_, _, rfl⟩, (fun h => by rw [hf.out] at h; cases h), bdr hw4.out nq⟩
          | true =>
            rw [hS] at hK3
            have hf := hid hK3.out
            have e1 := hid (emps hS rfl)
            go_wp2_with fail
            go_quiet (fail)
            go_wp2_with fail
            go_ret2
            have r1 := hR1.out _ (bdr (Below.refl _ _) nq)
            have r2 := hR2.out _ (bdr (Below.refl _ _) nq)
            exact ⟨_, by rw [hf.out]; rfl, Or.inr ⟨_, _, rfl⟩, (fun _ => by rw [e1.out]; exact .chc (hxx.out _ (bdr hw4.out nq)) PA QA pc qc rows1 rows2 hlb' hlc' r1.cell r1.kid r2.cell r2.kid), bdr hw4.out nq⟩
        by_cases h3 : k = 3
        · subst h3
          have hK3 := hid (hK2.out.trans (show kB 3 s nb ne = ((s == []) && ne) from rfl))
          cases hS : (s == []) with
          | false =>
            rw [hS] at hK3
            have hf := hid (hK3.out)
            go_wp2_with fail
            go_ret2
            exact ⟨_, by rw [hf.out]; rfl, Or.inr ⟨_, _, rfl⟩, (fun h => by rw [hf.out] at h; cases h), hw4.out⟩
          | true =>
            rw [hS, Bool.true_and] at hK3
            cases ne with
            | false =>
              have hf := hid (hK3.out)
              go_wp2_with fail
              go_ret2
              exact ⟨_, by rw [hf.out]; rfl, Or.inr ⟨_, _, rfl⟩, (fun h => by rw [hf.out] at h; cases h), hw4.out⟩
            | true =>
              have hf := hid hK3.out
              have e1 := hid (emps hS rfl)
              have e2 := hid (emp hNE rfl)
              go_wp2_with fail
              go_ret2
              have r1 := hR1.out _ (Below.refl _ _)
              exact ⟨_, by rw [hf.out]; rfl, Or.inr ⟨_, _, rfl⟩, (fun _ => by rw [e1.out, e2.out]; exact .lop (hxx.out _ hw4.out) PA pc rows1 hlb' r1.cell r1.kid), hw4.out⟩
        by_cases h4 : k = 4
        · subst h4
          have hK3 := hid (hK2.out.trans (show kB 4 s nb ne = (((s == []) && nb) && ne) from rfl))
          cases hS : (s == []) with
          | false =>
            rw [hS] at hK3
            have hf := hid (hK3.out)
            go_wp2_with fail
            go_ret2
            exact ⟨_, by rw [hf.out]; rfl, Or.inr ⟨_, _, rfl⟩, (fun h => by rw [hf.out] at h; cases h), hw4.out⟩
          | true =>
            rw [hS, Bool.true_and] at hK3
            cases nb with
            | false =>
              have hf := hid (hK3.out)
              go_wp2_with fail
              go_ret2
              exact ⟨_, by rw [hf.out]; rfl, Or.inr ⟨_, _, rfl⟩, (fun h => by rw [hf.out] at h; cases h), hw4.out⟩
            | true =>
              rw [Bool.true_and] at hK3
              cases ne with
              | false =>
                have hf := hid (hK3.out)
                go_wp2_with fail
                go_ret2
                exact ⟨_, by rw [hf.out]; rfl, Or.inr ⟨_, _, rfl⟩, (fun h => by rw [hf.out] at h; cases h), hw4.out⟩
              | true =>
                have hf := hid hK3.out
                have e1 := hid (emps hS rfl)
                have e2 := hid (emp hNE rfl)
                have e3 := hid (emp hNB rfl)
                go_wp2_with fail
                go_ret2
                exact ⟨_, by rw [hf.out]; rfl, Or.inr ⟨_, _, rfl⟩, (fun _ => by rw [e1.out, e2.out, e3.out]; exact .emi (hxx.out _ hw4.out)), hw4.out⟩
        have hf := hid (hK2.out.trans (show kB k s nb ne = false by unfold kB; rw [if_neg h1, if_neg h2, if_neg h3, if_neg h4]))
        have q1 : (k == 1) = false := beq_false_of_ne h1
        have q2 : (k == 2) = false := beq_false_of_ne h2
        have q3 : (k == 3) = false := beq_false_of_ne h3
        have q4 : (k == 4) = false := beq_false_of_ne h4
        clear h1 h2 h3 h4
        go_wp2_with fail
        go_ret2
        exact ⟨.nilIface, by rw [hf.out]; rfl, Or.inl rfl, (fun h => by rw [hf.out] at h; cases h), hw4.out⟩
end Go.Proofs.YtiogceepjffmkaaGreatDoor.Sr
