/- Statements of the call's own: marked (markStmtS). -/
import Derived.Test.YtnmomlaimffonaaGreatZSt4
set_option maxHeartbeats 8000000
set_option maxRecDepth 100000
namespace Go.Proofs.YtnmomlaimffonaaGreat.Gd
open Go.RowKit Go.Lib Go.Sort Com Mem YtnmomlaimffonaaGreat.Os Tr
def MkL (L : List St) : Prop := ∀ (R : Nat → Prop) (A : Option Addr) (l c k : Nat) (w : World), OwnD w R [.slice A l c] [.sl 1 (dl L)] → (∀ g, R g → g < w.heap.size) → 0 < k → k + nL L ≤ 9223372036000000000 →
  Calls Tryz.prog 47 #[.slice A l c, .int .i64 k] w fun e w' => e = .returned (.int .i64 ((k + nL L : Nat) : Int)) ∧ OwnD w' R [.slice A l c] [.sl 1 (dl (markL k L))] ∧ ChgR w w' R
theorem markL_none (A : Option Addr) (c k : Nat) (w : World) : Calls Tryz.prog 47 #[.slice A 0 c, .int .i64 k] w fun e w' => e = .returned (.int .i64 k) ∧ w = w' := by
  go_enter Tryz.func47, Tryz.ntmps47
  go_wp2_with fail
  refine wp_loop_rounds 1 ?_; rw [rounds_succ]
  go_wp2_with fail
  go_ret
  exact ⟨rfl, rfl⟩
theorem set5_eq (cs : List Value) (o : Nat) (a b c d e : Value) : ((((cs.set o a).set (o + 1) b).set (o + 2) c).set (o + 2 + 1) d).set (o + 2 + 2) e = setN cs o [a, b, c, d, e] := rfl
theorem put5 {a b c d e x0 x1 x2 x3 x4 : Value} {t : List Value} : [a, b, c, d, e] ++ (x0 :: x1 :: x2 :: x3 :: x4 :: t).drop 5 = a :: b :: c :: d :: e :: t := rfl
theorem markL_any : ∀ (M : Nat) (L : List St), cntL L = M → MkL L := by
  intro M
  induction M using Nat.strongRecOn with
  | ind M ih =>
    intro L hM R A l c k w ho hRb hk0 hk1
    obtain ⟨rfl, hlc, hcap, hA0, R2, rows, Rs, hA, hkid, hR, hd, -, -⟩ := ho.sl_inv
    have hNb : (dl L).length ≤ 9223372036854775807 := by unfold maxLen at hcap; omega
    rw [dl_len] at *
    by_cases hz : L.length = 0
    · obtain rfl := List.eq_nil_of_length_eq_zero hz
      refine (markL_none A c k w).mono ?_
      rintro e w' ⟨rfl, rfl⟩
      exact ⟨by simp [nL], by rw [markL]; exact ho, ChgR.refl _ _⟩
    obtain ⟨ad, rfl⟩ : ∃ ad, A = some ad := by
      cases A with
      | none => have := hA0 rfl; omega
      | some ad => exact ⟨ad, rfl⟩
    obtain ⟨g, cs0, rfl, hg, hg2, hblk, hrow, hgd⟩ := hA ad rfl
    have hrow : RowsN 8 cs0 L.length rows := hrow
    have hih : ∀ L' : List St, cntL L' < M → MkL L' := fun L' h => ih _ h L' rfl
    have hR' : ∀ j g, j < L.length → Rs j g → R g := fun j g h1 h2 => (hR j g h1 h2).1
    have hinit := hid (show nL (L.take 0) = 0 by simp [nL])
    have hkid' : ∀ (j : Nat) (e : St), L[j]? = some e → OwnD w (Rs j) (rows j) e.d := fun j e he => hkid j _ (by simp [he])
    clear hA ho ih hR hg2 hA0 hkid
    have hz := hid hz
    have hd := hid hd
    have hgd := hid hgd
    have hih := hid hih
    have hR' := hid hR'
    have hRb := hid hRb
    have hgs := hid (hRb.out g hg)
    have hgR := hid hg
    clear hg
    generalize hN : L.length = N at *
    go_enter Tryz.func47, Tryz.ntmps47
    go_wp2_with fail
    go_loopw [1, 5] (fun a i wr => ∃ (m : Nat) (cs : List Value) (rows' : Nat → List Value), m ≤ N ∧ i = .int .i64 m ∧ a = .int .i64 ((k + nL (L.take m) : Nat) : Int) ∧ Blk wr g SI cs ∧ RowsN 8 cs N rows' ∧
      (∀ (j : Nat) (e : St), L[j]? = some e → OwnD wr (Rs j) (rows' j) (if j < m then markSt (k + nL (L.take j)) e else e).d) ∧ ChgR w wr R) (fun _ i _ => N - (Go.RowKit.intOf i).toNat)
    case atStart => exact ⟨0, cs0, rows, Nat.zero_le _, rfl, by rw [hinit.out]; simp, hblk, hrow, fun j e he => by rw [if_neg (by omega)]; exact hkid' j e he, ChgR.refl _ _⟩
    case round =>
      clear hblk hrow hkid'
      obtain ⟨m, cs, rows', hm, rfl, rfl, hblk, hrow, hkid, hch⟩ := hrel
      by_cases hlt : m < N
      · have hu : L[m]? = some L[m] := List.getElem?_eq_getElem (by omega)
        have hle := nL_le L (m + 1)
        rw [nL_take (by omega)] at hle
        have hst := hid (nL_take (L := L) (m := m) (by omega))
        have hom := hkid m _ hu
        rw [if_neg (by omega)] at hom
        have hcm := cntSt_mem (List.getElem_mem (show m < L.length by omega))
        generalize hT : L[m] = t at *
        obtain ⟨k', s, e, bs, es⟩ := t
        rw [nSt_mk] at hle hst
        obtain ⟨ek, en, en', A', l', c', Bb, cb, C, cc, lo, hi, R2, R3, hrm, hs, oX, oB, oE, d1, d2, d3⟩ := own_st_inv hom
        have hcB : cntL bs < M := by simp only [cntSt] at hcm; omega
        have hcE : cntL es < M := by simp only [cntSt] at hcm; omega
        obtain ⟨-, hr8⟩ := hrow m hlt
        rw [hrm] at hr8
        have c0 := hr8 0 _ rfl
        have c1 := hr8 1 _ rfl
        have c2 := hr8 2 _ rfl
        have c3 := hr8 3 _ rfl
        have c4 := hr8 4 _ rfl
        have c5 := hr8 5 _ rfl
        have c6 := hr8 6 _ rfl
        have c7 := hr8 7 _ rfl
        generalize hq : k + nL (L.take m) = q at *
        have hpos := cnt_pos e
        have hq1 : q + (2 + 3 * cntT e + nL bs + nL es) ≤ 9223372036000000000 := by omega
        have p0 : wr.cell? ⟨g, m * 8, none⟩ = some (.int .i64 k') := by rw [hblk.cell]; exact c0
        have f0 := hblk.frozen (m * 8)
        have hmt1 := fun w => Lh.markText_any (q + 1) (by omega) (by omega) w
        rw [show ((q + 1 : Nat) : Int) = (q : Int) + 1 by omega] at hmt1
        have hmt1 := hid hmt1
        have hmt2 := fun w => Lh.markText_any (q + 4) (by omega) (by omega) w
        rw [show ((q + 4 : Nat) : Int) = (q : Int) + 1 + 1 + 1 + 1 by omega] at hmt2
        have hmt2 := hid hmt2
        have hb0 := hid hblk
        have hr0 := hid hrow
        have hk0' := hid hkid
        have hc0 := hid hch
        have c1 := hid c1
        have c2 := hid c2
        have c3 := hid c3
        have c4 := hid c4
        have c5 := hid c5
        have c6 := hid c6
        have c7 := hid c7
        clear hblk hrow hkid hch c0 hr8
        go_wp2_with fail
        refine (hmt1.out _).mono ?_
        rintro e1 w2 ⟨rfl, hb⟩
        have hB1 := hb0.out.set_ (m * 8) (.int .i64 (q : Int))
        have hB2 := hB1.below hb hB1.lt
        have p1 : w2.cell? ⟨g, m * 8 + 1, none⟩ = some (sv s) := by
          rw [hB2.cell]; simp only [List.getElem?_set]; rw [if_neg (by omega)]; exact c1.out
        have p2 : w2.cell? ⟨g, m * 8 + 2, none⟩ = some (.int .i64 ek) := by
          rw [hB2.cell]; simp only [List.getElem?_set]; rw [if_neg (by omega)]; exact c2.out
        have p3 : w2.cell? ⟨g, m * 8 + 3, none⟩ = some (.int .i64 en) := by
          rw [hB2.cell]; simp only [List.getElem?_set]; rw [if_neg (by omega)]; exact c3.out
        have f1 := hB2.frozen (m * 8 + 1)
        have f2 := hB2.frozen (m * 8 + 2)
        have f3 := hB2.frozen (m * 8 + 3)
        have hX1 := hid (ChgR.trans (ChgR.set1 wr g (m * 8) (.int .i64 (q : Int))) (ChgR.of_below hb _))
        replace hB2 := hid hB2
        clear hB1 hb hmt1
        go_wp2_with fail
        refine (hmt2.out _).mono ?_
        rintro e2 w3 ⟨rfl, hb⟩
        have hB3 := ((hB2.out.set_ (m * 8 + 1) (sv (Lh.mk (q + 1)))).set_ (m * 8 + 2) (.int .i64 ((q : Int) + 1 + 1))).set_ (m * 8 + 2 + 1) (.int .i64 ((q : Int) + 1 + 1 + 1))
        have hB4 := hB3.below hb hB3.lt
        have p4 : w3.cell? ⟨g, m * 8 + 2 + 2, none⟩ = some (sv en') := by
          rw [hB4.cell]; simp only [List.getElem?_set]; rw [if_neg (by omega), if_neg (by omega), if_neg (by omega), if_neg (by omega)]; exact c4.out
        have p5 : w3.cell? ⟨g, m * 8 + 2 + 3, none⟩ = some (.slice A' l' c') := by
          rw [hB4.cell]; simp only [List.getElem?_set]; rw [if_neg (by omega), if_neg (by omega), if_neg (by omega), if_neg (by omega)]; exact c5.out
        have f4 := hB4.frozen (m * 8 + 2 + 2)
        have hX2 := hid (hX1.out.trans (((((ChgR.set1 w2 g (m * 8 + 1) (sv (Lh.mk (q + 1)))).trans (ChgR.set1 _ g (m * 8 + 2) (.int .i64 ((q : Int) + 1 + 1)))).trans (ChgR.set1 _ g (m * 8 + 2 + 1) (.int .i64 ((q : Int) + 1 + 1 + 1)))).trans (ChgR.of_below hb _)).trans (ChgR.set1 w3 g (m * 8 + 2 + 2) (sv (Lh.mk (q + 4))))))
        have hB5 := hid (hB4.set_ (m * 8 + 2 + 2) (sv (Lh.mk (q + 4))))
        clear hB3 hB4 hB2 hb hmt2 hX1 p1 p2 p3 f1 f2 f3
        go_wp2_with fail
        -- the blocks of this statement, and of the others, are not the row's
        have hRs := hid (fun (h : Nat) (hh : Rs m h) => show h ≠ g ∧ h < wr.heap.size from ⟨fun e => by subst e; exact hgd.out m hlt hh, Nat.lt_of_lt_of_le (hRb.out h (hR'.out m h hlt hh)) hc0.out.size⟩)
        have hgI : ¬ Iv lo hi g := fun h => (hRs.out g (d1 g h).1).1 rfl
        have hg2 : ¬ R2 g := fun h => (hRs.out g (d2 g h).1).1 rfl
        have hg3 : ¬ R3 g := fun h => (hRs.out g (d3 g h)).1 rfl
        have hgI := hid hgI
        have hg2 := hid hg2
        have hg3 := hid hg3
        have d1 := hid d1
        have d2 := hid d2
        have d3 := hid d3
        have zX := hid hX2.out.size
        have oX1 := OwnX.chgR oX hX2.out (fun h hh => (hRs.out h (d1.out h hh).1).1) (fun h hh => (hRs.out h (d1.out h hh).1).2)
        have oB1 := hid (OwnD.chg oB hX2.out (fun h hh => (hRs.out h (d2.out h hh).1).1) (fun h hh => (hRs.out h (d2.out h hh).1).2))
        have oE1 := hid (OwnD.chg oE hX2.out (fun h hh => (hRs.out h (d3.out h hh)).1) (fun h hh => (hRs.out h (d3.out h hh)).2))
        have hcl := markE e lo hi ek en en' A' l' c' (q + 5) _ oX1 (by omega) (by omega)
        rw [show ((q + 5 : Nat) : Int) = (q : Int) + 1 + 1 + 1 + 1 + 1 by omega] at hcl
        have hcl := hid hcl
        clear oX1 oX oB oE
        refine hcl.out.mono ?_
        rintro e3 w4 ⟨rfl, oX2, hch⟩
        have hX3 := hid (ChgR.of_chg (R := Iv lo hi) hch fun h hh => hh)
        have oX2 := hid oX2
        have hB6 := blk_chgR hB5.out hX3.out hgI.out
        have p6 : w4.cell? ⟨g, m * 8 + 6, none⟩ = some (.slice Bb bs.length cb) := by
          rw [hB6.cell]; simp only [List.getElem?_set]; rw [if_neg (by omega), if_neg (by omega), if_neg (by omega), if_neg (by omega), if_neg (by omega)]; exact c6.out
        have hB6 := hid hB6
        clear hch hcl p4 p5 f4 hB5
        generalize hq2 : q + 5 + 3 * (cntT e - 1) = q2 at *
        have oB2 := hid (OwnD.chg oB1.out hX3.out (fun h hh hi => ((d1.out h hi).2.1 hh)) (fun h hh => Nat.lt_of_lt_of_le (hRs.out h (d2.out h hh).1).2 zX.out))
        have oE2 := hid (OwnD.chg oE1.out hX3.out (fun h hh hi => ((d1.out h hi).2.2 hh)) (fun h hh => Nat.lt_of_lt_of_le (hRs.out h (d3.out h hh)).2 zX.out))
        have zY := hid (Nat.le_trans zX.out hX3.out.size)
        have hcl := hid (hih.out bs hcB R2 Bb bs.length cb q2 w4 oB2.out (fun h hh => Nat.lt_of_lt_of_le (hRs.out h (d2.out h hh).1).2 zY.out) (by omega) (by omega))
        clear oB1 oE1 oB2
        go_wp2_with fail
        refine hcl.out.mono ?_
        rintro e4 w5 ⟨rfl, oB3, hX4⟩
        have hX4 := hid hX4
        have oB3 := hid oB3
        have hB7 := blk_chgR hB6.out hX4.out hg2.out
        have p7 : w5.cell? ⟨g, m * 8 + 7, none⟩ = some (.slice C es.length cc) := by
          rw [hB7.cell]; simp only [List.getElem?_set]; rw [if_neg (by omega), if_neg (by omega), if_neg (by omega), if_neg (by omega), if_neg (by omega)]; exact c7.out
        have hB7 := hid hB7
        clear hcl p6 hB6
        generalize hq3 : q2 + nL bs = q3 at *
        have oX3 := hid (OwnX.chgR oX2.out hX4.out (fun h hh => (d1.out h hh).2.1) (fun h hh => Nat.lt_of_lt_of_le (hRs.out h (d1.out h hh).1).2 zY.out))
        have oE3 := hid (OwnD.chg oE2.out hX4.out (fun h hh hi => (d2.out h hi).2 hh) (fun h hh => Nat.lt_of_lt_of_le (hRs.out h (d3.out h hh)).2 zY.out))
        have zZ := hid (Nat.le_trans zY.out hX4.out.size)
        have hcl := hid (hih.out es hcE R3 C es.length cc q3 w5 oE3.out (fun h hh => Nat.lt_of_lt_of_le (hRs.out h (d3.out h hh)).2 zZ.out) (by omega) (by omega))
        clear oX2 oE2 oE3
        go_wp2_with fail
        refine hcl.out.mono ?_
        rintro e5 w6 ⟨rfl, oE4, hX5⟩
        have hX5 := hid hX5
        have oE4 := hid oE4
        have hB8 := hid (blk_chgR hB7.out hX5.out hg3.out)
        have oX4 := hid (OwnX.chgR oX3.out hX5.out (fun h hh => (d1.out h hh).2.2) (fun h hh => Nat.lt_of_lt_of_le (hRs.out h (d1.out h hh).1).2 zZ.out))
        have oB4 := hid (OwnD.chg oB3.out hX5.out (fun h hh => (d2.out h hh).2) (fun h hh => Nat.lt_of_lt_of_le (hRs.out h (d2.out h hh).1).2 zZ.out))
        clear hcl p7 hB7 oX3 oB3
        go_wp2_with fail
        have hXa := hid (((hX2.out.mono (R' := fun x => x = g ∨ Rs m x) fun h hh => .inl hh).trans (hX3.out.mono fun h hh => .inr (d1.out h hh).1)).trans ((hX4.out.mono fun h hh => .inr (d2.out h hh).1).trans (hX5.out.mono fun h hh => .inr (d3.out h hh))))
        have hq2' : q2 = q + 2 + 3 * cntT e := by omega
        subst hq3
        subst hq2'
        have hB9 := hB8.out
        rw [set5_eq] at hB9
        have hR9 := RowsN.put (m := m) hr0.out hlt (by decide) [.int .i64 (q : Int), sv (Lh.mk (q + 1)), .int .i64 ((q : Int) + 1 + 1), .int .i64 ((q : Int) + 1 + 1 + 1), sv (Lh.mk (q + 4))] (of_decide_eq_true rfl)
        rw [hrm, show ([.int .i64 (q : Int), sv (Lh.mk (q + 1)), .int .i64 ((q : Int) + 1 + 1), .int .i64 ((q : Int) + 1 + 1 + 1), sv (Lh.mk (q + 4))] : List Value).length = 5 from rfl, put5] at hR9
        generalize setN cs (m * 8) [.int .i64 (q : Int), sv (Lh.mk (q + 1)), .int .i64 ((q : Int) + 1 + 1), .int .i64 ((q : Int) + 1 + 1 + 1), sv (Lh.mk (q + 4))] = cs9 at hB9 hR9
        refine ⟨⟨m + 1, cs9, _, hlt, by go_num, ?_, hB9, hR9, ?_, hc0.out.trans (hXa.out.mono fun h hh => ?_)⟩, by simp [Go.RowKit.intOf]; omega⟩
        · have := hst.out
          congr 1
          omega
        · intro j ej hj
          by_cases e1 : j = m
          · subst e1
            rw [hu] at hj; cases hj
            rw [if_pos rfl, if_pos (by omega), hq, markSt_mk]
            have hx5 := oX4.out
            rw [show q + 5 = q + 2 + 3 by omega] at hx5
            have hmk := OwnE.mark hx5 (by omega)
            rw [show ((q + 2 : Nat) : Int) = (q : Int) + 1 + 1 by omega, show q + 2 + 2 = q + 4 by omega] at hmk
            exact own_st_mk (mk_len _ (by omega) (by omega)) hmk oB4.out oE4.out d1.out d2.out d3.out
          · have hjn := lt_of_get hj
            rw [if_neg e1]
            have hb1 : ∀ h, Rs j h → h < wr.heap.size := fun h hh => Nat.lt_of_lt_of_le (hRb.out h (hR'.out j h (by omega) hh)) hc0.out.size
            have h2 := OwnD.chg (hk0'.out j ej hj) hXa.out (fun h hh h3 => h3.elim (fun e => by subst e; exact hgd.out j (by omega) hh) (fun h3 => by
              rcases Nat.lt_or_ge j m with hjm | hjm
              · exact hd.out j m h hjm hlt hh h3
              · exact hd.out m j h (by omega) (by omega) h3 hh)) hb1
            by_cases hjm : j < m
            · rw [if_pos (by omega)]; rw [if_pos hjm] at h2; exact h2
            · rw [if_neg (by omega)]; rw [if_neg hjm] at h2; exact h2
        · rcases hh with rfl | hh
          · exact hgR.out
          · exact hR'.out m h hlt hh
      · obtain rfl : m = N := by omega
        have hf := hid (show ((k + nL (L.take m) : Nat) : Int) = ((k + nL L : Nat) : Int) by rw [List.take_of_length_le (by omega)])
        have hb0 := hid hblk
        have hr0 := hid hrow
        have hk0' := hid hkid
        have hc0 := hid hch
        clear hblk hrow hkid hch
        go_wp2_with fail
        go_ret
        refine ⟨by rw [← hf.out]; rfl, ?_, hc0.out⟩
        have hml : (dl (markL k L)).length = m := by rw [dl_len, markL_len, hN]
        have hgoal : OwnD wr R [.slice (some ⟨g, 0, none⟩) (dl (markL k L)).length c] [.sl 1 (dl (markL k L))] := by
          refine .sl (R2 := fun _ => False) rows' Rs (by rw [hml]; exact hlc) hcap (fun h => by cases h) (fun ad e => ?_) (fun j e he => ?_) (fun j h hj hh => ⟨hR'.out j h (hml ▸ hj) hh, fun h => h⟩) (fun i j h hij hj => hd.out i j h hij (hml ▸ hj)) (fun h hh => hh.elim) .nil
          · cases e
            exact ⟨g, cs, rfl, hgR.out, fun h => h, hb0.out, by rw [hml]; exact hr0.out, fun j hj => hgd.out j (hml ▸ hj)⟩
          · rw [show dl (markL k L) = (markL k L).map St.d from rfl, List.getElem?_map, markL_at] at he
            cases hkj : L[j]? with
            | none => rw [hkj] at he; cases he
            | some b =>
              rw [hkj] at he
              cases he
              have := hk0'.out j b hkj
              rw [if_pos (by have := lt_of_get hkj; omega)] at this
              exact this
        rw [hml] at hgoal
        exact hgoal
end Go.Proofs.YtnmomlaimffonaaGreat.Gd
