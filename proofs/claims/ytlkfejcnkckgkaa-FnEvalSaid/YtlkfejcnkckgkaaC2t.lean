/- Chapter 2: SortNames and Without, of the model. -/
import Derived.Test.YtlkfejcnkckgkaaC2b
import Derived.Test.YtlkfejcnkckgkaaNm
set_option maxRecDepth 100000
namespace Go.Proofs.Ytlkfejcnkckgkaa.C2
open Go.RowKit Go.Lib Go.Proofs.Ytlkfejcnkckgkaa.Com Go.Proofs.Ytlkfejcnkckgkaa.Mem Go.Proofs.Ytlkfejcnkckgkaa.Mp Go.Proofs.Ytlkfejcnkckgkaa.Ow Go.Proofs.Ytlkfejcnkckgkaa.Nm


theorem Grow.drewN {e : TypeId} {w0 w : World} {v : Value} {xs : List Value} (h : Grow e w0 w v xs) (n : Nat) : Grow e w0 (w.drewN n) v xs := ⟨h.1, bdr h.2 n⟩
theorem rest_rd {wr : World} {O : List Str} {g m : Nat} (_h : m < O.length) (hc : ∀ j (_ : j < O.length), wr.cell? ⟨g, j, none⟩ = some (sv O[j])) (hg : g < wr.heap.size) (n : Nat) (o : Obj) : Rd ((wr.drewN n).alloc o) wr.heap.size (some ⟨g, m, none⟩) ((O.drop m).map sv) := fun _ =>
  ⟨_, rfl, hg, fun j u hu => by
    rw [List.getElem?_map, List.getElem?_drop] at hu
    cases hq : O[m + j]? with
    | none => rw [hq] at hu; cases hu
    | some y =>
      rw [hq] at hu
      obtain ⟨hj, hy⟩ := List.getElem?_eq_some_iff.1 hq
      have e : (⟨g, m, none⟩ : Addr).add j = ⟨g, m + j, none⟩ := by unfold Addr.add; split <;> simp_all
      rw [e, ← Option.some.inj hu, ← hy, ← hc _ hj]
      exact ((Below.refl wr.heap.size (wr.drewN n)).alloc (Nat.le_refl _) o).cell (p := ⟨g, m + j, none⟩) hg⟩
theorem rest_none {wr : World} {O : List Str} {m : Nat} {A : Option Addr} (h : m ≤ O.length) (h2 : O.length ≤ m) (n : Nat) (o : Obj) : Rd ((wr.drewN n).alloc o) wr.heap.size A ((O.drop m).map sv) := by
  obtain rfl : m = O.length := by omega
  rw [List.drop_of_length_le (Nat.le_refl _)]; exact Rd.nil_
theorem all_one (l : List Str) : ∀ u ∈ l.map sv, u.oneCell' = true := fun u hu => by obtain ⟨y, _, rfl⟩ := List.mem_map.1 hu; rfl
theorem rest_keep {w1 w3 : World} {base g g2 c2 n n' e : Nat} {xs : List Value} {o : Obj} (h : w1.ownsRow base e 1 (.slice (some ⟨g2, 0, none⟩) n' c2) n xs) (h3 : (w1.drew.alloc o).grownBy w3 (some g)) (hne : g < g2) : ∀ j u, xs[j]? = some u → w3.cell? ((⟨g2, 0, none⟩ : Addr).add j) = some u := by
  have h' : (w1.drew.alloc o).ownsRow base e 1 (.slice (some ⟨g2, 0, none⟩) n' c2) n xs := h.drew.alloc o
  exact (h'.kept h3 (Or.inr (by simp [Value.ownBlock]; omega))).cells (g := g2) rfl
theorem sort_step {w w1 w3 w4 : World} {v3 v4 : Value} {g m n3 n4 : Nat} {O : List Str} {x : Str} {o : Obj} (hB : Below w.heap.size w w1) (hg : w.heap.size ≤ g) (h3 : (w1.drew.alloc o).grownBy w3 (some g)) (ho3 : w3.ownsRow w.heap.size 9 1 v3 n3 (List.map sv (O.take m) ++ [sv x])) (h4 : w3.grownBy w4 v3.ownBlock)
    (ho4 : w4.ownsRow w.heap.size 9 1 v4 n4 (List.map sv (O.take m) ++ [sv x] ++ List.map sv (O.drop m))) : v4 ≠ .slice none 0 0 ∧ Grow 9 w w4 v4 ((O.take m ++ x :: O.drop m).map sv) := by
  have hb1 : Below w.heap.size w (w1.drew.alloc o) := Below.alloc (bdr hB 1) (by have := hB.size; simpa [World.drewN] using this) o
  have hb3 := hb1.grown h3 hb1.size (fun k hk => by cases hk; exact hg)
  have hb4 := hb3.grown h4 hb3.size (fun k hk => (ho3.lt k hk).1)
  have e : List.map sv (O.take m) ++ [sv x] ++ List.map sv (O.drop m) = (O.take m ++ x :: O.drop m).map sv := by simp
  have hl := ho4.1
  refine ⟨fun hv => ?_, ?_, hb4⟩
  · subst hv
    rcases ho4.2 with ⟨_, h0⟩ | ⟨_, _, _, h0, _⟩
    · subst h0; simp at hl
    · cases h0
  · rw [e] at ho4 hl
    rw [Nat.mul_one] at hl
    rw [hl]; exact ho4
set_option maxHeartbeats 2000000 in
theorem ssort_any (A : Option Addr) (c : Nat) (L : List (List UInt8)) (w : World) (h : Rd w w.heap.size A (L.map sv)) (hn : L.length ≤ 2000000) :
    Calls Try.prog 50 #[.slice A L.length c] w fun e w' => ∃ v, e = .returned v ∧ Grow 9 w w' v ((sortU L).map sv) := by
  go_enter Try.func50, Try.ntmps50
  go_wp2_with fail
  go_loopw [3, 4] (fun o i wr => ∃ k : Nat, k ≤ L.length ∧ i = .int .i64 k ∧ o ≠ .slice none 0 0 ∧ Grow 9 w wr o ((sortU (L.take k)).map sv)) (fun _ i _ => L.length - (Go.RowKit.intOf i).toNat)
  case atStart => exact ⟨0, Nat.zero_le _, rfl, by simp, Grow.lit0 _ _⟩
  case round =>
    obtain ⟨k, hk, rfl, hnn, hg⟩ := hrel
    by_cases hlt : k < L.length
    · obtain ⟨ad, rfl, hadlt, hc⟩ := Lh.rd_str (h.below hg.2) hlt
      have hul := sortU_len (L.take k)
      rw [List.length_take] at hul
      have hst := hid (sortU_snoc hlt)
      generalize hO : sortU (L.take k) = O at *
      generalize L[k] = x at *
      obtain ⟨g, cap, cur, hv, hgb, hblk, hnc, hcm, hcz, htk⟩ := hg.some_ hnn
      rw [List.length_map] at hnc htk hv
      subst hv
      have hcell : ∀ j (hj : j < O.length), wr.cell? ⟨g, j, none⟩ = some (sv O[j]) := fun j hj => by
        have := hg.1.cells (g := g) rfl j (sv O[j]) (by simp [hj])
        have e : (⟨g, 0, none⟩ : Addr).add j = ⟨g, j, none⟩ := by unfold Addr.add; split <;> simp_all
        rwa [e] at this
      have hcell := hid hcell
      have hg := hid hg
      clear h hO
      go_wp2_with fail
      go_loopw [5] (fun a wx => ∃ m n : Nat, m ≤ O.length ∧ a = .int .i64 m ∧ (∀ j (_ : j < m) (h : j < O.length), O[j] < x) ∧ wx = wr.drewN n) (fun a _ => O.length - (Go.RowKit.intOf a).toNat)
      case atStart => exact ⟨0, 0, Nat.zero_le _, rfl, fun j hj => by omega, rfl⟩
      case round =>
        obtain ⟨m, n, hm, rfl, hall, rfl⟩ := hrel
        have hall := hid hall
        by_cases hmo : m < O.length
        · have hcm := hcell.out m hmo
          go_wp2_with fail
          go_quiet (fail)
          cases hless : Op.bytesLess O[m] x with
          | true =>
            have hx : O[m] < x := by rw [Go.Proofs.bytesLess_eq] at hless; exact of_decide_eq_true hless
            have hnx := hid (fun j (hj : j < m + 1) (h : j < O.length) => by
              rcases Nat.lt_or_ge j m with h1 | h1
              · exact hall.out j h1 h
              · obtain rfl : j = m := by omega
                exact hx)
            clear hx
            go_wp2_with fail
            exact ⟨⟨m + 1, n + nq, hmo, by go_num, hnx.out, rfl⟩, by simp [Go.RowKit.intOf]; omega⟩
          | false =>
            have hx : ¬ O[m] < x := by rw [Go.Proofs.bytesLess_eq] at hless; exact of_decide_eq_false hless
            by_cases hq : O[m] = x
            · have t1 : (O[m] == x) = true := by rw [hq]; exact beq_self_eq_true _
              have hsame := hid (ins_same hmo (fun j hj => hall.out j hj (by omega)) hq)
              have hg2 := hid (Grow.drewN hg.out (n + nq))
              clear hx hq
              go_wp2_with fail
              go_quiet (fail)
              go_wp2_with fail
              exact ⟨⟨k + 1, hlt, by go_num, hnn, by rw [hst.out, hsame.out]; exact Grow.drewN hg.out _⟩, by simp [Go.RowKit.intOf]; omega⟩
            · have t1 : (O[m] == x) = false := by simpa using hq
              have hins := hid (ins_at (k := m) hm (fun j hj => hall.out j hj (by omega)) (fun _ => ⟨hx, hq⟩))
              clear hx hq
              have hrest := hid (rest_rd hmo hcell.out (by have := (Array.getElem?_eq_some_iff.1 hblk).1; exact this))
              have hmc : m < cap := by omega
              go_wp2_with fail
              go_quiet (fail)
              go_wp2_with (at_builtin; refine (Grow.lit0 9 (wr.drewN _)).appendAll strT (some ⟨g, m, none⟩) (O.length - m) (cap - m) wr.heap.size ((O.drop m).map sv) (by simp) (fun e => by cases e) (hrest.out _ _) (all_one _) (by simp <;> omega) rfl _ _ rfl rfl rfl ?_; intro v1 w1 hg1 _ hv1)
              have hv1 : v1 ≠ .slice none 0 0 := fun e => by cases (hv1.1 e).1
              obtain ⟨g2, c2, cur2, hv2, hgb2, hblk2, hnc2, hcm2, hcz2, htk2⟩ := hg1.some_ hv1
              have hB : Below wr.heap.size wr w1 := ⟨hg1.2.os, hg1.2.tape, hg1.2.output, hg1.2.size, hg1.2.block⟩
              have ho1 := hid (hg.out.below hB (Nat.le_refl _))
              have hc1 := (hB.cell (p := ad.add k) (by rw [add_block]; have := hg.out.2.size; omega)).trans hc
              have hgw : g < wr.heap.size := (Array.getElem?_eq_some_iff.1 hblk).1
              have hrd2 := hid hg1.1
              simp only [List.nil_append, List.length_map, List.length_drop] at hv2 hnc2
              subst hv2
              have hgb2 : wr.heap.size ≤ g2 := hgb2
              have hst := hid (hst.out.trans hins.out)
              have hsz1 := hB.size
              have hws := hg.out.2.size
              have hmc' : m ≤ cap := by omega
              have hT0 := ho1.out.1
              rw [List.length_map] at hT0
              have hT1 := own_take (k := m) hT0 hm (by simp)
              have hT1 := hid (fun (o : Obj) => hT1.drew.alloc o)
              have hrd2 := hrd2.out
              rw [List.nil_append] at hrd2
              have hR := hid (fun (w3 : World) (o : Obj) (h3 : (w1.drew.alloc o).grownBy w3 (some g)) => rest_keep hrd2 (o := o) h3 (by omega))
              clear hrd2 hT0
              have hlm : (List.map sv (O.take m)).length = m := by rw [List.length_map, List.length_take]; omega
              have hlm := hid hlm
              clear hc hless t1 hins hrest hg1 hv1 hcm hall hcell hblk hblk2 htk htk2 hcz hcz2 hg
              go_wp2_with fail
              go_region_law (first | (refine step_own strT rfl (.tmp 53) (.tmp 58) rfl w.heap.size (.slice (some ⟨g, 0, none⟩) m cap) ((O.take m).map sv) rfl (by rw [hlm.out, List.map_take]; exact hT1.out _) ⟨w1.heap.size, 0, none⟩ 1 1 [sv x] rfl rfl (one_cell w1.drew (sv x) _) (one_one x) (by rw [hlm.out]; omega) (by simp <;> omega) ?_; intro v3 w3 hown3 hgb3 hnn3) | (refine step_own strT rfl (.tmp 59) (.tmp 60) rfl w.heap.size v3 ((O.take m).map sv ++ [sv x]) rfl (by rw [List.length_append]; exact hown3) ⟨g2, 0, none⟩ (O.length - m) c2 ((O.drop m).map sv) rfl (by simp) (hR.out _ _ hgb3) (all_one _) (by rw [List.length_append, hlm.out]; simp <;> omega) (by have := hgb3.size; simp at this; omega) ?_; intro v4 w4 hown4 hgb4 hnn4))
              obtain ⟨hn4, hg4⟩ := sort_step ho1.out.2 hgb hgb3 hown3 hgb4 hown4
              clear hown3 hown4 hgb3 hgb4 hnn3 hnn4
              go_wp2_with fail
              exact ⟨⟨k + 1, hlt, by go_num, hn4, by rw [hst.out]; exact hg4⟩, by simp [Go.RowKit.intOf]; omega⟩
        · have t0 : decide (m < O.length) = false := decide_eq_false hmo
          have hins := hid (ins_at (k := m) hm (fun j hj => hall.out j hj (by omega)) (fun h => absurd h hmo))
          by_cases hmc : cap = m
          · obtain rfl : m = cap := hmc.symm
            have hmc' : m ≤ m := Nat.le_refl m
            have hrest := hid (rest_none (wr := wr) hm (by omega) (A := (some ⟨g, 0, none⟩)))
            go_wp2_with fail
            go_quiet (fail)
            go_wp2_with fail
            go_quiet (fail)
            go_wp2_with (at_builtin; refine (Grow.lit0 9 (wr.drewN _)).appendAll strT (some ⟨g, 0, none⟩) 0 _ wr.heap.size ((O.drop m).map sv) (by simp <;> omega) (fun e => by cases e) (hrest.out _ _) (all_one _) (by simp <;> omega) rfl _ _ rfl rfl rfl ?_; intro v1 w1 hg1 _ hv1)
            have hv1 : v1 ≠ .slice none 0 0 := fun e => by cases (hv1.1 e).1
            obtain ⟨g2, c2, cur2, hv2, hgb2, hblk2, hnc2, hcm2, hcz2, htk2⟩ := hg1.some_ hv1
            have hB : Below wr.heap.size wr w1 := ⟨hg1.2.os, hg1.2.tape, hg1.2.output, hg1.2.size, hg1.2.block⟩
            have ho1 := hid (hg.out.below hB (Nat.le_refl _))
            have hc1 := (hB.cell (p := ad.add k) (by rw [add_block]; have := hg.out.2.size; omega)).trans hc
            have hgw : g < wr.heap.size := (Array.getElem?_eq_some_iff.1 hblk).1
            have hrd2 := hid hg1.1
            simp only [List.nil_append, List.length_map, List.length_drop, Nat.sub_eq_zero_of_le hnc] at hv2
            subst hv2
            have hgb2 : wr.heap.size ≤ g2 := hgb2
            have hst := hid (hst.out.trans hins.out)
            have hsz1 := hB.size
            have hws := hg.out.2.size
            skip
            have hT0 := ho1.out.1
            rw [List.length_map] at hT0
            have hT1 := own_take (k := m) hT0 hm (by simp)
            have hT1 := hid (fun (o : Obj) => hT1.drew.alloc o)
            have hrd2 := hrd2.out
            rw [List.nil_append] at hrd2
            have hR := hid (fun (w3 : World) (o : Obj) (h3 : (w1.drew.alloc o).grownBy w3 (some g)) => rest_keep hrd2 (o := o) h3 (by omega))
            clear hrd2 hT0
            have hlm : (List.map sv (O.take m)).length = m := by rw [List.length_map, List.length_take]; omega
            have hlm := hid hlm
            clear hc t0 hins hrest hg1 hv1 hall hcell hblk hblk2 htk htk2 hcz hcz2 hg
            go_wp2_with fail
            go_region_law (first | (refine step_own strT rfl (.tmp 53) (.tmp 58) rfl w.heap.size (.slice (some ⟨g, 0, none⟩) m m) ((O.take m).map sv) rfl (by rw [hlm.out, List.map_take]; exact hT1.out _) ⟨w1.heap.size, 0, none⟩ 1 1 [sv x] rfl rfl (one_cell w1.drew (sv x) _) (one_one x) (by rw [hlm.out]; omega) (by simp <;> omega) ?_; intro v3 w3 hown3 hgb3 hnn3) | (refine step_own strT rfl (.tmp 59) (.tmp 60) rfl w.heap.size v3 ((O.take m).map sv ++ [sv x]) rfl (by rw [List.length_append]; exact hown3) ⟨g2, 0, none⟩ 0 c2 ((O.drop m).map sv) rfl (by simp <;> omega) (hR.out _ _ hgb3) (all_one _) (by rw [List.length_append, hlm.out]; simp <;> omega) (by have := hgb3.size; simp at this; omega) ?_; intro v4 w4 hown4 hgb4 hnn4))
            obtain ⟨hn4, hg4⟩ := sort_step ho1.out.2 hgb hgb3 hown3 hgb4 hown4
            clear hown3 hown4 hgb3 hgb4 hnn3 hnn4
            go_wp2_with fail
            exact ⟨⟨k + 1, hlt, by go_num, hn4, by rw [hst.out]; exact hg4⟩, by simp [Go.RowKit.intOf]; omega⟩
          · have hmc0 : ¬ cap = m := hmc
            have hrest := hid (rest_none (wr := wr) hm (by omega) (A := (some ⟨g, m, none⟩)))
            go_wp2_with fail
            go_quiet (fail)
            go_wp2_with fail
            go_quiet (fail)
            go_wp2_with (at_builtin; refine (Grow.lit0 9 (wr.drewN _)).appendAll strT (some ⟨g, m, none⟩) (O.length - m) (cap - m) wr.heap.size ((O.drop m).map sv) (by simp) (fun e => by cases e) (hrest.out _ _) (all_one _) (by simp <;> omega) rfl _ _ rfl rfl rfl ?_; intro v1 w1 hg1 _ hv1)
            have hv1 : v1 ≠ .slice none 0 0 := fun e => by cases (hv1.1 e).1
            obtain ⟨g2, c2, cur2, hv2, hgb2, hblk2, hnc2, hcm2, hcz2, htk2⟩ := hg1.some_ hv1
            have hB : Below wr.heap.size wr w1 := ⟨hg1.2.os, hg1.2.tape, hg1.2.output, hg1.2.size, hg1.2.block⟩
            have ho1 := hid (hg.out.below hB (Nat.le_refl _))
            have hc1 := (hB.cell (p := ad.add k) (by rw [add_block]; have := hg.out.2.size; omega)).trans hc
            have hgw : g < wr.heap.size := (Array.getElem?_eq_some_iff.1 hblk).1
            have hrd2 := hid hg1.1
            simp only [List.nil_append, List.length_map, List.length_drop] at hv2 hnc2
            subst hv2
            have hgb2 : wr.heap.size ≤ g2 := hgb2
            have hst := hid (hst.out.trans hins.out)
            have hsz1 := hB.size
            have hws := hg.out.2.size
            have hmc' : m ≤ cap := by omega
            have hT0 := ho1.out.1
            rw [List.length_map] at hT0
            have hT1 := own_take (k := m) hT0 hm (by simp)
            have hT1 := hid (fun (o : Obj) => hT1.drew.alloc o)
            have hrd2 := hrd2.out
            rw [List.nil_append] at hrd2
            have hR := hid (fun (w3 : World) (o : Obj) (h3 : (w1.drew.alloc o).grownBy w3 (some g)) => rest_keep hrd2 (o := o) h3 (by omega))
            clear hrd2 hT0
            have hlm : (List.map sv (O.take m)).length = m := by rw [List.length_map, List.length_take]; omega
            have hlm := hid hlm
            clear hc t0 hins hrest hg1 hv1 hall hcell hblk hblk2 htk htk2 hcz hcz2 hg
            go_wp2_with fail
            go_region_law (first | (refine step_own strT rfl (.tmp 53) (.tmp 58) rfl w.heap.size (.slice (some ⟨g, 0, none⟩) m cap) ((O.take m).map sv) rfl (by rw [hlm.out, List.map_take]; exact hT1.out _) ⟨w1.heap.size, 0, none⟩ 1 1 [sv x] rfl rfl (one_cell w1.drew (sv x) _) (one_one x) (by rw [hlm.out]; omega) (by simp <;> omega) ?_; intro v3 w3 hown3 hgb3 hnn3) | (refine step_own strT rfl (.tmp 59) (.tmp 60) rfl w.heap.size v3 ((O.take m).map sv ++ [sv x]) rfl (by rw [List.length_append]; exact hown3) ⟨g2, 0, none⟩ (O.length - m) c2 ((O.drop m).map sv) rfl (by simp) (hR.out _ _ hgb3) (all_one _) (by rw [List.length_append, hlm.out]; simp <;> omega) (by have := hgb3.size; simp at this; omega) ?_; intro v4 w4 hown4 hgb4 hnn4))
            obtain ⟨hn4, hg4⟩ := sort_step ho1.out.2 hgb hgb3 hown3 hgb4 hown4
            clear hown3 hown4 hgb3 hgb4 hnn3 hnn4
            go_wp2_with fail
            exact ⟨⟨k + 1, hlt, by go_num, hn4, by rw [hst.out]; exact hg4⟩, by simp [Go.RowKit.intOf]; omega⟩
    · obtain rfl : k = L.length := by omega
      rw [List.take_of_length_le (Nat.le_refl _)] at hg
      go_wp2_with fail
      go_ret
      exact ⟨_, rfl, hg⟩
end Go.Proofs.Ytlkfejcnkckgkaa.C2
