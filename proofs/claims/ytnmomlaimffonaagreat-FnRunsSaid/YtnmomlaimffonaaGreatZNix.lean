/- The program's list of a tree's nodes. -/
import Derived.Test.YtnmomlaimffonaaGreatZNd8
import Derived.Maps.OwnOps
import Derived.StillTailTactics
set_option maxHeartbeats 16000000
set_option maxRecDepth 100000
namespace Go.Proofs.YtnmomlaimffonaaGreat.Gx
open Go.RowKit Go.Lib Go.Sort Com Mem Tr Im Ag Pl Kd Ow
theorem addr0 (g j : Nat) : (⟨g, 0, none⟩ : Addr).add j = ⟨g, j, none⟩ := by unfold Addr.add; split <;> simp_all
theorem row_obj {w : World} {base e size n : Nat} {v : Value} {xs : List Value} (h : w.ownsRow base e size v n xs) {g : Nat} (hg : v.ownBlock = some g) : base ≤ g ∧ ∃ cur, w.heap[g]? = some (.cells cur e (0, 0)) := by
  rcases h.2 with ⟨rfl, _⟩ | ⟨g', c, cur, rfl, hb, hh, _⟩
  · cases hg
  · cases hg; exact ⟨hb, cur, hh⟩
theorem row_form {w : World} {base e size n : Nat} {v : Value} {xs : List Value} (h : w.ownsRow base e size v n xs) : ∃ A c, v = .slice A n c := by
  rcases h.2 with ⟨rfl, rfl⟩ | ⟨g, c, cur, rfl, _⟩
  · exact ⟨_, _, rfl⟩
  · exact ⟨_, _, rfl⟩
theorem row_lt {w : World} {base e size n : Nat} {v : Value} {xs : List Value} (h : w.ownsRow base e size v n xs) {g : Nat} (hg : v.ownBlock = some g) : g < w.heap.size := by
  obtain ⟨_, c, e⟩ := row_obj h hg
  rcases Nat.lt_or_ge g w.heap.size with h1 | h1
  · exact h1
  · rw [Array.getElem?_eq_none h1] at e; cases e
theorem row_some {w : World} {base e size n : Nat} {v : Value} {xs : List Value} (h : w.ownsRow base e size v n xs) (hn : 0 < n) : ∃ g c, v = .slice (some ⟨g, 0, none⟩) n c ∧ ∀ j u, xs[j]? = some u → w.cell? ⟨g, j, none⟩ = some u := by
  rcases h.2 with ⟨_, h0⟩ | ⟨g, c, cur, rfl, hb, hh, _⟩
  · omega
  · refine ⟨g, c, rfl, fun j u hj => ?_⟩
    have := h.cells (g := g) rfl j u hj
    rw [addr0] at this; exact this
theorem rows_ne {w : World} {base base' e e' size size' n n' : Nat} {v v' : Value} {xs xs' : List Value} (h : w.ownsRow base e size v n xs) (h' : w.ownsRow base' e' size' v' n' xs') (hne : e ≠ e') : v.ownBlock = none ∨ v.ownBlock ≠ v'.ownBlock := by
  cases hb : v.ownBlock with
  | none => exact Or.inl rfl
  | some g =>
    refine Or.inr fun e => ?_
    obtain ⟨_, c1, h1⟩ := row_obj h hb
    obtain ⟨_, c2, h2⟩ := row_obj h' e.symm
    rw [h1] at h2
    injection h2 with h3; injection h3 with _ h4
    exact hne h4
theorem row_map {w : World} {base e size n b : Nat} {v : Value} {xs : List Value} {l : List (Pk × Value)} (h : w.ownsRow base e size v n xs) (hm : EMap encP w b l) : v.ownBlock ≠ some b := fun hb => by
  obtain ⟨_, c1, h1⟩ := row_obj h hb
  unfold EMap IMap at hm
  rw [hm] at h1; cases h1
theorem append_node {P : Program} {t e by_ d : Nat} {z : Value} (hu : P.underlying t = some (.slice e)) (hi : (P.info? e).map (fun i => (i.zero, i.size, i.bytes)) = some (some z, d, by_)) (hzc : z.cells.size = d) (hd : 0 < d) (hby : by_ ≤ 1000)
    {w : World} {v : Value} {base n : Nat} {xs : List Value} (h : w.ownsRow base e d v n xs) (hbs : base ≤ w.heap.size) (new : List Value) (hn : new.length = d) (hone : ∀ u ∈ new, u.oneCell' = true) (hl : n < 1000000000) {o : Oper} {a : Act} {ops : Array Oper} {rest : List Oper} {Q : Exit → Act → World → Prop} (hgd : o.guard = none) (s x : Operand)
    (ho : o.op = .call { callee := .builtin .append, args := #[s, x], argTypes := #[t, t] }) (hs : a.eval s = v) (g : Nat) (hg : g = w.heap.size) (hx : a.eval x = .slice (some ⟨g, 0, none⟩) 1 1)
    (hK : ∀ v' w', w'.ownsRow base e d v' (n + 1) (xs ++ new) → w.grownBy w' v.ownBlock → wpList P ops Q rest (a.put o.dst v') w') :
    wpList P ops Q (o :: rest) a (w.alloc (.cells new.toArray e)) := by
  subst hg
  obtain ⟨i0, hi0, hz0, hz1, hz2⟩ := info_parts hi
  have hm : (n + 1) * by_ ≤ (n + 1) * 1000 := Nat.mul_le_mul_left _ hby
  refine wpList_append_own (P := P) _ hgd s x t ho base e i0 z d by_ hu hi0 hz0 hz1 hz2 hzc hd v n xs hs (h.alloc _) ⟨w.heap.size, 0, none⟩ 1 1 new hx (by omega) (fun j u hj => ?_) hone (by unfold maxLen; omega) (by omega) (by rw [size_alloc']; omega) ?_
  · rw [addr0, (Blk.new w e new).cell]; exact hj
  intro v' w' hown hg2 _
  exact hK v' w' hown (gb_trans (World.grownBy_alloc w _ _) hg2)
abbrev NR := List Value × T
def qcs (Q : List NR) : List Value := Q.flatMap Prod.fst
def QOk (w : World) (Q : List NR) : Prop := ∀ q ∈ Q, RdN (pln w) w.heap.size q.1 q.2 ∧ q.1.length = 4
abbrev RT2 : TypeId := 90
structure NSt (w wr : World) (a b : Value) (mb n : Nat) (cs : List Value) (Ln E : List (LN T)) : Prop where
  nodes : wr.ownsRow w.heap.size 92 4 a n cs
  lists : Grow RT2 w wr b (Ln.map slv)
  map : EMap encP wr mb (kvS E)
  mbge : w.heap.size ≤ mb
section
variable {w wr w' : World} {a b : Value} {mb n : Nat} {cs : List Value} {Ln E : List (LN T)}
theorem NSt.old (h : NSt w wr a b mb n cs Ln E) : Below w.heap.size w wr := h.lists.2
theorem NSt.below_ (h : NSt w wr a b mb n cs Ln E) (hb : Below wr.heap.size wr w') : NSt w w' a b mb n cs Ln E :=
  ⟨h.nodes.kept (row := none) ⟨hb.os, hb.tape, hb.output, hb.size, fun k hk _ => hb.block k hk⟩ (by cases a.ownBlock <;> simp), h.lists.below hb (Nat.le_refl _), h.map.below hb h.map.lt, h.mbge⟩
theorem NSt.node_ {a' : Value} {n' : Nat} {cs' : List Value} (h : NSt w wr a b mb n cs Ln E) (hr : w'.ownsRow w.heap.size 92 4 a' n' cs') (hg : wr.grownBy w' a.ownBlock) : NSt w w' a' b mb n' cs' Ln E := by
  refine ⟨hr, ⟨h.lists.1.kept hg (rows_ne h.lists.1 h.nodes (by decide)), ?_⟩, h.map.gb hg (fun e => row_map h.nodes h.map e.symm), h.mbge⟩
  exact h.lists.2.grown hg h.lists.2.size fun k hk => (row_obj h.nodes hk).1
theorem NSt.list_ {b' : Value} {Ln' : List (LN T)} (h : NSt w wr a b mb n cs Ln E) (hr : Grow RT2 w w' b' (Ln'.map slv)) (hg : wr.grownBy w' b.ownBlock) : NSt w w' a b' mb n cs Ln' E :=
  ⟨h.nodes.kept hg (rows_ne h.nodes h.lists.1 (by decide)), hr, h.map.gb hg (fun e => row_map h.lists.1 h.map e.symm), h.mbge⟩
theorem NSt.cell {g N c j : Nat} {u : Value} (h : NSt w wr a (.slice (some ⟨g, 0, none⟩) N c) mb n cs Ln E) (hj : (Ln.map slv)[j]? = some u) : wr.cell? ⟨g, j, none⟩ = some u := by
  have := h.lists.1.cells (g := g) rfl j u hj
  rw [addr0] at this; exact this
theorem NSt.map_ {E' : List (LN T)} (h : NSt w wr a b mb n cs Ln E) (hm : EMap encP w' mb (kvS E')) (hg : wr.grownBy w' (some mb)) : NSt w w' a b mb n cs Ln E' :=
  ⟨h.nodes.kept hg (Or.inr (row_map h.nodes h.map)), h.lists.gb hg (row_map h.lists.1 h.map) h.mbge, hm, h.mbge⟩
end
theorem kvS_ptN {w wr : World} {S : List (LN T)} (h : ∀ q ∈ S, LA (pln w) w.heap.size q) (hb : Below w.heap.size w wr) : ∀ p ∈ kvS S, PtOk wr p.1.1 := fun p hp => by
  obtain ⟨q, hq, rfl⟩ := List.mem_map.1 hp
  exact PtOk_go (la_pt (h q hq)) hb
theorem putS_fresh {τ : Type} {S : List (LN τ)} {l : LN τ} (h : (S.any fun q => decide (q.key = l.key)) = false) : putS S l = S ++ [l] := by
  induction S with
  | nil => rfl
  | cons a r ih =>
    simp only [List.any_cons, Bool.or_eq_false_iff, decide_eq_false_iff_not] at h
    unfold putS
    rw [if_neg h.1, ih h.2]; rfl
theorem any_wit {τ : Type} {S : List (LN τ)} {l : LN τ} (h : (S.any fun q => decide (q.key = l.key)) = true) : ∃ e ∈ S, e.key = l.key := by
  obtain ⟨e, he, h⟩ := List.any_eq_true.1 h
  exact ⟨e, he, of_decide_eq_true h⟩
theorem zeroB (w : World) : (zeroValue 4).run Tryz.prog w = .ok (.bool false) w := by kernel_rfl
theorem sl2T : SlT Tryz.prog 196 RT2 (.slice none 0 0) 24 := ⟨Tryz.underlying196, by kernel_rfl, rfl, by decide⟩
theorem infoE : (Tryz.prog.info? 92).map (fun i => (i.zero, i.size, i.bytes)) = some (some (nv 0 0 [] none 0 0), 4, 56) := by kernel_rfl
theorem inodes (ln : LN T) (w : World) (hl : LA (pln w) w.heap.size ln) (hbd : (kdX).cntL ln.ks ≤ 4000000) :
    Calls Tryz.prog 134 #[slv ln, belowF] w fun e w' => ∃ v Q, e = .returned v ∧ w'.ownsRow w.heap.size 92 4 v Q.length (qcs Q) ∧ QOk w Q ∧ (∀ u, u ∈ Q.map Prod.snd ↔ SubL kdX u ln.ks) ∧ Q.length ≤ (kdX).cntL ln.ks ∧ Below w.heap.size w w' := by
  have hZ0 := hid (ZN.first (K := kdX) hl)
  obtain ⟨top, htop⟩ : ∃ top, top = ln.ks := ⟨_, rfl⟩
  have qm := fun w => run_makeMap (P := Tryz.prog) 195 w
  have hS0 : NSt w ((w.alloc (.map #[] 0)).alloc (.cells #[slv ln] RT2)) (.slice none 0 0) (.slice (some ⟨w.heap.size + 1, 0, none⟩) 1 1) w.heap.size 0 [] [ln] [] := by
    have b1 := box_below w (.map #[] 0)
    have s1 := size_alloc' w (.map #[] 0)
    have b2 := box_below (w.alloc (.map #[] 0)) (.cells #[slv ln] RT2)
    have m1 := EMap.new (enc := encP) w
    have hn := heap_alloc_new (w.alloc (.map #[] 0)) (.cells #[slv ln] RT2)
    rw [s1] at hn
    refine ⟨World.ownsRow_nil _ _ _ _, ⟨⟨rfl, Or.inr ⟨w.heap.size + 1, 1, #[slv ln], rfl, by omega, hn, by simp, by unfold maxLen; omega, rfl, rfl⟩⟩, b1.trans (b2.mono (by omega))⟩, m1.alloc _, Nat.le_refl _⟩
  replace hS0 := hid hS0
  replace hbd := hid hbd
  go_enter Tryz.func134, Tryz.ntmps134
  go_wp2_with fail
  generalize ((w.alloc (.map #[] 0)).alloc (.cells #[slv ln] RT2)) = W0 at *
  go_loopw [5, 7, 8] (fun a b i wr => ∃ (Pn Pd E : List (LN T)) (Q : List NR), i = .int .i64 (Pn.length : Nat) ∧ NSt w wr a b w.heap.size Q.length (qcs Q) (Pn ++ Pd) E ∧ ZN kdX (LA (pln w) w.heap.size) ln.ks Pn.length E (Q.map Prod.snd) Pd ∧ QOk w Q) (fun _ _ i _ => 1 + 2 * (kdX).cntL ln.ks - (Go.RowKit.intOf i).toNat)
  case atStart => exact ⟨[], [ln], [], [], rfl, hS0.out, hZ0.out, fun q hq => absurd hq (by simp)⟩
  case round =>
    obtain ⟨Pn, Pd, E, Q, rfl, hS, hZ, hQ⟩ := hrel
    clear hS0 hZ0 qm
    have hbd1 := hbd.out
    have hcnt := hZ.cnt
    have hfew := hZ.few
    rw [List.length_map] at hfew
    by_cases hP : Pd = []
    · subst hP
      have hend := hid hZ.end_
      rw [List.append_nil] at hS
      obtain ⟨A2, c2, e2, _⟩ := hS.lists.len
      rw [List.length_map] at e2
      subst e2
      have t0 : decide ((Pn.length : Int) < (Pn.length : Int)) = false := decide_eq_false (by omega)
      have hnodes := hid hS.nodes
      have hold := hid hS.old
      replace hQ := hid hQ
      have hfew := hid (show Q.length ≤ (kdX).cntL ln.ks by omega)
      clear hS hZ hcnt
      go_wp2_with fail
      go_ret
      exact ⟨_, Q, rfl, hnodes.out, hQ.out, hend.out, hfew.out, hold.out⟩
    · obtain ⟨l, Pd', rfl⟩ := List.exists_cons_of_ne_nil hP
      have hlP := hZ.inP l (by simp)
      obtain ⟨lA, nL, lc, hlA, hnL, hsl⟩ : ∃ A n c, l.A = A ∧ l.ks.length = n ∧ slv l = .slice A n c := ⟨_, _, _, rfl, rfl, rfl⟩
      obtain ⟨gL, cL, eL, hcL⟩ := row_some hS.lists.1 (by simp only [List.map_append, List.length_append, List.length_map, List.length_cons]; omega)
      have hkl : ((Pn ++ l :: Pd').map slv).length = Pn.length + (Pd'.length + 1) := by simp
      rw [hkl] at eL
      subst eL
      have hck : ((Pn ++ l :: Pd').map slv)[Pn.length]? = some (slv l) := by simp
      have hc0 := hcL _ _ hck
      have t0 : decide ((Pn.length : Int) < (((Pn.length + (Pd'.length + 1) : Nat)) : Int)) = true := decide_eq_true (by omega)
      have t1 : (Pn.length : Int) < ((Pn.length + (Pd'.length + 1) : Nat) : Int) := by omega
      rw [lw_cons] at hcnt
      have hlw := lw_len (K := kdX) Pd'
      have hNb : Pn.length + (Pd'.length + 1) ≤ 16000000 := by omega
      have hpl := hid (fun W => placeOf_any l.A l.ks.length l.c (fun h => by
        obtain ⟨ad, e, _⟩ := la_ad hlP fun e => h (by rw [e]; rfl)
        exact ⟨ad, e⟩) W)
      replace hpl : Hid (∀ W, Calls Tryz.prog 148 #[slv l] W fun e w' => e = .returned (encP l.key) ∧ Below W.heap.size W w') := hpl
      generalize hNe : Pn.length + (Pd'.length + 1) = NN at *
      replace hNe := hid hNe
      have hD := hid (fun (wr : World) (hb : Below w.heap.size w wr) => dec_place (PtOk_go (la_pt hlP) hb) (kvS_ptN hZ.inE hb))
      have hget := aget_kvS E l.key
      have hfr := hid (putS_fresh (S := E) (l := l))
      have hwt := hid (any_wit (S := E) (l := l))
      have hput := aput_kvS E l
      obtain ⟨kA, kn, hkey⟩ : ∃ (kA : Option Addr) (kn : Nat), l.key = (kA, kn) := ⟨_, _, rfl⟩
      rw [hkey] at hpl hD hget hput
      rw [hsl] at hpl hc0
      replace hput := hid hput
      replace hkey := hid hkey
      have hstep := hid (show 1 + 2 * (kdX).cntL ln.ks - (Pn.length + 1) < 1 + 2 * (kdX).cntL ln.ks - Pn.length by omega)
      replace hS := hid hS
      replace hZ := hid hZ
      replace hQ := hid hQ
      replace hlP := hid hlP
      clear hck hcL hP
      go_wp2_with fail
      refine (hpl.out _).mono ?_
      rintro e w1 ⟨rfl, hb1⟩
      have hbA := hb1.trans ((box_below w1 (.cells #[.pointer kA, .int .i64 (kn : Nat)] PT)).mono hb1.size)
      have hBP := Blk.new w1 PT [.pointer kA, .int .i64 (kn : Nat)]
      have hSA := hid (hS.out.below_ hbA)
      have hDA := hid (hD.out _ hSA.out.old)
      replace hBP := hid hBP
      clear hb1 hbA hpl hc0
      cases hany : E.any fun q => decide (q.key = l.key) with
      | true =>
        rw [← hkey.out, hany, hkey.out] at hget
        replace hget := hid hget
        obtain ⟨e0, he0, hek⟩ := hwt.out hany
        have hZ2 := hid (hZ.out.skip la_fun he0 hek)
        have b0 := hBP.out.cell 0
        have b1 := hBP.out.cell 1
        clear hany he0 hek
        go_wp2_with (at_lookup; refine wpList_aget (by rfl) _ _ false rfl Tryz.underlying195 wideP w.heap.size (kvS E) hSA.out.map (kA, kn) hDA.out (.bool false) (zeroB _) rfl rfl ?_; rw [if_neg Bool.false_ne_true, hget.out])
        exact ⟨⟨Pn ++ [l], Pd', E, Q, by simp, by rw [List.append_assoc]; exact hSA.out, by rw [List.length_append]; exact hZ2.out, hQ.out⟩, by simp [Go.RowKit.intOf]; omega⟩
      | false =>
        rw [← hkey.out, hany, hkey.out] at hget
        replace hget := hid hget
        have hfr2 := hid (hfr.out hany)
        have hZ3 := hid hZ.out.enter
        have b0 := hBP.out.cell 0
        have b1 := hBP.out.cell 1
        have hck2 := hid (show ((Pn ++ l :: Pd').map slv)[Pn.length]? = some (.slice lA nL lc) by rw [← hsl]; simp)
        have hlen := hid (show nL ≤ 4000000 by have := (kdX).len_cntL l.ks; omega)
        replace hsl := hid hsl
        replace hnL := hid hnL
        replace hlA := hid hlA
        clear hany hfr hwt
        go_wp2_with (first
          | (at_lookup; refine wpList_aget (by rfl) _ _ false rfl Tryz.underlying195 wideP w.heap.size (kvS E) hSA.out.map (kA, kn) hDA.out (.bool false) (zeroB _) rfl rfl ?_; rw [if_neg Bool.false_ne_true, hget.out])
          | (at_mapUpdate; refine wpList_aput rfl _ _ _ (Or.inr rfl) Tryz.underlying195 wideP w.heap.size (kvS E) hSA.out.map (kA, kn) (.bool true) hDA.out rfl rfl rfl ?_; intro w4 hm4 hg4 _; rw [hput.out, hfr2.out] at hm4; have hS4 := hid (hSA.out.map_ hm4 hg4); have hc4 := hS4.out.cell hck2.out; clear hm4 hg4))
        clear hSA hDA hBP b0 b1 hput hget hfr2 hc4 hD
        go_loopw [5, 7, 36] (fun a b i wr2 => ∃ (D : Nat) (Pd2 : List (LN T)) (Q2 : List NR), i = .int .i64 (D : Nat) ∧ D ≤ nL ∧ NSt w wr2 a b w.heap.size Q2.length (qcs Q2) (Pn ++ l :: Pd2) (E ++ [l]) ∧ ZM kdX (LA (pln w) w.heap.size) ln.ks Pn.length (E ++ [l]) (Q2.map Prod.snd) (l.ks.drop D) Pd2 ∧ QOk w Q2) (fun _ _ i _ => nL - (Go.RowKit.intOf i).toNat)
        case atStart => exact ⟨0, Pd', Q, rfl, Nat.zero_le _, hS4.out, by rw [List.drop_zero]; exact hZ3.out, hQ.out⟩
        case round =>
          obtain ⟨D, Pd2, Q2, rfl, hDl, hS5, hZ5, hQ5⟩ := hrel
          clear hS4 hZ3 hQ hS hZ
          have hlen2 := hlen.out
          by_cases hC : D = nL
          · have q0 : decide ((D : Int) < (nL : Int)) = false := decide_eq_false (by omega)
            rw [List.drop_of_length_le (by rw [hnL.out]; omega)] at hZ5
            have hZ6 := hid hZ5.end_
            replace hS5 := hid hS5
            replace hQ5 := hid hQ5
            clear hZ5
            go_wp2_with fail
            exact ⟨⟨Pn ++ [l], Pd2, E ++ [l], Q2, by simp, by rw [List.append_assoc]; exact hS5.out, by rw [List.length_append]; exact hZ6.out, hQ5.out⟩, by simp [Go.RowKit.intOf]; omega⟩
          · have hDlt' : D < nL := by omega
            have hDlt : D < l.ks.length := by rw [hnL.out]; exact hDlt'
            have q0 : decide ((D : Int) < (nL : Int)) = true := decide_eq_true (by omega)
            have q1 : (D : Int) < (nL : Int) := by omega
            obtain ⟨tt, htt⟩ : ∃ tt, l.ks[D]? = some tt := ⟨_, List.getElem?_eq_getElem hDlt⟩
            have hdrop : l.ks.drop D = tt :: l.ks.drop (D + 1) := by
              rw [List.drop_eq_getElem_cons hDlt]
              rw [List.getElem?_eq_getElem hDlt] at htt
              cases htt; rfl
            rw [hdrop] at hZ5
            obtain ⟨ad, nk, nn, ns, nA, nl, nc, hA2, hld, hrd⟩ := la_node hlP.out hS5.old htt
            obtain ⟨KL, hKk, hKP, hK2, hcall⟩ := below_any hrd
            have hcn5 := hZ5.cnt
            have hfe5 := hZ5.few
            rw [List.length_map] at hfe5
            have hlw2 := lw_len (K := kdX) Pd2
            have hZ6 := hid (hZ5.step hKk hKP)
            have hQ6 : QOk w (Q2 ++ [([.int .i64 nk, .int .i64 nn, sv ns, .slice nA nl nc], tt)]) := fun q hq => by
              rcases List.mem_append.1 hq with hq | hq
              · exact hQ5 q hq
              · rw [List.mem_singleton] at hq; subst hq; exact ⟨hrd, rfl⟩
            replace hQ6 := hid hQ6
            obtain ⟨c0, c1, c2, c3⟩ := ldC_at hld
            obtain rfl : lA = some ad := hlA.out.symm.trans hA2
            have hbA := box_below wr (.cells #[.int .i64 nk, .int .i64 nn, sv ns, .slice nA nl nc] 92)
            have hBn := hid (Blk.new wr 92 [.int .i64 nk, .int .i64 nn, sv ns, .slice nA nl nc])
            have hne := hid (fun (g : Nat) (hg : u5.ownBlock = some g) => row_lt hS5.nodes hg)
            have hSA := hid (hS5.below_ hbA)
            have hbase := hSA.out.old.size
            have hNq : Q2.length < 1000000000 := by omega
            have hone : ∀ u ∈ ([.int .i64 nk, .int .i64 nn, sv ns, .slice nA nl nc] : List Value), u.oneCell' = true := by simp [Value.oneCell']
            have hkeep := hid (fun (W : World) (h : (wr.alloc (.cells #[.int .i64 nk, .int .i64 nn, sv ns, .slice nA nl nc] 92)).grownBy W u5.ownBlock) => show Blk W wr.heap.size 92 [.int .i64 nk, .int .i64 nn, sv ns, .slice nA nl nc] from (h.block wr.heap.size (by rw [size_alloc']; omega) fun e => by have := hne.out _ e.symm; omega).trans hBn.out)
            have hKl := hid (show (KL.map slv).length = KL.length by simp)
            have hlN : (Pn ++ l :: Pd2).length + KL.length < 1000000000000 := by simp; omega
            have hqc := hid (show qcs (Q2 ++ [([.int .i64 nk, .int .i64 nn, sv ns, .slice nA nl nc], tt)]) = qcs Q2 ++ [.int .i64 nk, .int .i64 nn, sv ns, .slice nA nl nc] by simp [qcs])
            have hql := hid (show (Q2 ++ [(([.int .i64 nk, .int .i64 nn, sv ns, .slice nA nl nc] : List Value), tt)]).length = Q2.length + 1 by simp)
            have hqm := hid (show (Q2 ++ [(([.int .i64 nk, .int .i64 nn, sv ns, .slice nA nl nc] : List Value), tt)]).map Prod.snd = Q2.map Prod.snd ++ [tt] by simp)
            have hlm := hid (show (Pn ++ l :: Pd2) ++ KL = Pn ++ l :: (Pd2 ++ KL) by simp)
            have hlm2 := hid (show ((Pn ++ l :: Pd2).map slv).length = (Pn ++ l :: Pd2).length by simp)
            have p0 := hBn.out.cell 0
            have p1 := hBn.out.cell 1
            have p2 := hBn.out.cell 2
            have p3 := hBn.out.cell 3
            replace hcall := hid hcall
            replace hKP := hid hKP
            replace hone := hid hone
            clear hS5 hQ5 hZ5 hld hrd hKk hcn5 hfe5 hlw2 hbA hdrop htt hA2
            go_wp2_with (at_builtin; refine append_node Tryz.underlying90 infoE rfl (by decide) (by decide) hSA.out.nodes hbase [.int .i64 nk, .int .i64 nn, sv ns, .slice nA nl nc] rfl hone.out hNq rfl _ _ rfl rfl (wr.heap.size + 1) (size_alloc' _ _).symm rfl ?_; intro v1 w2 hr1 hg1; have hS1 := hid (hSA.out.node_ hr1 hg1); have hBn1 := hid (hkeep.out w2 hg1); clear hr1 hg1 p0 p1 p2 p3; have p0 := hBn1.out.cell 0; have p1 := hBn1.out.cell 1; have p2 := hBn1.out.cell 2; have p3 := hBn1.out.cell 3)
            refine (hcall.out _).mono ?_
            rintro e w6 ⟨g, rfl, hgge, hBg, hb6⟩
            have hS6 := hid (hS1.out.below_ hb6)
            have hrd6 := hid hBg.rd
            have hKl2 := hid (fun (u : Value) (hu : u ∈ KL.map slv) => show u.oneCell' = true by
              obtain ⟨x, _, rfl⟩ := List.mem_map.1 hu; rfl)
            clear hS1 hBn1 hb6 hBg hSA hBn hkeep hne
            go_wp2_with (at_builtin; refine Grow.appendAll sl2T hS6.out.lists (some ⟨g, 0, none⟩) KL.length KL.length (g + 1) (KL.map slv) hKl.out (fun e => by cases e) hrd6.out hKl2.out (by rw [hlm2.out]; exact hlN) rfl _ _ rfl rfl rfl ?_; intro v7 w7 hG7 hg7 _; rw [← List.map_append, hlm.out] at hG7; have hS7 := hid (hS6.out.list_ hG7 hg7); clear hG7 hg7)
            exact ⟨⟨D + 1, Pd2 ++ KL, Q2 ++ [([.int .i64 nk, .int .i64 nn, sv ns, .slice nA nl nc], tt)], by go_num, by omega, by rw [hqc.out, hql.out]; exact hS7.out, by rw [hqm.out]; exact hZ6.out, hQ6.out⟩, by simp [Go.RowKit.intOf]; omega⟩
end Go.Proofs.YtnmomlaimffonaaGreat.Gx
set_option maxRecDepth 100000
namespace Go.Proofs.YtnmomlaimffonaaGreat.Tr
open Go.RowKit Go.Lib Go.Sort Com Mem YtnmomlaimffonaaGreat.Os Pl Kd Gx
theorem own_pln {ty : TypeId} {w : World} {lo hi : Nat} {v : Value} {t : T} (h : OwnE ty w lo hi v t) : Ex (pln w) w.heap.size v t := by
  induction h with
  | mk A c vs ls hs hsl hkl hA hin hdis hk ih =>
    refine .mk A c vs hsl hkl (fun j hj => ?_) ih
    obtain ⟨g, cs, e, h1, h2, hb, hr, hd⟩ := hA (by omega)
    exact ⟨_, e, hb.lt, ld4_pln (rows_ld hb hr hj) (by rw [add_block]; exact Blk.pl hb)⟩
theorem ex_go {w W : World} {v : Value} {t : T} (h : Ex (pln w) w.heap.size v t) (hb : Below w.heap.size w W) : Ex (pln W) W.heap.size v t := (h.blw (pln_below hb)).more hb.size
theorem la_one {W : World} {g : Nat} {k n : Int} {s : List UInt8} {A : Option Addr} {l c : Nat} {t : T} (hB : Blk W g 92 [.int .i64 k, .int .i64 n, sv s, .slice A l c]) (h : Ex (pln W) W.heap.size (nv k n s A l c) t) : LA (pln W) W.heap.size ⟨some ⟨g, 0, none⟩, 1, [t]⟩ := by
  refine ⟨fun _ => [.int .i64 k, .int .i64 n, sv s, .slice A l c], fun j hj => ?_, fun j u hu => ?_, by simp⟩
  · have hj0 : j = 0 := by have : j < 1 := hj; omega
    subst hj0
    refine ⟨_, rfl, hB.lt, ?_⟩
    refine ld4_pln ?_ (by rw [add_block]; exact Blk.pl hB)
    exact ⟨_, _, _, _, rfl, hB.cell 0, hB.cell 1, hB.cell 2, hB.cell 3⟩
  · have hj : j = 0 := by
      rcases Nat.lt_or_ge j 1 with h1 | h1
      · omega
      · rw [List.getElem?_eq_none (by simpa using h1)] at hu; cases hu
    subst hj
    cases hu
    exact h
theorem ex_form {w : World} {B : Nat} {v : Value} {t : T} (h : Ex w B v t) : ∃ k n s A l c, v = nv k n s A l c := by
  obtain ⟨k, n, s, ks⟩ := t
  obtain ⟨A, c, vs, e, _⟩ := Ex.kids h
  exact ⟨_, _, _, _, _, _, e⟩
end Go.Proofs.YtnmomlaimffonaaGreat.Tr
