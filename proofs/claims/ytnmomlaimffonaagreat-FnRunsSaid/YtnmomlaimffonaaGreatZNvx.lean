/- The names that the nodes of a tree have. -/
import Derived.Test.YtnmomlaimffonaaGreatZMex
set_option maxHeartbeats 8000000
set_option maxRecDepth 100000
namespace Go.Proofs.YtnmomlaimffonaaGreat.Gx
open Go.RowKit Go.Lib Go.Sort Com Mem YtnmomlaimffonaaGreat.Os Tr Im Ag Pl Kd Ow YtnmomlaimffonaaGreat.Nm C2
def nmN : T → Option (List UInt8)
  | .mk k _ s _ => if k = 2 then some s else none
theorem rdN_lab {W : World} {B : Nat} {nk nn : Int} {ns : List UInt8} {nA : Option Addr} {nl nc : Nat} {t : T} (h : RdN W B [.int .i64 nk, .int .i64 nn, sv ns, .slice nA nl nc] t) : ∃ ks, t = .mk nk nn ns ks := by
  obtain ⟨k, n, s, ks⟩ := t
  obtain ⟨A, c, vs, e, _⟩ := Ex.kids h
  injection e with e
  have e : [Value.int .i64 nk, .int .i64 nn, sv ns, .slice nA nl nc] = [Value.int .i64 k, .int .i64 n, sv s, .slice A ks.length c] := congrArg Array.toList e
  injection e with a0 e; injection e with a1 e; injection e with a2 e
  injection a0 with _ a0; injection a1 with _ a1
  have a2 := sv_inj a2
  subst a0; subst a1; subst a2
  exact ⟨ks, rfl⟩
theorem nm_yes {nn : Int} {ns : List UInt8} {ks : List T} : nmN (.mk 2 nn ns ks) = some ns := rfl
theorem nm_no {nk nn : Int} {ns : List UInt8} {ks : List T} (h : nk ≠ 2) : nmN (.mk nk nn ns ks) = none := if_neg h
theorem nm_all {Q : List NR} {t : T} (h : ∀ u, u ∈ Q.map Prod.snd ↔ SubL kdX u [t]) : sortU (Q.filterMap fun q => nmN q.2) = sortU (varsT t) := by
  refine asc_ext (sortU_asc _) (sortU_asc _) fun x => ?_
  rw [mem_sortU, mem_sortU, varsT_sub, List.mem_filterMap]
  constructor
  · rintro ⟨q, hq, hx⟩
    obtain ⟨a, ha, hs⟩ := (h q.2).1 (List.mem_map.2 ⟨q, hq, rfl⟩)
    rw [List.mem_singleton] at ha; subst ha
    generalize q.2 = u at *
    obtain ⟨k, n, s, ks⟩ := u
    have hx : (if k = 2 then some s else none) = some x := hx
    by_cases h2 : k = 2
    · rw [if_pos h2] at hx
      cases hx
      subst h2
      exact ⟨n, ks, hs⟩
    · rw [if_neg h2] at hx; cases hx
  · rintro ⟨n, ks, hs⟩
    obtain ⟨q, hq, e⟩ := List.mem_map.1 ((h (.mk 2 n x ks)).2 ⟨t, by simp, hs⟩)
    exact ⟨q, hq, by rw [e]; rfl⟩
theorem qcs_cons (q : NR) (Q : List NR) : qcs (q :: Q) = q.1 ++ qcs Q := rfl
theorem qcs_app (P Q : List NR) : qcs (P ++ Q) = qcs P ++ qcs Q := by simp [qcs]
theorem qcs_len {w : World} {Q : List NR} (h : QOk w Q) : (qcs Q).length = Q.length * 4 := by
  induction Q with
  | nil => rfl
  | cons q r ih =>
    rw [qcs_cons, List.length_append, (h q (by simp)).2, ih fun x hx => h x (by simp [hx]), List.length_cons]; omega
theorem qcs_at {w : World} {P Q : List NR} {q : NR} (h : QOk w P) (i : Nat) (hi : i < q.1.length) : (qcs (P ++ q :: Q))[P.length * 4 + i]? = q.1[i]? := by
  rw [qcs_app, List.getElem?_append_right (by rw [qcs_len h]; omega), qcs_len h, Nat.add_sub_cancel_left, qcs_cons, List.getElem?_append_left hi]
theorem fm_len {α β : Type} (f : α → Option β) (l : List α) : (l.filterMap f).length ≤ l.length := List.length_filterMap_le f l
structure VSt (w wr : World) (base : Nat) (a v : Value) (L : List (List UInt8)) (Q : List NR) : Prop where
  names : Grow 9 w wr a (L.map sv)
  nodes : wr.ownsRow base 92 4 v Q.length (qcs Q)
section
variable {w wr w' : World} {base : Nat} {a v : Value} {L : List (List UInt8)} {Q : List NR}
theorem VSt.below_ (h : VSt w wr base a v L Q) (hb : Below wr.heap.size wr w') : VSt w w' base a v L Q :=
  ⟨h.names.below hb (Nat.le_refl _), h.nodes.kept (row := none) ⟨hb.os, hb.tape, hb.output, hb.size, fun k hk _ => hb.block k hk⟩ (by cases v.ownBlock <;> simp)⟩
theorem VSt.name_ {a' : Value} {L' : List (List UInt8)} (h : VSt w wr base a v L Q) (hg : Grow 9 w w' a' (L'.map sv)) (hgb : wr.grownBy w' a.ownBlock) : VSt w w' base a' v L' Q :=
  ⟨hg, h.nodes.kept hgb (rows_ne h.nodes h.names.1 (by decide))⟩
theorem VSt.cell {g N c j : Nat} {u : Value} (h : VSt w wr base a (.slice (some ⟨g, 0, none⟩) N c) L Q) (hj : (qcs Q)[j]? = some u) : wr.cell? ⟨g, j, none⟩ = some u := by
  have := h.nodes.cells (g := g) rfl j u hj
  rw [addr0] at this; exact this
end
theorem grow_one {P : Program} {t e by_ : Nat} {z : Value} {w0 w : World} {v : Value} {xs : List Value} (S : SlT P t e z by_) (h : Grow e w0 w v xs) (u : Value) (hu : u.oneCell' = true) (hl : xs.length < 1000000000000) {o : Oper} {a : Act} {ops : Array Oper} {rest : List Oper} {Q : Exit → Act → World → Prop} (hgd : o.guard = none) (s x : Operand)
    (ho : o.op = .call { callee := .builtin .append, args := #[s, x], argTypes := #[t, t] }) (hs : a.eval s = v) (g : Nat) (hg : g = w.heap.size) (hx : a.eval x = .slice (some ⟨g, 0, none⟩) 1 1)
    (hK : ∀ v' w', Grow e w0 w' v' (xs ++ [u]) → w.grownBy w' v.ownBlock → wpList P ops Q rest (a.put o.dst v') w') :
    wpList P ops Q (o :: rest) a (w.alloc (.cells #[u] e)) := by
  subst hg
  exact h.append S u hu hl hgd s x ho hs hx fun v' w' h1 h2 _ => hK v' w' h1 h2
theorem fm_take {Q : List NR} {m : Nat} {q : NR} (h : Q[m]? = some q) : (Q.take (m + 1)).filterMap (fun q => nmN q.2) = (Q.take m).filterMap (fun q => nmN q.2) ++ (nmN q.2).toList := by
  have hm : m < Q.length := by
    rcases Nat.lt_or_ge m Q.length with h1 | h1
    · exact h1
    · rw [List.getElem?_eq_none h1] at h; cases h
  rw [List.getElem?_eq_getElem hm] at h
  rw [List.take_succ_eq_append_getElem hm, List.filterMap_append, Option.some.inj h]
  cases hq : nmN q.2 <;> simp [hq]
theorem ivarsE (t : T) (v : Value) (w : World) (h : Ex (pln w) w.heap.size v t) (hbd : cntT t ≤ 2000000) :
    Calls Tryz.prog 124 #[v] w fun e w' => ∃ r, e = .returned r ∧ OwnS w.heap.size w'.heap.size w' r (sortU (varsT t)) ∧ Below w.heap.size w w' := by
  obtain ⟨k0, n0, s0, A0, l0, c0, rfl⟩ := ex_form h
  obtain ⟨hb, hla⟩ := two_box w k0 n0 s0 A0 l0 c0 t h
  have hcl := inodes _ _ hla (by rw [cntL_one]; omega)
  rw [cntL_one] at hcl
  replace hcl : Calls Tryz.prog 134 #[.slice (some ⟨w.heap.size + 1, 0, none⟩) 1 1, belowF] _ _ := hcl
  replace hcl := hid hcl
  have p := (Blk.new w 92 [.int .i64 k0, .int .i64 n0, sv s0, .slice A0 l0 c0])
  have p0 : (w.alloc (.cells #[.int .i64 k0, .int .i64 n0, sv s0, .slice A0 l0 c0] 92)).cell? ⟨w.heap.size, 0, none⟩ = some (.int .i64 k0) := p.cell 0
  have p1 : (w.alloc (.cells #[.int .i64 k0, .int .i64 n0, sv s0, .slice A0 l0 c0] 92)).cell? ⟨w.heap.size, 1, none⟩ = some (.int .i64 n0) := p.cell 1
  have p2 : (w.alloc (.cells #[.int .i64 k0, .int .i64 n0, sv s0, .slice A0 l0 c0] 92)).cell? ⟨w.heap.size, 2, none⟩ = some (sv s0) := p.cell 2
  have p3 : (w.alloc (.cells #[.int .i64 k0, .int .i64 n0, sv s0, .slice A0 l0 c0] 92)).cell? ⟨w.heap.size, 3, none⟩ = some (.slice A0 l0 c0) := p.cell 3
  replace hbd := hid hbd
  replace hb := hid hb
  clear hla h p
  go_enter Tryz.func124, Tryz.ntmps124
  go_wp2_with fail
  refine hcl.out.mono ?_
  rintro e w2 ⟨v2, Q, rfl, hrow, hQ, hall, hlenQ, hb2⟩
  obtain ⟨A2, c2, rfl⟩ := row_form hrow
  have hS0 := hid (VSt.mk (L := []) (Grow.nil_ w 9 (hb.out.trans (hb2.mono hb.out.size))) hrow)
  have hfin := hid (nm_all hall)
  have hbd1 := hbd.out
  replace hQ := hid hQ
  clear hrow hall hb2 hcl
  go_wp2_with fail
  go_loopw [3, 10] (fun a i wr => ∃ m : Nat, i = .int .i64 (m : Nat) ∧ m ≤ Q.length ∧ VSt w wr _ a (.slice A2 Q.length c2) ((Q.take m).filterMap fun q => nmN q.2) Q) (fun _ i _ => Q.length - (Go.RowKit.intOf i).toNat)
  case atStart => exact ⟨0, rfl, Nat.zero_le _, by rw [List.take_zero]; exact hS0.out⟩
  case round =>
    obtain ⟨m, rfl, hm, hS⟩ := hrel
    clear hS0
    by_cases hlt : m < Q.length
    · have t0 : decide ((m : Int) < (Q.length : Int)) = true := decide_eq_true (by omega)
      have t1 : (m : Int) < (Q.length : Int) := by omega
      have hq : Q[m]? = some Q[m] := List.getElem?_eq_getElem hlt
      have hsp : Q = Q.take m ++ Q[m] :: Q.drop (m + 1) := by rw [← List.drop_eq_getElem_cons hlt, List.take_append_drop]
      have hft := fm_take hq
      have hok := hQ.out Q[m] (List.getElem_mem _)
      have hat := fun (i : Nat) (hi : i < (Q[m]).1.length) => qcs_at (Q := Q.drop (m + 1)) (q := Q[m]) (P := Q.take m) (fun x hx => hQ.out x (List.mem_of_mem_take hx)) i hi
      rw [← hsp, List.length_take, Nat.min_eq_left (Nat.le_of_lt hlt)] at hat
      obtain ⟨gn, cn, e2, _⟩ := row_some hS.nodes (by omega)
      cases e2
      clear hsp hq
      generalize Q[m] = q at *
      obtain ⟨cs, u⟩ := q
      obtain ⟨hrd, hl4⟩ := hok
      dsimp only at hrd hl4 hat hft
      obtain ⟨v0, v1, v2, v3, rfl⟩ : ∃ v0 v1 v2 v3, cs = [v0, v1, v2, v3] := by
        match cs, hl4 with
        | [v0, v1, v2, v3], _ => exact ⟨_, _, _, _, rfl⟩
      obtain ⟨nk, nn, ns, nA, nl, nc, ev⟩ := rdN_form hrd
      rw [ev] at hrd hat
      have c0 := hS.cell (hat 0 (by simp))
      have c1 := hS.cell (hat 1 (by simp))
      have c2' := hS.cell (hat 2 (by simp))
      have c3 := hS.cell (hat 3 (by simp))
      simp only [Nat.add_zero] at c0
      have hbx := box_below wr (.cells #[.int .i64 nk, .int .i64 nn, sv ns, .slice nA nl nc] 92)
      have hBn := hid (Blk.new wr 92 [.int .i64 nk, .int .i64 nn, sv ns, .slice nA nl nc])
      have hSA := hid (hS.below_ hbx)
      have hfl := fm_len (fun q : NR => nmN q.2) (Q.take m)
      rw [List.length_take] at hfl
      have p0 := hBn.out.cell 0
      have p1 := hBn.out.cell 1
      have p2 := hBn.out.cell 2
      clear hat hS hbx hl4
      obtain ⟨ks, rfl⟩ := rdN_lab hrd
      by_cases h2 : nk = 2
      · subst h2
        rw [nm_yes] at hft
        replace hft := hid hft
        clear hrd ev
        go_wp2_with (at_builtin; refine grow_one strT hSA.out.names (sv ns) rfl (by rw [List.length_map]; omega) rfl _ _ rfl rfl (wr.heap.size + 1) (size_alloc' _ _).symm rfl ?_; intro v1' w1 hg2 hgb; have hS1 := hid (hSA.out.name_ (L' := (Q.take m).filterMap (fun q => nmN q.2) ++ [ns]) (by simpa using hg2) hgb); clear hg2 hgb)
        exact ⟨⟨m + 1, by go_num, by omega, by rw [hft.out]; exact hS1.out⟩, by simp [Go.RowKit.intOf]; omega⟩
      · rw [nm_no h2] at hft
        have e2 : (nk == 2) = false := beq_false_of_ne h2
        replace hft := hid hft
        clear hrd ev h2
        go_wp2_with fail
        exact ⟨⟨m + 1, by go_num, by omega, by rw [hft.out]; simp only [Option.toList_none, List.append_nil]; exact hSA.out⟩, by simp [Go.RowKit.intOf]; omega⟩
    · obtain rfl : m = Q.length := by omega
      have t0 : decide ((Q.length : Int) < (Q.length : Int)) = false := decide_eq_false (by omega)
      rw [List.take_of_length_le (Nat.le_refl _)] at hS
      have hold := hid hS.names.2
      have hfl := fm_len (fun q : NR => nmN q.2) Q
      have hnm := hS.names
      generalize (Q.filterMap fun q => nmN q.2) = L at *
      have ho : OwnS w.heap.size wr.heap.size wr u3 L := Own.of_grow hnm
      obtain ⟨A1, c1, rfl, hr1, hc1, hm1, h1, _⟩ := ho.read_
      have hso := hid (sort_any A1 c1 L wr hr1 h1 (by omega))
      clear hS hnm ho hr1 hc1 hm1 h1 hfl
      go_wp2_with fail
      refine hso.out.mono ?_
      rintro e w3 ⟨r, rfl, hg3⟩
      replace hg3 := hid hg3
      go_wp2_with fail
      go_ret
      exact ⟨_, rfl, by rw [← hfin.out]; exact (Own.of_grow hg3.out).mono hold.out.size (Nat.le_refl _), hold.out.trans (hg3.out.2.mono hold.out.size)⟩
end Go.Proofs.YtnmomlaimffonaaGreat.Gx
namespace Go.Proofs.YtnmomlaimffonaaGreat.Tr
open Go.RowKit Go.Lib Com Mem YtnmomlaimffonaaGreat.Os YtnmomlaimffonaaGreat.Nm
end Go.Proofs.YtnmomlaimffonaaGreat.Tr
