/- Chapter 4: what the program's measure knows of the groups of nodes that are still to come; the method add. -/
import Derived.Test.YtlkfejcnkckgkaaPn
import Derived.Test.YtlkfejcnkckgkaaTr6
import Derived.StillTailTactics
import Derived.Maps.OwnOps
set_option maxRecDepth 100000
namespace Go.Proofs.Ytlkfejcnkckgkaa.Tr
open Go.RowKit Go.Lib Go.Sort Go.Proofs.Ytlkfejcnkckgkaa.Com Go.Proofs.Ytlkfejcnkckgkaa.Mem Go.Proofs.Ytlkfejcnkckgkaa.Os Go.Proofs.Ytlkfejcnkckgkaa.Im

/-- a row of nodes in block g -/
structure Gp where
  g : Nat
  c : Nat
  Ks : List PN
abbrev entG (G : Gp) : Value × Value := (pkey G.g G.Ks.length, .agg #[.slice (some ⟨G.g, 0, none⟩) G.Ks.length G.c, .int .i64 1])
def nodesOf (L : List Gp) : List PN := L.flatMap Gp.Ks
theorem nodesOf_cons (G : Gp) (L : List Gp) : nodesOf (G :: L) = G.Ks ++ nodesOf L := by simp [nodesOf]
theorem nodesOf_append (L M : List Gp) : nodesOf (L ++ M) = nodesOf L ++ nodesOf M := by simp [nodesOf]
theorem nodesOf_perm {L M : List Gp} (h : L.Perm M) : (nodesOf L).Perm (nodesOf M) := h.flatMap_right _
theorem perm_map_cons {α β : Type} {f : α → β} {L : List α} {y : β} {l : List β} (h : (L.map f).Perm (y :: l)) : ∃ G L', f G = y ∧ L.Perm (G :: L') ∧ l.Perm (L'.map f) := by
  obtain ⟨G, hG, e⟩ := List.mem_map.1 (h.mem_iff.2 (List.mem_cons_self))
  obtain ⟨s, t, rfl⟩ := List.append_of_mem hG
  have hp : (s ++ G :: t).Perm (G :: (s ++ t)) := List.perm_middle
  refine ⟨G, s ++ t, e, hp, ?_⟩
  have h2 := (hp.map f).symm.trans h
  rw [List.map_cons, e] at h2
  exact (h2.cons_inv).symm
/-- what is known: the rows seen, S; the rows of this level that are still to come, Lf; the nodes that are left of the present row, cur; the rows of the next level, Bl -/
structure MInv (w : World) (S : List Nat) (Lf : List Gp) (cur : List PN) (Bl : List Gp) : Prop where
  pend : Pend w (cur ++ (nodesOf Lf ++ nodesOf Bl))
  grp : ∀ G ∈ Lf ++ Bl, G.Ks ≠ [] ∧ ∃ cs, Blk w G.g EE cs ∧ cs.take (G.Ks.length * 4) = cellsOf G.Ks
  seen : ∀ g ∈ S, ∃ cs, Blk w g EE cs
  nodup : (S ++ (Lf.map Gp.g ++ Bl.map Gp.g)).Nodup
  apart : ∀ g ∈ S ++ (Lf.map Gp.g ++ Bl.map Gp.g), ∀ q ∈ cur ++ (nodesOf Lf ++ nodesOf Bl), g < q.lo ∨ q.hi ≤ g
theorem MInv.take {w : World} {S : List Nat} {Lf Lf' : List Gp} {G : Gp} {Bl : List Gp} (h : MInv w S Lf [] Bl) (hp : Lf.Perm (G :: Lf')) : MInv w (S ++ [G.g]) Lf' G.Ks Bl := by
  have hn : (nodesOf Lf ++ nodesOf Bl).Perm (G.Ks ++ (nodesOf Lf' ++ nodesOf Bl)) := by
    have := (nodesOf_perm hp).append_right (nodesOf Bl)
    rw [nodesOf_cons, List.append_assoc] at this
    exact this
  have hg : (S ++ (Lf.map Gp.g ++ Bl.map Gp.g)).Perm ((S ++ [G.g]) ++ (Lf'.map Gp.g ++ Bl.map Gp.g)) := by
    have h1 := ((hp.map Gp.g).append_right (Bl.map Gp.g)).append_left S
    rw [List.append_assoc S [G.g]]
    exact h1
  refine ⟨pend_perm h.pend (by simpa using hn), fun H hH => h.grp H ?_, fun g hgm => ?_, hg.nodup_iff.1 h.nodup, fun g hgm q hq => h.apart g (hg.mem_iff.2 hgm) q (hn.mem_iff.2 hq)⟩
  · rcases List.mem_append.1 hH with hH | hH
    · exact List.mem_append.2 (Or.inl (hp.mem_iff.2 (List.mem_cons_of_mem _ hH)))
    · exact List.mem_append.2 (Or.inr hH)
  · rcases List.mem_append.1 hgm with hgm | hgm
    · exact h.seen g hgm
    · rw [List.mem_singleton] at hgm; subst hgm
      obtain ⟨_, cs, hb, _⟩ := h.grp G (List.mem_append.2 (Or.inl (hp.mem_iff.2 (List.mem_cons_self))))
      exact ⟨cs, hb⟩
theorem MInv.leaf {w : World} {S : List Nat} {Lf : List Gp} {p : PN} {cur : List PN} {Bl : List Gp} (h : MInv w S Lf (p :: cur) Bl) : MInv w S Lf cur Bl :=
  ⟨pend_tail h.pend, h.grp, h.seen, h.nodup, fun g hg q hq => h.apart g hg q (List.mem_cons_of_mem _ hq)⟩
/-- a node's kids become a row of the next level -/
theorem MInv.node {w : World} {S : List Nat} {Lf : List Gp} {p : PN} {cur : List PN} {Bl : List Gp} {A : Option Addr} {c g : Nat} {Ks : List PN} {cs : List Value} (h : MInv w S Lf (p :: cur) Bl) (hK : KidsAt w p.lo p.hi A c Ks) (hne : Ks ≠ [])
    (hg : Blk w g EE cs) (htk : cs.take (Ks.length * 4) = cellsOf Ks) (h1 : p.lo ≤ g) (h2 : g < p.hi) (ha : ∀ q ∈ Ks, g < q.lo ∨ q.hi ≤ g) : MInv w S Lf cur (Bl ++ [⟨g, c, Ks⟩]) := by
  have hq := pend_kids h.pend hK
  have e1 : nodesOf (Bl ++ [⟨g, c, Ks⟩]) = nodesOf Bl ++ Ks := by rw [nodesOf_append]; simp [nodesOf]
  have e2 : cur ++ (nodesOf Lf ++ nodesOf (Bl ++ [⟨g, c, Ks⟩])) = (cur ++ (nodesOf Lf ++ nodesOf Bl)) ++ Ks := by rw [e1]; simp
  have e3 : S ++ (Lf.map Gp.g ++ (Bl ++ [(⟨g, c, Ks⟩ : Gp)]).map Gp.g) = (S ++ (Lf.map Gp.g ++ Bl.map Gp.g)) ++ [g] := by simp
  have hnew : g ∉ S ++ (Lf.map Gp.g ++ Bl.map Gp.g) := fun hm => by
    have := h.apart g hm p (List.mem_cons_self)
    omega
  refine ⟨by rw [e2]; exact hq, fun H hH => ?_, h.seen, ?_, fun g' hg' q hq' => ?_⟩
  · rw [← List.append_assoc] at hH
    rcases List.mem_append.1 hH with hH | hH
    · exact h.grp H hH
    · rw [List.mem_singleton] at hH; subst hH; exact ⟨hne, cs, hg, htk⟩
  · rw [e3, List.nodup_append]
    refine ⟨h.nodup, by simp, fun a ha' b hb e => ?_⟩
    rw [List.mem_singleton] at hb; subst hb; subst e; exact hnew ha'
  · rw [e3] at hg'
    rw [e2] at hq'
    rcases List.mem_append.1 hg' with hg' | hg'
    · rcases List.mem_append.1 hq' with hq' | hq'
      · exact h.apart g' hg' q (List.mem_cons_of_mem _ hq')
      · have h3 := h.apart g' hg' p (List.mem_cons_self)
        have h4 := hK.in_ q hq'
        omega
    · rw [List.mem_singleton] at hg'; subst hg'
      rcases List.mem_append.1 hq' with hq' | hq'
      · have h3 := (List.pairwise_cons.1 h.pend.dis).1 q hq'
        omega
      · exact ha q hq'
/-- the next level -/
theorem MInv.turn {w : World} {S : List Nat} {Bl : List Gp} (h : MInv w S [] [] Bl) : MInv w S Bl [] [] :=
  ⟨by have := h.pend; simpa [nodesOf] using this, fun G hG => h.grp G (by simpa using hG), h.seen, by have := h.nodup; simpa using this, fun g hg q hq => h.apart g (by simpa using hg) q (by simpa [nodesOf] using hq)⟩
/-- rows stay where memory of another kind turns -/
theorem keep_blk {ty : TypeId} {w w' : World} {g : Nat} {cs : List Value} (h : KeepS ty w w') (hb : Blk w g EE cs) (hne : EE ≠ ty) : Blk w' g EE cs := h.blk hb hne

set_option maxHeartbeats 1000000 in
theorem addWO (x : Nat) (hx : x ≤ 4000000) (w : World) : Calls Try.prog 72 #[.int .i64 x, .int .i64 1] w fun e w' => e = .returned (.int .i64 ((x : Int) + 1)) ∧ w' = w := by
  have t0 : decide ((9223372036854775806 : Int) < (x : Int)) = false := decide_eq_false (by omega)
  have e1 : IntKind.i64.wrap ((x : Int) + 1) = (x : Int) + 1 := IntWalk.i64_in _ (by omega)
  go_enter Try.func72, Try.ntmps72
  go_wp2_with fail
  go_ret
  exact ⟨rfl, rfl⟩
theorem zeroR (w : World) : (zeroValue 98).run Try.prog w = .ok (.agg #[.slice none 0 0, .int .i64 0]) w := by kernel_rfl
theorem fieldT (w : World) : (Instr.field 98 (.agg #[.slice none 0 0, .int .i64 0]) 1).run Try.prog w = .ok (.int .i64 0) w := by kernel_rfl
set_option maxHeartbeats 1000000 in
theorem add0 (mb : Nat) (A : Option Addr) (c : Nat) (w : World) : Calls Try.prog 71 #[.map (some mb), .slice A 0 c, .int .i64 1] w fun e w' => e = .returned (.tuple #[]) ∧ w' = w := by
  go_enter Try.func71, Try.ntmps71
  go_wp2_with fail
  go_end0
  exact ⟨rfl, rfl⟩
set_option maxHeartbeats 4000000 in
theorem add1 (mb g l c : Nat) (hl : 0 < l) (w : World) (kvs : List (Value × Value)) (hm : IMap w mb kvs) (hn : ∀ W, Below w.heap.size w W → New Try.prog W 67 (pkey g l) kvs) :
    Calls Try.prog 71 #[.map (some mb), .slice (some ⟨g, 0, none⟩) l c, .int .i64 1] w fun e w' => e = .returned (.tuple #[]) ∧ IMap w' mb (kvs ++ [(pkey g l, .agg #[.slice (some ⟨g, 0, none⟩) l c, .int .i64 1])]) ∧ w.grownBy w' (some mb) := by
  have tl : decide ((0 : Int) < (l : Int)) = true := decide_eq_true (by omega)
  have hpl := hid (placeOf_any g l c hl w)
  have hmb := hm.lt
  replace hm := hid hm
  replace hn := hid hn
  go_enter Try.func71, Try.ntmps71
  go_wp2_with fail
  refine hpl.out.mono ?_
  rintro e w1 ⟨rfl, hb⟩
  have hb := hid (hb.trans ((box_below w1 (.cells #[.pointer (some ⟨g, 0, none⟩), .int .i64 (l : Int)] 67)).mono hb.size))
  have hB := Blk.new w1 67 [.pointer (some ⟨g, 0, none⟩), .int .i64 (l : Int)]
  have hB := hid hB
  clear hpl
  go_wp2_with fail
  obtain ⟨W2, hW2⟩ : ∃ W2 : World, W2 = (w1.alloc (.cells #[.pointer (some ⟨g, 0, none⟩), .int .i64 (l : Int)] 67)) := ⟨_, rfl⟩
  rw [← hW2] at hb hB ⊢
  have b0 : ({ W2 with drawn := W2.drawn + 1 } : World).cell? ⟨w1.heap.size, 0, none⟩ = some (.pointer (some ⟨g, 0, none⟩)) := hB.out.cell 0
  have b1 : ({ W2 with drawn := W2.drawn + 1 } : World).cell? ⟨w1.heap.size, 1, none⟩ = some (.int .i64 (l : Int)) := hB.out.cell 1
  have hb3 : Below w.heap.size w ({ W2 with drawn := W2.drawn + 1 } : World) := ⟨hb.out.os, hb.out.tape, hb.out.output, hb.out.size, hb.out.block⟩
  clear hb hB
  refine wp_region_still_tail 10 (by kernel_rfl) (by kernel_rfl) ?_
  generalize ({ W2 with drawn := W2.drawn + 1 } : World) = W3 at *
  have hm3 := hid (hm.out.below hb3 hmb)
  have hn3 := hid (hn.out W3 hb3)
  have hlook : (Instr.lookup 95 (.map (some mb)) (pkey g l) false).run Try.prog W3 = .ok (.agg #[.slice none 0 0, .int .i64 0]) W3 := run_look_new hm3.out Try.underlying95 wideP hn3.out (zeroR W3) false
  have hb3 := hid hb3
  simp only [List.take_succ_cons, List.take_zero, List.drop_succ_cons, List.drop_zero]
  have qf := fieldT
  repeat still_step
  have hadd := hid (addWO 0 (by omega) W3)
  still_call hadd.out
  repeat still_step
  refine wpStill_nil ?_
  go_wp2_with (at_mapUpdate; refine wpList_upd rfl _ _ _ (Or.inr rfl) Try.underlying95 wideP mb kvs hm3.out (pkey g l) (.agg #[.slice (some ⟨g, 0, none⟩) l c, .int .i64 1]) hn3.out rfl rfl rfl ?_; intro w4 hm4 hg4 _)
  go_end0
  exact ⟨rfl, hm4, gb_trans ⟨hb3.out.os, hb3.out.tape, hb3.out.output, hb3.out.size, fun k hk _ => hb3.out.block k hk⟩ hg4⟩
end Go.Proofs.Ytlkfejcnkckgkaa.Tr
