/- The program's list of a tree's nodes. -/
import Derived.Test.YtjglllpemhkkdaaGreatDoorZC1
import Derived.Test.YtjglllpemhkkdaaGreatDoorZKd
import Derived.Test.YtjglllpemhkkdaaGreatDoorZCom
import Derived.Maps.OwnOps
import Derived.OwnWalk
import Derived.Deep.QuietTactic
import Derived.StillTailTactics
import Derived.Test.YtjglllpemhkkdaaGreatDoorZTr
set_option maxRecDepth 100000
namespace Go.Proofs.YtjglllpemhkkdaaGreatDoor.Gx
open Go.RowKit Go.Lib Go.Sort Com Mem Tr Im Ag Pl Kd Ow

theorem addr0 (g j : Nat) : (⟨g, 0, none⟩ : Addr).add j = ⟨g, j, none⟩ := by unfold Addr.add; split <;> simp_all
theorem row_obj {w : World} {base e size n : Nat} {v : Value} {xs : List Value} (h : w.ownsRow base e size v n xs) {g : Nat} (hg : v.ownBlock = some g) : base ≤ g ∧ ∃ cur, w.heap[g]? = some (.cells cur e (0, 0)) := by
  rcases h.2 with ⟨rfl, _⟩ | ⟨g', c, cur, rfl, hb, hh, _⟩
  · cases hg
  · cases hg; exact ⟨hb, cur, hh⟩
theorem row_form {w : World} {base e size n : Nat} {v : Value} {xs : List Value} (h : w.ownsRow base e size v n xs) : ∃ A c, v = .slice A n c := by
  rcases h.2 with ⟨rfl, rfl⟩ | ⟨g, c, cur, rfl, _⟩
  · exact ⟨_, _, rfl⟩
  · exact ⟨_, _, rfl⟩
theorem row_some {w : World} {base e size n : Nat} {v : Value} {xs : List Value} (h : w.ownsRow base e size v n xs) (hn : 0 < n) : ∃ g c, v = .slice (some ⟨g, 0, none⟩) n c ∧ ∀ j u, xs[j]? = some u → w.cell? ⟨g, j, none⟩ = some u := by
  rcases h.2 with ⟨_, h0⟩ | ⟨g, c, cur, rfl, hb, hh, _⟩
  · omega
  · refine ⟨g, c, rfl, fun j u hj => ?_⟩
    have := h.cells (g := g) rfl j u hj
    rw [addr0] at this; exact this
theorem append_node {P : Program} {t e by_ d : Nat} {z : Value} (hu : P.underlying t = some (.slice e)) (hi : (P.info? e).map (fun i => (i.zero, i.size, i.bytes)) = some (some z, d, by_)) (hzc : z.cells.size = d) (hd : 0 < d) (hby : by_ ≤ 1000)
    {w : World} {v : Value} {base n : Nat} {xs : List Value} (h : w.ownsRow base e d v n xs) (hbs : base ≤ w.heap.size) (new : List Value) (hn : new.length = d) (hone : ∀ u ∈ new, u.oneCell' = true) (hl : n < 1000000000) {o : Oper} {a : Act} {ops : Array Oper} {rest : List Oper} {Q : Exit → Act → World → Prop} (hgd : o.guard = none) (s x : Operand)
    (ho : o.op = .call { callee := .builtin .append, args := #[s, x], argTypes := #[t, t] }) (hs : a.eval s = v) (g : Nat) (hg : g = w.heap.size) (hx : a.eval x = .slice (some ⟨g, 0, none⟩) 1 1)
    (hK : ∀ v' w', w'.ownsRow base e d v' (n + 1) (xs ++ new) → w.grownBy w' v.ownBlock → wpList P ops Q rest (a.put o.dst v') w') :
    wpList P ops Q (o :: rest) a (w.alloc (.cells new.toArray e)) := by
  subst hg
  obtain ⟨i0, hi0, hz0, hz1, hz2⟩ := info_parts hi
  have hm : (n + 1) * by_ ≤ (n + 1) * 1000 := Nat.mul_le_mul_left _ hby
  refine wpList_append_own (P := P) _ hgd s x t ho base e i0 z d by_ hu hi0 hz0 hz1 hz2 hzc hd v n xs hs (h.alloc _) ⟨w.heap.size, 0, none⟩ 1 1 new hx (by omega) (fun j u hj => ?_) hone (by unfold maxLen; omega) (by omega) (by rw [size_alloc']; omega) ?_
  · rw [addr0, (Blk.new w e new).cell]; exact hj
  intro v' w' hown hg2 _
  exact hK v' w' hown (gb_trans (World.grownBy_alloc w _ _) hg2)

section
variable {w wr w' : World} {a b : Value} {mb n : Nat} {cs : List Value} {Ln E : List (LN T)}
end
theorem zeroB (w : World) : (zeroValue 4).run Tryz.prog w = .ok (.bool false) w := by kernel_rfl


abbrev PT2 : TypeId := 134
abbrev AT : TypeId := 128
theorem wideQ : WideK Tryz.prog PT2 := ⟨_, Tryz.underlying134, fun _ _ => rfl⟩
theorem check_place2 (A : Option Addr) (n : Nat) (A' : Option Addr) (n' : Nat) (w : World) (em : Bool) : (Instr.checkKey em 10000 PT2 (encQ ((A, n), (A', n')))).run Tryz.prog w = .ok () w := by kernel_rfl
theorem eq_place2 {w : World} {k k' : Pk2} (h1 : PtOk w k.1.1) (h2 : PtOk w k.2.1) (h1' : PtOk w k'.1.1) (h2' : PtOk w k'.2.1) : (Op.equal PT2 (encQ k) (encQ k')).run Tryz.prog w = .ok (decide (k' = k)) w := by
  have e1 := eq_placeD 9997 h1 h1'
  have e2 := eq_placeD 9997 h2 h2'
  obtain ⟨i, hi⟩ := info_of_underlying Tryz.underlying132
  unfold Op.equal Op.maxDepth
  rw [run_equalIn_array w 9999 _ _ Tryz.underlying134 hi]
  have hc : Tryz.prog.cellsOf PT = 2 := by kernel_rfl
  have hpa : ∀ a b c d : Value, (part PT #[a, b, c, d] 0).run Tryz.prog w = .ok (.agg #[a, b]) w := fun a b c d => by kernel_rfl
  have hpb : ∀ a b c d : Value, (part PT #[a, b, c, d] 2).run Tryz.prog w = .ok (.agg #[c, d]) w := fun a b c d => by kernel_rfl
  rw [hc, show List.range 2 = [0, 1] from rfl]
  obtain ⟨k1, k2⟩ := k
  obtain ⟨k1', k2'⟩ := k'
  unfold Op.eqItems
  simp only [Nat.zero_mul, Sem.run_bind, hpa, Result.andThen_ok]
  have e1 : (Op.equalIn 9999 PT (.agg #[.pointer k1.1, .int .i64 (k1.2 : Nat)]) (.agg #[.pointer k1'.1, .int .i64 (k1'.2 : Nat)])).run Tryz.prog w = .ok (decide (k1' = k1)) w := e1
  have e2 : (Op.equalIn 9999 PT (.agg #[.pointer k2.1, .int .i64 (k2.2 : Nat)]) (.agg #[.pointer k2'.1, .int .i64 (k2'.2 : Nat)])).run Tryz.prog w = .ok (decide (k2' = k2)) w := e2
  simp only [e1, Result.andThen_ok]
  by_cases q1 : k1' = k1
  · rw [decide_eq_true q1]
    simp only [Bool.not_true, Bool.false_eq_true, if_false]
    unfold Op.eqItems
    simp only [Nat.one_mul, Sem.run_bind, hpb, Result.andThen_ok, e2]
    unfold Op.eqItems
    by_cases q2 : k2' = k2
    · subst q1; subst q2; simp
    · have : ¬ (k1', k2') = (k1, k2) := fun e => q2 (Prod.mk.inj e).2
      simp [q2, this]
  · have : ¬ (k1', k2') = (k1, k2) := fun e => q1 (Prod.mk.inj e).1
    simp [q1, this]
theorem bits_Q (k : Pk2) : ∀ n, Instr.sameBits (n + 1) (encQ k) (encQ k) = true := fun n => by simp [Instr.sameBits]
theorem dec_place2 {w : World} {k : Pk2} {l : List (Pk2 × Value)} (h1 : PtOk w k.1.1) (h2 : PtOk w k.2.1) (hl : ∀ p ∈ l, PtOk w p.1.1.1 ∧ PtOk w p.1.2.1) : Dec Tryz.prog encQ PT2 w k l :=
  ⟨fun w em => check_place2 k.1.1 k.1.2 k.2.1 k.2.2 w em, fun p hp => eq_place2 h1 h2 (hl p hp).1 (hl p hp).2, bits_Q k 9999⟩
theorem infoA : (Tryz.prog.info? AT).map (fun i => (i.zero, i.size, i.bytes)) = some (some (.agg #[.slice none 0 0, .slice none 0 0]), 2, 48) := by kernel_rfl

abbrev PLt := PL T
def pcs (Q : List PLt) : List Value := Q.flatMap fun p => [slv p.1, slv p.2]
theorem pcs_len (Q : List PLt) : (pcs Q).length = Q.length * 2 := by
  induction Q with
  | nil => rfl
  | cons p r ih =>
    have e : pcs (p :: r) = slv p.1 :: slv p.2 :: pcs r := rfl
    rw [e]; simp [ih]; omega
theorem pcs_append (P Q : List PLt) : pcs (P ++ Q) = pcs P ++ pcs Q := by simp [pcs]
theorem pcs_at (P Q : List PLt) (p : PLt) : (pcs (P ++ p :: Q))[P.length * 2]? = some (slv p.1) ∧ (pcs (P ++ p :: Q))[P.length * 2 + 1]? = some (slv p.2) := by
  have e : pcs (P ++ p :: Q) = pcs P ++ (slv p.1 :: slv p.2 :: pcs Q) := by rw [pcs_append]; rfl
  rw [e]
  constructor
  · rw [List.getElem?_append_right (by rw [pcs_len]; omega), pcs_len, Nat.sub_self]; rfl
  · rw [List.getElem?_append_right (by rw [pcs_len]; omega), pcs_len, Nat.add_sub_cancel_left]; rfl
abbrev pk2 (p : PLt) : Pk2 := (p.1.key, p.2.key)
def kvQ (C : List PLt) : List (Pk2 × Value) := C.map fun p => (pk2 p, .bool true)
theorem aget_kvQ (C : List PLt) (k : Pk2) : (aget (kvQ C) k).getD (.bool false) = .bool (C.any fun q => decide (pk2 q = k)) := by
  induction C with
  | nil => rfl
  | cons q r ih =>
    simp only [kvQ, List.map_cons, aget, List.any_cons]
    by_cases e : pk2 q = k
    · rw [if_pos e, decide_eq_true e]; rfl
    · rw [if_neg e, decide_eq_false e, Bool.false_or]; exact ih
theorem aput_kvQ (C : List PLt) (p : PLt) (h : (C.any fun q => decide (pk2 q = pk2 p)) = false) : aput (kvQ C) (pk2 p) (.bool true) = kvQ (C ++ [p]) := by
  induction C with
  | nil => rfl
  | cons q r ih =>
    simp only [List.any_cons, Bool.or_eq_false_iff, decide_eq_false_iff_not] at h
    simp only [kvQ, List.map_cons, aput, List.cons_append]
    rw [if_neg h.1]
    congr 1
    exact ih h.2
structure QSt (w wr : World) (b : Value) (mb : Nat) (Ln C : List PLt) : Prop where
  pairs : wr.ownsRow w.heap.size AT 2 b Ln.length (pcs Ln)
  old : Below w.heap.size w wr
  map : EMap encQ wr mb (kvQ C)
  mbge : w.heap.size ≤ mb
theorem row_mapQ {w : World} {base e size n b : Nat} {v : Value} {xs : List Value} {l : List (Pk2 × Value)} (h : w.ownsRow base e size v n xs) (hm : EMap encQ w b l) : v.ownBlock ≠ some b := fun hb => by
  obtain ⟨_, c1, h1⟩ := row_obj h hb
  unfold EMap IMap at hm
  rw [hm] at h1; cases h1
theorem blk_row_ne {w : World} {base e size n g ty : Nat} {v : Value} {xs cs : List Value} (h : w.ownsRow base e size v n xs) (hB : Blk w g ty cs) (hne : ty ≠ e) : v.ownBlock ≠ some g := fun hb => by
  obtain ⟨_, c1, h1⟩ := row_obj h hb
  unfold Blk at hB
  rw [hB] at h1
  injection h1 with h3; injection h3 with _ h4
  exact hne h4
section
variable {w wr w' : World} {b : Value} {mb : Nat} {Ln C : List PLt}
theorem QSt.below_ (h : QSt w wr b mb Ln C) (hb : Below wr.heap.size wr w') : QSt w w' b mb Ln C :=
  ⟨h.pairs.kept (row := none) ⟨hb.os, hb.tape, hb.output, hb.size, fun k hk _ => hb.block k hk⟩ (by cases b.ownBlock <;> simp), h.old.trans (hb.mono h.old.size), h.map.below hb h.map.lt, h.mbge⟩
theorem QSt.pair_ {b' : Value} {Ln' : List PLt} (h : QSt w wr b mb Ln C) (hr : w'.ownsRow w.heap.size AT 2 b' Ln'.length (pcs Ln')) (hg : wr.grownBy w' b.ownBlock) : QSt w w' b' mb Ln' C :=
  ⟨hr, h.old.grown hg h.old.size fun _ hk => (row_obj h.pairs hk).1, h.map.gb hg (fun e => row_mapQ h.pairs h.map e.symm), h.mbge⟩
theorem QSt.map_ {C' : List PLt} (h : QSt w wr b mb Ln C) (hm : EMap encQ w' mb (kvQ C')) (hg : wr.grownBy w' (some mb)) : QSt w w' b mb Ln C' :=
  ⟨h.pairs.kept hg (Or.inr (row_mapQ h.pairs h.map)), h.old.grown hg h.old.size fun _ hk => (by cases hk; exact h.mbge), hm, h.mbge⟩
end
theorem kvQ_pt {w wr : World} {C : List PLt} (h : ∀ p ∈ C, LA (pln w) w.heap.size p.1 ∧ LA (pln w) w.heap.size p.2) (hb : Below w.heap.size w wr) : ∀ p ∈ kvQ C, PtOk wr p.1.1.1 ∧ PtOk wr p.1.2.1 := fun p hp => by
  obtain ⟨q, hq, rfl⟩ := List.mem_map.1 hp
  exact ⟨PtOk_go (la_pt (h q hq).1) hb, PtOk_go (la_pt (h q hq).2) hb⟩
theorem any_witQ {C : List PLt} {p : PLt} (h : (C.any fun q => decide (pk2 q = pk2 p)) = true) : ∃ e ∈ C, e.1.key = p.1.key ∧ e.2.key = p.2.key := by
  obtain ⟨e, he, h⟩ := List.any_eq_true.1 h
  have := of_decide_eq_true h
  exact ⟨e, he, (Prod.mk.inj this).1, (Prod.mk.inj this).2⟩
theorem la_mono {w W : World} {l : LN T} (h : LA (pln w) w.heap.size l) (hb : Below w.heap.size w W) : LA (pln W) W.heap.size l := by
  obtain ⟨rows, h⟩ := h
  refine ⟨rows, fun j hj => ?_, fun j t ht => ?_, h.len⟩
  · obtain ⟨ad, e, hB, hl⟩ := h.cell j hj
    exact ⟨ad, e, Nat.lt_of_lt_of_le hB hb.size, ldC_keep hl fun p hp => (pln_below hb).cell (by rw [hp, add_block]; exact hB)⟩
  · have := h.kid j t ht
    unfold RdN at this ⊢
    exact (this.blw (pln_below hb)).more hb.size
theorem eqs_root {a b : List T} (h : eqLs kqX.root a b = false) : eqLs kqX.eq a b = false := by
  cases hq : eqLs kqX.eq a b
  · rfl
  · obtain ⟨h1, h2⟩ := eqLs_iff.1 hq
    have : eqLs kqX.root a b = true := eqLs_iff.2 ⟨h1, fun i x y hx hy => by
      have := h2 i x y hx hy
      rw [kqX.eq_eq, Bool.and_eq_true] at this
      exact this.1⟩
    rw [this] at h; cases h
def AllOk (ls : List T) : Prop := ∀ u, SubL kdX u ls → ROk u

set_option maxHeartbeats 16000000 in
theorem iequalT (la lb : LN T) (w : World) (hla : LA (pln w) w.heap.size la) (hlb : LA (pln w) w.heap.size lb) (hok : AllOk la.ks) (hbd : kqX.toKd.cntL la.ks ≤ 4000000) :
    Calls Tryz.prog 48 #[slv la, slv lb, belowF, rootF] w fun e w' => e = .returned (.bool (eqLs kqX.eq la.ks lb.ks)) ∧ Below w.heap.size w w' := by
  have hZ0 := hid (ZE.first (K := kqX) hla hlb)
  obtain ⟨R, hR⟩ : ∃ R, R = eqLs kqX.eq la.ks lb.ks := ⟨_, rfl⟩
  rw [← hR]
  replace hR := hid hR
  replace hok := hid hok
  have qm := fun w => run_makeMap (P := Tryz.prog) 127 w
  have hS0 : QSt w ((w.alloc (.map #[] 0)).alloc (.cells #[slv la, slv lb] AT)) (.slice (some ⟨w.heap.size + 1, 0, none⟩) 1 1) w.heap.size [(la, lb)] [] := by
    have b1 := box_below w (.map #[] 0)
    have s1 := size_alloc' w (.map #[] 0)
    have b2 := box_below (w.alloc (.map #[] 0)) (.cells #[slv la, slv lb] AT)
    have m1 := EMap.new (enc := encQ) w
    have hn := heap_alloc_new (w.alloc (.map #[] 0)) (.cells #[slv la, slv lb] AT)
    rw [s1] at hn
    exact ⟨⟨rfl, Or.inr ⟨w.heap.size + 1, 1, #[slv la, slv lb], rfl, by omega, hn, by simp, by unfold maxLen; omega, rfl, rfl⟩⟩, b1.trans (b2.mono (by omega)), m1.alloc _, Nat.le_refl _⟩
  replace hS0 := hid hS0
  replace hbd := hid hbd
  go_enter Tryz.func48, Tryz.ntmps48
  go_wp2_with fail
  generalize ((w.alloc (.map #[] 0)).alloc (.cells #[slv la, slv lb] AT)) = W0 at *
  go_loopw [10, 11] (fun b i wr => ∃ (Pn Pd C : List PLt), i = .int .i64 (Pn.length : Nat) ∧ QSt w wr b w.heap.size (Pn ++ Pd) C ∧ ZE kqX (LA (pln w) w.heap.size) la.ks lb.ks Pn.length C Pd ∧ ∀ p ∈ Pd, AllOk p.1.ks) (fun _ i _ => 1 + 2 * kqX.toKd.cntL la.ks - (Go.RowKit.intOf i).toNat)
  case atStart => exact ⟨[], [(la, lb)], [], rfl, hS0.out, hZ0.out, fun p hp => by rw [List.mem_singleton] at hp; subst hp; exact hok.out⟩
  case round =>
    obtain ⟨Pn, Pd, C, rfl, hS, hZ, hA⟩ := hrel
    clear hS0 hZ0 qm
    have hbd1 := hbd.out
    have hcnt := hZ.cnt
    by_cases hP : Pd = []
    · subst hP
      have hend := hid (hR.out.trans hZ.end_)
      rw [List.append_nil] at hS
      have hold := hid hS.old
      obtain ⟨A2, c2, e2⟩ := row_form hS.pairs
      subst e2
      have t0 : decide ((Pn.length : Int) < (Pn.length : Int)) = false := decide_eq_false (by omega)
      clear hS hZ hcnt hA
      go_wp2_with fail
      go_ret
      exact ⟨by rw [hend.out]; rfl, hold.out⟩
    · obtain ⟨⟨l, r⟩, Pd', rfl⟩ := List.exists_cons_of_ne_nil hP
      obtain ⟨hlP, hrP⟩ := hZ.inP (l, r) (by simp)
      have hlP : LA (pln w) w.heap.size l := hlP
      have hrP : LA (pln w) w.heap.size r := hrP
      obtain ⟨lA, nL, lc, hlA, hnL, hsl⟩ : ∃ A n c, l.A = A ∧ l.ks.length = n ∧ slv l = .slice A n c := ⟨_, _, _, rfl, rfl, rfl⟩
      obtain ⟨rA, nR, rc, hrA, hnR, hsr⟩ : ∃ A n c, r.A = A ∧ r.ks.length = n ∧ slv r = .slice A n c := ⟨_, _, _, rfl, rfl, rfl⟩
      obtain ⟨gP, cP, eP, hcP⟩ := row_some hS.pairs (by simp only [List.length_append, List.length_cons]; omega)
      have hkl : (Pn ++ (l, r) :: Pd').length = Pn.length + (Pd'.length + 1) := by simp
      rw [hkl] at eP
      subst eP
      have x0 := hcP _ _ (pcs_at Pn Pd' (l, r)).1
      have x1 := hcP _ _ (pcs_at Pn Pd' (l, r)).2
      simp only at x0 x1
      have t0 : decide ((Pn.length : Int) < (((Pn.length + (Pd'.length + 1) : Nat)) : Int)) = true := decide_eq_true (by omega)
      have t1 : (Pn.length : Int) < ((Pn.length + (Pd'.length + 1) : Nat) : Int) := by omega
      rw [List.map_cons, lw_cons] at hcnt
      have hlw := lw_len (K := kqX.toKd) (Pd'.map Prod.fst)
      rw [List.length_map] at hlw
      have hNb : Pn.length + (Pd'.length + 1) ≤ 16000000 := by omega
      have hpl : ∀ W, Calls Tryz.prog 99 #[slv l] W fun e w' => e = .returned (encP l.key) ∧ Below W.heap.size W w' := fun W => placeOf_any l.A l.ks.length l.c (fun h => by
        obtain ⟨ad, e, _⟩ := la_ad hlP fun e => h (by rw [e]; rfl)
        exact ⟨ad, e⟩) W
      have hpr : ∀ W, Calls Tryz.prog 99 #[slv r] W fun e w' => e = .returned (encP r.key) ∧ Below W.heap.size W w' := fun W => placeOf_any r.A r.ks.length r.c (fun h => by
        obtain ⟨ad, e, _⟩ := la_ad hrP fun e => h (by rw [e]; rfl)
        exact ⟨ad, e⟩) W
      generalize hNe : Pn.length + (Pd'.length + 1) = NN at *
      replace hNe := hid hNe
      have hD := hid (fun (wr : World) (hb : Below w.heap.size w wr) => dec_place2 (k := pk2 (l, r)) (PtOk_go (la_pt hlP) hb) (PtOk_go (la_pt hrP) hb) (kvQ_pt hZ.inC hb))
      have hget := aget_kvQ C (pk2 (l, r))
      have hwt := hid (any_witQ (C := C) (p := (l, r)))
      have hput := hid (aput_kvQ C (l, r))
      obtain ⟨kA, kn, hkey⟩ : ∃ (kA : Option Addr) (kn : Nat), l.key = (kA, kn) := ⟨_, _, rfl⟩
      obtain ⟨jA, jn, hkey'⟩ : ∃ (kA : Option Addr) (kn : Nat), r.key = (kA, kn) := ⟨_, _, rfl⟩
      have hpk : pk2 (l, r) = ((kA, kn), (jA, jn)) := by show (l.key, r.key) = _; rw [hkey, hkey']
      rw [hkey, hsl] at hpl
      rw [hkey', hsr] at hpr
      rw [hsl] at x0
      rw [hsr] at x1
      replace hpl := hid hpl
      replace hpr := hid hpr
      replace hpk := hid hpk
      have hstep := hid (show 1 + 2 * kqX.toKd.cntL la.ks - (Pn.length + 1) < 1 + 2 * kqX.toKd.cntL la.ks - Pn.length by omega)
      have hAl := hid (hA (l, r) (by simp))
      have hA' := hid (fun p (hp : p ∈ Pd') => hA p (by simp [hp]))
      replace hS := hid hS
      replace hZ := hid hZ
      replace hlP := hid hlP
      replace hrP := hid hrP
      replace hlA := hid hlA
      replace hrA := hid hrA
      replace hnL := hid hnL
      replace hnR := hid hnR
      replace hkl := hid hkl
      clear hcP hP hkey hkey' hA hcnt hlw
      go_wp2_with fail
      go_quiet (fail)
      have hSd := hid (hS.out.below_ (bdr (Below.refl _ _) nq))
      go_wp2_with fail
      refine (hpl.out _).mono ?_
      rintro e w1 ⟨rfl, hb1⟩
      go_wp2_with fail
      refine (hpr.out _).mono ?_
      rintro e w2 ⟨rfl, hb2⟩
      have hbA := (hb1.trans (hb2.mono hb1.size)).trans ((box_below w2 (.cells #[.pointer kA, .int .i64 (kn : Nat), .pointer jA, .int .i64 (jn : Nat)] PT2)).mono (Nat.le_trans hb1.size hb2.size))
      have hBP := hid (Blk.new w2 PT2 [.pointer kA, .int .i64 (kn : Nat), .pointer jA, .int .i64 (jn : Nat)])
      have hSA := hid (hSd.out.below_ hbA)
      have hDA := hD.out _ hSA.out.old
      rw [hpk.out] at hDA
      replace hDA := hid hDA
      have hx0 := hid x0
      have hx1 := hid x1
      clear hb1 hb2 hbA hpl hpr hD hSd x0 x1
      cases hany : C.any fun q => decide (pk2 q = pk2 (l, r)) with
      | true =>
        rw [hany, hpk.out] at hget
        replace hget := hid hget
        obtain ⟨e0, he0, hek, hek'⟩ := hwt.out hany
        have hZ2 := hid (hZ.out.skip la_fun he0 hek hek')
        have b0 := hBP.out.cell 0
        have b1 := hBP.out.cell 1
        have b2 := hBP.out.cell 2
        have b3 := hBP.out.cell 3
        clear hany he0 hek hek' hwt hput
        go_wp2_with (at_lookup; refine wpList_aget (by rfl) _ _ false rfl Tryz.underlying127 wideQ w.heap.size (kvQ C) hSA.out.map ((kA, kn), (jA, jn)) hDA.out (.bool false) (zeroB _) rfl rfl ?_; rw [if_neg Bool.false_ne_true, hget.out])
        exact ⟨⟨Pn ++ [(l, r)], Pd', C, by simp, by rw [List.append_assoc]; exact hSA.out, by rw [List.length_append]; exact hZ2.out, hA'.out⟩, by have h9 := hstep.out; simp [Go.RowKit.intOf]; omega⟩
      | false =>
        rw [hany, hpk.out] at hget
        replace hget := hid hget
        have hput := hput.out hany
        rw [hpk.out] at hput
        replace hput := hid hput
        have hef := hid (fun (W : World) (hW : Below w.heap.size w W) => eqfunc_any l r W (la_mono hlP.out hW) (la_mono hrP.out hW) (fun t ht => hAl.out t ⟨t, ht, .here t⟩))
        rw [hsl, hsr] at hef
        have b0 := hBP.out.cell 0
        have b1 := hBP.out.cell 1
        have b2 := hBP.out.cell 2
        have b3 := hBP.out.cell 3
        clear hany hwt
        cases hroot : eqLs kqX.root l.ks r.ks with
        | false =>
          have hf := hid (hR.out.trans (hZ.out.fail (eqs_root hroot)))
          rw [hroot] at hef
          clear hroot
          go_wp2_with (first
            | (at_lookup; refine wpList_aget (by rfl) _ _ false rfl Tryz.underlying127 wideQ w.heap.size (kvQ C) hSA.out.map ((kA, kn), (jA, jn)) hDA.out (.bool false) (zeroB _) rfl rfl ?_; rw [if_neg Bool.false_ne_true, hget.out])
            | (at_mapUpdate; refine wpList_aput rfl _ _ _ (Or.inr rfl) Tryz.underlying127 wideQ w.heap.size (kvQ C) hSA.out.map ((kA, kn), (jA, jn)) (.bool true) hDA.out rfl rfl rfl ?_; intro w4 hm4 hg4 _; rw [hput.out] at hm4; have hS4 := hid (hSA.out.map_ hm4 hg4); clear hm4 hg4))
          refine (hef.out _ hS4.out.old).mono ?_
          rintro e w5 ⟨rfl, hb5⟩
          have hold := hid (hS4.out.old.trans (hb5.mono hS4.out.old.size))
          clear hb5
          go_wp2_with fail
          go_ret
          exact ⟨by rw [hf.out]; rfl, hold.out⟩
        | true =>
          obtain ⟨hlen, hrt⟩ := eqLs_iff.1 hroot
          have hZ3 := hid (hZ.out.enter hlen hrt)
          rw [hroot] at hef
          obtain rfl : nL = nR := by rw [← hnL.out, ← hnR.out]; exact hlen
          have hnb := hid (show nL ≤ 4000000 by
            have h1 := hZ3.out.cnt
            have h2 := kqX.toKd.len_cntL l.ks
            rw [List.drop_zero] at h1
            rw [hnL.out] at h2
            omega)
          clear hroot hlen hrt
          go_wp2_with (first
            | (at_lookup; refine wpList_aget (by rfl) _ _ false rfl Tryz.underlying127 wideQ w.heap.size (kvQ C) hSA.out.map ((kA, kn), (jA, jn)) hDA.out (.bool false) (zeroB _) rfl rfl ?_; rw [if_neg Bool.false_ne_true, hget.out])
            | (at_mapUpdate; refine wpList_aput rfl _ _ _ (Or.inr rfl) Tryz.underlying127 wideQ w.heap.size (kvQ C) hSA.out.map ((kA, kn), (jA, jn)) (.bool true) hDA.out rfl rfl rfl ?_; intro w4 hm4 hg4 _; rw [hput.out] at hm4; have hS4 := hid (hSA.out.map_ hm4 hg4); clear hm4 hg4))
          refine (hef.out _ hS4.out.old).mono ?_
          rintro e w5 ⟨rfl, hb5⟩
          have hS5 := hid (hS4.out.below_ hb5)
          clear hb5 hS4 hSA hDA hBP b0 b1 b2 b3 hput hget hef hS hZ hx0 hx1
          go_wp2_with fail
          go_loopw [10, 57] (fun b i wr2 => ∃ (n : Nat) (Pd2 : List PLt), i = .int .i64 (n : Nat) ∧ n ≤ nL ∧ QSt w wr2 b w.heap.size (Pn ++ (l, r) :: Pd2) (C ++ [(l, r)]) ∧ ZF kqX (LA (pln w) w.heap.size) la.ks lb.ks Pn.length l r n (C ++ [(l, r)]) Pd2 ∧ ∀ p ∈ Pd2, AllOk p.1.ks) (fun _ i _ => nL - (Go.RowKit.intOf i).toNat)
          case atStart => exact ⟨0, Pd', rfl, Nat.zero_le _, hS5.out, hZ3.out, hA'.out⟩
          case round =>
            obtain ⟨n, Pd2, rfl, hn, hS6, hZ6, hA6⟩ := hrel
            clear hS5 hZ3 hA'
            have hlen2 := hnb.out
            by_cases hC : n = nL
            · have q0 : decide ((n : Int) < (nL : Int)) = false := decide_eq_false (by omega)
              have hZ7 := hid (hZ6.end_ (by rw [hnL.out]; omega))
              replace hS6 := hid hS6
              replace hA6 := hid hA6
              clear hZ6
              go_wp2_with fail
              exact ⟨⟨Pn ++ [(l, r)], Pd2, C ++ [(l, r)], by simp, by rw [List.append_assoc]; exact hS6.out, by rw [List.length_append]; exact hZ7.out, hA6.out⟩, by have h9 := hstep.out; simp [Go.RowKit.intOf]; omega⟩
            · have hnlt : n < nL := by omega
              have q0 : decide ((n : Int) < (nL : Int)) = true := decide_eq_true (by omega)
              have q1 : (n : Int) < (nL : Int) := by omega
              have hml : n < l.ks.length := by rw [hnL.out]; exact hnlt
              have hmr : n < r.ks.length := by rw [hnR.out]; exact hnlt
              obtain ⟨ta, hta⟩ : ∃ ta, l.ks[n]? = some ta := ⟨_, List.getElem?_eq_getElem hml⟩
              obtain ⟨tb, htb⟩ : ∃ tb, r.ks[n]? = some tb := ⟨_, List.getElem?_eq_getElem hmr⟩
              obtain ⟨ad, nk, nn, ns, nA, nl, nc, hA1, hld, hrd⟩ := la_node hlP.out hS6.old hta
              obtain ⟨ad', nk', nn', ns', nA', nl', nc', hA2, hld', hrd'⟩ := la_node hrP.out hS6.old htb
              obtain rfl : lA = some ad := hlA.out.symm.trans hA1
              obtain rfl : rA = some ad' := hrA.out.symm.trans hA2
              obtain ⟨KL, hKk, hKP, hK2, hcall⟩ := below_any hrd
              obtain ⟨KR, hKk', hKP', hK2', hcall'⟩ := below_any hrd'
              have hKlen : KL.length = KR.length := by
                have h1 := congrArg List.length hKk
                have h2 := congrArg List.length hKk'
                rw [List.length_map] at h1 h2
                rw [h1, h2]; exact kqX.kids_len ta tb
              have hA7 : ∀ p ∈ Pd2 ++ KL.zip KR, AllOk p.1.ks := fun p hp => by
                rcases List.mem_append.1 hp with hp | hp
                · exact hA6 p hp
                · have hx := (List.of_mem_zip (a := p.1) (b := p.2) hp).1
                  have hx' : p.1.ks ∈ kqX.toKd.kids ta := by
                    show p.1.ks ∈ kidsT ta
                    rw [← hKk]; exact List.mem_map.2 ⟨p.1, hx, rfl⟩
                  exact fun u hu => hAl.out u ⟨ta, List.mem_of_getElem? hta, sub_iff.2 (Or.inr ⟨p.1.ks, hx', hu⟩)⟩
              have hcn6 := hZ6.cnt
              have hlw2 := lw_len (K := kqX.toKd) (Pd2.map Prod.fst)
              rw [List.length_map] at hlw2
              have hNq : (Pn ++ (l, r) :: Pd2).length + KL.length ≤ 20000000 := by simp only [List.length_append, List.length_cons]; omega
              have hZ7 := hid (hZ6.step hta htb hKk hKk' hKP hKP')
              have c := ldC_at hld'
              obtain ⟨c0, c1, c2, c3⟩ := c
              replace hS6 := hid hS6
              replace hld := hid hld
              replace hcall := hid hcall
              replace hcall' := hid hcall'
              replace hA7 := hid hA7
              clear hld' hrd hrd' hKk hKk' hKP hKP' hta htb hZ6 hA6 hcn6 hlw2 hA1 hA2 hml hmr
              go_wp2_with fail
              refine (hcall'.out _).mono ?_
              rintro e w6 ⟨gR, rfl, hgR, hBR, hb6⟩
              have hS7 := hid (hS6.out.below_ hb6)
              have hld2 := ldC_go hld.out hb6
              replace hBR := hid hBR
              clear c0 c1 c2 c3 hb6 hS6 hld
              obtain ⟨c0, c1, c2, c3⟩ := ldC_at hld2
              clear hld2
              go_wp2_with fail
              refine (hcall.out _).mono ?_
              rintro e w7 ⟨gL, rfl, hgL, hBL, hb7⟩
              have hS8 := hid (hS7.out.below_ hb7)
              have hBR7 := hid (hBR.out.below hb7 hBR.out.lt)
              replace hBL := hid hBL
              clear c0 c1 c2 c3 hb7 hS7 hBR hgL hgR
              go_wp2_with fail
              go_loopw [10, 73] (fun b i wr3 => ∃ j : Nat, i = .int .i64 (j : Nat) ∧ j ≤ KL.length ∧ QSt w wr3 b w.heap.size (Pn ++ (l, r) :: (Pd2 ++ (KL.zip KR).take j)) (C ++ [(l, r)]) ∧ Blk wr3 gL RowT (KL.map slv) ∧ Blk wr3 gR RowT (KR.map slv)) (fun _ i _ => KL.length - (Go.RowKit.intOf i).toNat)
              case atStart => exact ⟨0, rfl, Nat.zero_le _, by rw [List.take_zero, List.append_nil]; exact hS8.out, hBL.out, hBR7.out⟩
              case round =>
                obtain ⟨j, rfl, hj, hS9, hBLj, hBRj⟩ := hrel
                clear hS8 hBL hBR7
                by_cases hJ : j = KL.length
                · have p0 : decide ((j : Int) < (KL.length : Int)) = false := decide_eq_false (by omega)
                  rw [List.take_of_length_le (by rw [List.length_zip]; omega)] at hS9
                  replace hS9 := hid hS9
                  clear hBLj hBRj
                  go_wp2_with fail
                  exact ⟨⟨n + 1, Pd2 ++ KL.zip KR, by go_num, by omega, hS9.out, hZ7.out, hA7.out⟩, by simp [Go.RowKit.intOf]; omega⟩
                · have hjl : j < KL.length := by omega
                  have hjr : j < KR.length := by omega
                  have p0 : decide ((j : Int) < (KL.length : Int)) = true := decide_eq_true (by omega)
                  have p1 : (j : Int) < (KL.length : Int) := by omega
                  have p2 : (j : Int) < (KR.length : Int) := by omega
                  have d0 : wr.cell? ⟨gL, j, none⟩ = some (slv KL[j]) := by rw [hBLj.cell, List.getElem?_map, List.getElem?_eq_getElem hjl]; rfl
                  have d1 : wr.cell? ⟨gR, j, none⟩ = some (slv KR[j]) := by rw [hBRj.cell, List.getElem?_map, List.getElem?_eq_getElem hjr]; rfl
                  have htk : (KL.zip KR).take (j + 1) = (KL.zip KR).take j ++ [(KL[j], KR[j])] := by
                    rw [List.take_succ_eq_append_getElem (by rw [List.length_zip]; omega), List.getElem_zip]
                  have hpc : pcs (Pn ++ (l, r) :: (Pd2 ++ (KL.zip KR).take (j + 1))) = pcs (Pn ++ (l, r) :: (Pd2 ++ (KL.zip KR).take j)) ++ [slv KL[j], slv KR[j]] := by
                    rw [htk, ← List.append_assoc Pd2, ← List.cons_append, ← List.append_assoc Pn, pcs_append]; rfl
                  have hpl2 : (Pn ++ (l, r) :: (Pd2 ++ (KL.zip KR).take (j + 1))).length = (Pn ++ (l, r) :: (Pd2 ++ (KL.zip KR).take j)).length + 1 := by
                    rw [htk]; simp; omega
                  replace hpc := hid hpc
                  replace hpl2 := hid hpl2
                  clear htk
                  generalize KL[j] = x at *
                  generalize KR[j] = y at *
                  have hbase := hS9.old.size
                  have hNn : (Pn ++ (l, r) :: (Pd2 ++ (KL.zip KR).take j)).length < 1000000000 := by
                    have h1 : ((KL.zip KR).take j).length ≤ KL.length := by rw [List.length_take, List.length_zip]; omega
                    simp only [List.length_append, List.length_cons] at hNq ⊢; omega
                  have hneL := hid (blk_row_ne hS9.pairs hBLj (by decide))
                  have hneR := hid (blk_row_ne hS9.pairs hBRj (by decide))
                  have hone : ∀ u ∈ ([slv x, slv y] : List Value), u.oneCell' = true := by simp [Value.oneCell']
                  replace hone := hid hone
                  replace hS9 := hid hS9
                  replace hBLj := hid hBLj
                  replace hBRj := hid hBRj
                  go_wp2_with (at_builtin; refine append_node Tryz.underlying129 infoA rfl (by decide) (by decide) hS9.out.pairs hbase [slv x, slv y] rfl hone.out hNn rfl _ _ rfl rfl wr.heap.size rfl rfl ?_; intro v9 w9 hr9 hg9; rw [← hpc.out, ← hpl2.out] at hr9; have hSa := hid (hS9.out.pair_ hr9 hg9); have hBLa := hid (show Blk w9 gL RowT (KL.map slv) from (hg9.block gL hBLj.out.lt fun e => hneL.out e.symm).trans hBLj.out); have hBRa := hid (show Blk w9 gR RowT (KR.map slv) from (hg9.block gR hBRj.out.lt fun e => hneR.out e.symm).trans hBRj.out); clear hr9 hg9)
                  exact ⟨⟨j + 1, by go_num, by omega, hSa.out, hBLa.out, hBRa.out⟩, by simp [Go.RowKit.intOf]; omega⟩
end Go.Proofs.YtjglllpemhkkdaaGreatDoor.Gx

/- The program's comparison of expressions, by what the walks of trees promise. -/
set_option maxRecDepth 100000
namespace Go.Proofs.YtjglllpemhkkdaaGreatDoor.Tr
open Go.RowKit Go.Lib Go.Sort Com Mem YtjglllpemhkkdaaGreatDoor.Os Pl Kd Gx

theorem own_pln {ty : TypeId} {w : World} {lo hi : Nat} {v : Value} {t : T} (h : OwnE ty w lo hi v t) : Ex (pln w) w.heap.size v t := by
  induction h with
  | mk A c vs ls hs hsl hkl hA hin hdis hk ih =>
    refine .mk A c vs hsl hkl (fun j hj => ?_) ih
    obtain ⟨g, cs, e, h1, h2, hb, hr, hd⟩ := hA (by omega)
    exact ⟨_, e, hb.lt, ld4_pln (rows_ld hb hr hj) (by rw [add_block]; exact Blk.pl hb)⟩
theorem ex_go {w W : World} {v : Value} {t : T} (h : Ex (pln w) w.heap.size v t) (hb : Below w.heap.size w W) : Ex (pln W) W.heap.size v t := (h.blw (pln_below hb)).more hb.size
theorem la_one {W : World} {g : Nat} {k n : Int} {s : List UInt8} {A : Option Addr} {l c : Nat} {t : T} (hB : Blk W g 29 [.int .i64 k, .int .i64 n, sv s, .slice A l c]) (h : Ex (pln W) W.heap.size (nv k n s A l c) t) : LA (pln W) W.heap.size ⟨some ⟨g, 0, none⟩, 1, [t]⟩ := by
  refine ⟨fun _ => [.int .i64 k, .int .i64 n, sv s, .slice A l c], fun j hj => ?_, fun j u hu => ?_, by simp⟩
  · have hj0 : j = 0 := by have : j < 1 := hj; omega
    subst hj0
    refine ⟨_, rfl, hB.lt, ?_⟩
    refine ld4_pln ?_ (by rw [add_block]; exact Blk.pl hB)
    exact ⟨_, _, _, _, rfl, hB.cell 0, hB.cell 1, hB.cell 2, hB.cell 3⟩
  · have hj : j = 0 := by
      rcases Nat.lt_or_ge j 1 with h1 | h1
      · omega
      · rw [List.getElem?_eq_none (by simpa using h1)] at hu; cases hu
    subst hj
    cases hu
    exact h
abbrev eqW (w : World) (k n : Int) (s : List UInt8) (A : Option Addr) (l c : Nat) (k' n' : Int) (s' : List UInt8) (A' : Option Addr) (l' c' : Nat) : World :=
  ((((w.alloc (.cells #[.int .i64 k, .int .i64 n, sv s, .slice A l c] 29)).alloc (.cells #[.int .i64 k', .int .i64 n', sv s', .slice A' l' c'] 29)).alloc (.cells #[.int .i64 k, .int .i64 n, sv s, .slice A l c] 29)).alloc (.cells #[.int .i64 k', .int .i64 n', sv s', .slice A' l' c'] 29))
theorem four_box (w : World) (k n : Int) (s : List UInt8) (A : Option Addr) (l c : Nat) (k' n' : Int) (s' : List UInt8) (A' : Option Addr) (l' c' : Nat) (t t' : T) (h : Ex (pln w) w.heap.size (nv k n s A l c) t) (h' : Ex (pln w) w.heap.size (nv k' n' s' A' l' c') t') :
    Below w.heap.size w (eqW w k n s A l c k' n' s' A' l' c') ∧ LA (pln (eqW w k n s A l c k' n' s' A' l' c')) (eqW w k n s A l c k' n' s' A' l' c').heap.size ⟨some ⟨w.heap.size + 1 + 1, 0, none⟩, 1, [t]⟩ ∧ LA (pln (eqW w k n s A l c k' n' s' A' l' c')) (eqW w k n s A l c k' n' s' A' l' c').heap.size ⟨some ⟨w.heap.size + 1 + 1 + 1, 0, none⟩, 1, [t']⟩ := by
  have s1 := size_alloc' w (.cells #[.int .i64 k, .int .i64 n, sv s, .slice A l c] 29)
  have s2 := size_alloc' (w.alloc (.cells #[.int .i64 k, .int .i64 n, sv s, .slice A l c] 29)) (.cells #[.int .i64 k', .int .i64 n', sv s', .slice A' l' c'] 29)
  have s3 := size_alloc' ((w.alloc (.cells #[.int .i64 k, .int .i64 n, sv s, .slice A l c] 29)).alloc (.cells #[.int .i64 k', .int .i64 n', sv s', .slice A' l' c'] 29)) (.cells #[.int .i64 k, .int .i64 n, sv s, .slice A l c] 29)
  have hb : Below w.heap.size w (eqW w k n s A l c k' n' s' A' l' c') := ((((Below.refl _ _).alloc (Nat.le_refl _) _).alloc (by omega) _).alloc (by omega) _).alloc (by omega) _
  have B3 := (Blk.new ((w.alloc (.cells #[.int .i64 k, .int .i64 n, sv s, .slice A l c] 29)).alloc (.cells #[.int .i64 k', .int .i64 n', sv s', .slice A' l' c'] 29)) 29 [.int .i64 k, .int .i64 n, sv s, .slice A l c]).alloc (.cells #[.int .i64 k', .int .i64 n', sv s', .slice A' l' c'] 29)
  have B4 := Blk.new (((w.alloc (.cells #[.int .i64 k, .int .i64 n, sv s, .slice A l c] 29)).alloc (.cells #[.int .i64 k', .int .i64 n', sv s', .slice A' l' c'] 29)).alloc (.cells #[.int .i64 k, .int .i64 n, sv s, .slice A l c] 29)) 29 [.int .i64 k', .int .i64 n', sv s', .slice A' l' c']
  rw [s2, s1] at B3
  rw [s3, s2, s1] at B4
  exact ⟨hb, la_one B3 (ex_go h hb), la_one B4 (ex_go h' hb)⟩
theorem cntL_oneX (t : T) : kqX.toKd.cntL [t] = cntT t := by simp [Kd.cntL]; rfl
theorem eqLs_one (t t' : T) : eqLs kqX.eq [t] [t'] = eqT t t' := by
  show (eqT t t' && true) = eqT t t'
  rw [Bool.and_true]
theorem ex_form {w : World} {B : Nat} {v : Value} {t : T} (h : Ex w B v t) : ∃ k n s A l c, v = nv k n s A l c := by
  obtain ⟨k, n, s, ks⟩ := t
  obtain ⟨A, c, vs, e, _⟩ := Ex.kids h
  exact ⟨_, _, _, _, _, _, e⟩
set_option maxHeartbeats 2000000 in
theorem iequalE (t t' : T) (v v' : Value) (w : World) (h : Ex (pln w) w.heap.size v t) (h' : Ex (pln w) w.heap.size v' t') (hbd : cntT t ≤ 4000000) :
    Calls Tryz.prog 15 #[v, v'] w fun e w' => e = .returned (.bool (eqT t t')) ∧ Below w.heap.size w w' := by
  obtain ⟨k, n, s, A, l, c, rfl⟩ := ex_form h
  obtain ⟨k', n', s', A', l', c', rfl⟩ := ex_form h'
  obtain ⟨hb, hla, hlb⟩ := four_box w k n s A l c k' n' s' A' l' c' t t' h h'
  have hcl := iequalT _ _ _ hla hlb (fun u hu => trivial) (by rw [cntL_oneX]; exact hbd)
  rw [eqLs_one] at hcl
  replace hcl : Calls Tryz.prog 48 #[.slice (some ⟨w.heap.size + 1 + 1, 0, none⟩) 1 1, .slice (some ⟨w.heap.size + 1 + 1 + 1, 0, none⟩) 1 1, belowF, rootF] _ _ := hcl
  replace hcl := hid hcl
  replace hb := hid hb
  have s1 := size_alloc' w (.cells #[.int .i64 k, .int .i64 n, sv s, .slice A l c] 29)
  have s2 := size_alloc' (w.alloc (.cells #[.int .i64 k, .int .i64 n, sv s, .slice A l c] 29)) (.cells #[.int .i64 k', .int .i64 n', sv s', .slice A' l' c'] 29)
  have B1 := (Blk.new w 29 [.int .i64 k, .int .i64 n, sv s, .slice A l c]).alloc (.cells #[.int .i64 k', .int .i64 n', sv s', .slice A' l' c'] 29)
  have B2 := (Blk.new (w.alloc (.cells #[.int .i64 k, .int .i64 n, sv s, .slice A l c] 29)) 29 [.int .i64 k', .int .i64 n', sv s', .slice A' l' c']).alloc (.cells #[.int .i64 k, .int .i64 n, sv s, .slice A l c] 29)
  rw [s1] at B2
  have p0 := B1.cell 0
  have p1 := B1.cell 1
  have p2 := B1.cell 2
  have p3 := B1.cell 3
  have r0 := B2.cell 0
  have r1 := B2.cell 1
  have r2 := B2.cell 2
  have r3 := B2.cell 3
  clear hla hlb h h' hbd B1 B2 s1 s2
  go_enter Tryz.func15, Tryz.ntmps15
  go_wp2_with fail
  refine hcl.out.mono ?_
  rintro e w2 ⟨rfl, hb2⟩
  have hb2 := hid (hb.out.trans (hb2.mono hb.out.size))
  go_wp2_with fail
  go_ret
  exact ⟨rfl, hb2.out⟩
theorem iequal (ta tb : T) (va vb : Value) (lo hi lo' hi' : Nat) (w : World) (ha : OwnX lo hi w va ta) (hb : OwnX lo' hi' w vb tb) (hbd : cntT ta ≤ 2000000) :
    Calls Tryz.prog 15 #[va, vb] w fun e w' => e = .returned (.bool (eqT ta tb)) ∧ Below w.heap.size w w' := iequalE ta tb va vb w (own_pln ha) (own_pln hb) (by omega)
end Go.Proofs.YtjglllpemhkkdaaGreatDoor.Tr
