/- Chapter 4: the program's list of an expression's variables. -/
import Derived.Test.YtlkfejcnkckgkaaPn
import Derived.Test.YtlkfejcnkckgkaaTr6
import Derived.Test.YtlkfejcnkckgkaaC2s
import Derived.Maps.OwnOps
set_option maxRecDepth 100000
namespace Go.Proofs.Ytlkfejcnkckgkaa.Tr
open Go.RowKit Go.Lib Go.Sort Go.Proofs.Ytlkfejcnkckgkaa.Com Go.Proofs.Ytlkfejcnkckgkaa.Mem Go.Proofs.Ytlkfejcnkckgkaa.Os Go.Proofs.Ytlkfejcnkckgkaa.Im Go.Proofs.Ytlkfejcnkckgkaa.Ow Go.Proofs.Ytlkfejcnkckgkaa.Nm Go.Proofs.Ytlkfejcnkckgkaa.C2

def cntQ (Q : List PN) : Nat := (Q.map fun p => cntT p.t).sum
theorem cntQ_cons (p : PN) (Q : List PN) : cntQ (p :: Q) = cntT p.t + cntQ Q := by simp [cntQ]
theorem cntQ_append (P Q : List PN) : cntQ (P ++ Q) = cntQ P + cntQ Q := by simp [cntQ]
theorem cntQ_kids {Ks : List PN} {ks : List T} (h : Ks.map PN.t = ks) : cntQ Ks = cntK ks := by
  subst h; unfold cntQ cntK; rw [List.map_map]; rfl
theorem cntQ_len (Q : List PN) : Q.length ≤ cntQ Q := by
  induction Q with
  | nil => simp
  | cons p r ih => rw [cntQ_cons]; have := cnt_pos p.t; simp; omega
theorem varsK_mem {Ks : List PN} {ks : List T} (h : Ks.map PN.t = ks) (x : List UInt8) : x ∈ varsK ks ↔ ∃ q ∈ Ks, x ∈ varsT q.t := by
  subst h
  unfold varsK
  rw [List.map_map, List.mem_flatten]
  constructor
  · rintro ⟨l, hl, hx⟩
    obtain ⟨q, hq, rfl⟩ := List.mem_map.1 hl
    exact ⟨q, hq, hx⟩
  · rintro ⟨q, hq, hx⟩
    exact ⟨_, List.mem_map.2 ⟨q, hq, rfl⟩, hx⟩
/-- what is known of the nodes that have been visited, P, and that have not, Q -/
structure GInv (w : World) (t : T) (P Q : List PN) (L : List (List UInt8)) (kvs : List (Value × Value)) : Prop where
  done : ∀ p ∈ P, OwnX p.lo p.hi w p.v p.t
  pend : Pend w Q
  keys : KeysOk w Q kvs
  cnt : P.length + cntQ Q = cntT t
  few : L.length ≤ P.length
  vars : ∀ x, x ∈ varsT t ↔ x ∈ L ∨ ∃ q ∈ Q, x ∈ varsT q.t
def addV (L : List (List UInt8)) (k : Int) (s : List UInt8) : List (List UInt8) := if k = 2 then L ++ [s] else L
theorem GInv.step {w : World} {t : T} {P Q Ks : List PN} {p : PN} {L : List (List UInt8)} {kvs kvs' : List (Value × Value)} {k n : Int} {s : List UInt8} {ks : List T} {A : Option Addr} {c : Nat}
    (h : GInv w t P (p :: Q) L kvs) (ht : p.t = .mk k n s ks) (hm : Ks.map PN.t = ks) (hk : KidsAt w p.lo p.hi A c Ks) (hkv : KeysOk w (Q ++ Ks) kvs') : GInv w t (P ++ [p]) (Q ++ Ks) (addV L k s) kvs' := by
  refine ⟨fun q hq => ?_, pend_kids h.pend hk, hkv, ?_, ?_, fun x => ?_⟩
  · rcases List.mem_append.1 hq with hq | hq
    · exact h.done q hq
    · rw [List.mem_singleton] at hq; subst hq; exact h.pend.own q (by simp)
  · have h1 := h.cnt
    rw [cntQ_cons, ht, cntT_mk] at h1
    rw [cntQ_append, cntQ_kids hm, List.length_append, List.length_singleton]; omega
  · have h1 := h.few
    unfold addV
    split
    · simp; omega
    · simp; omega
  · rw [h.vars x]
    have hp : x ∈ varsT p.t ↔ (k = 2 ∧ x = s) ∨ ∃ q ∈ Ks, x ∈ varsT q.t := by
      rw [ht, varsT_mk, List.mem_append, varsK_mem hm]
      by_cases h2 : k = 2
      · rw [if_pos h2]; simp [h2]
      · rw [if_neg h2]; simp [h2]
    have hA : x ∈ addV L k s ↔ x ∈ L ∨ (k = 2 ∧ x = s) := by
      unfold addV
      by_cases h2 : k = 2
      · rw [if_pos h2]; simp [h2]
      · rw [if_neg h2]; simp [h2]
    have e1 : (∃ q ∈ p :: Q, x ∈ varsT q.t) ↔ x ∈ varsT p.t ∨ ∃ q ∈ Q, x ∈ varsT q.t := by simp
    have e2 : (∃ q ∈ Q ++ Ks, x ∈ varsT q.t) ↔ (∃ q ∈ Q, x ∈ varsT q.t) ∨ ∃ q ∈ Ks, x ∈ varsT q.t := by simp [or_and_right, exists_or]
    rw [hA, e1, e2, hp]
    generalize (∃ q ∈ Q, x ∈ varsT q.t) = a1
    generalize (∃ q ∈ Ks, x ∈ varsT q.t) = a2
    generalize (k = 2 ∧ x = s) = a3
    generalize (x ∈ L) = a4
    constructor
    · rintro (g | (g | g) | g)
      · exact Or.inl (Or.inl g)
      · exact Or.inl (Or.inr g)
      · exact Or.inr (Or.inr g)
      · exact Or.inr (Or.inl g)
    · rintro ((g | g) | (g | g))
      · exact Or.inl g
      · exact Or.inr (Or.inl (Or.inl g))
      · exact Or.inr (Or.inr g)
      · exact Or.inr (Or.inl (Or.inr g))
theorem keys_tail {w : World} {p : PN} {Q : List PN} {kvs : List (Value × Value)} (h : KeysOk w (p :: Q) kvs) : KeysOk w Q kvs := fun q hq => by
  obtain ⟨g, n, cs, e, hB, ha⟩ := h q hq
  exact ⟨g, n, cs, e, hB, fun r hr => ha r (by simp [hr])⟩
theorem GInv.end_ {w : World} {t : T} {P : List PN} {L : List (List UInt8)} {kvs : List (Value × Value)} (h : GInv w t P [] L kvs) : sortU L = sortU (varsT t) :=
  asc_ext (sortU_asc _) (sortU_asc _) fun x => by rw [mem_sortU, mem_sortU, h.vars x]; simp

/-- the two slices that grow, and the map -/
structure VSt (w wr : World) (a b : Value) (mb : Nat) (L : List (List UInt8)) (cs : List Value) (n : Nat) (kvs : List (Value × Value)) : Prop where
  names : Grow 9 w wr a (L.map sv)
  nodes : wr.ownsRow w.heap.size EE 4 b n cs
  map : IMap wr mb kvs
  mbge : w.heap.size ≤ mb
theorem VSt.re {w wr : World} {a b : Value} {mb : Nat} {L : List (List UInt8)} {cs cs' : List Value} {n n' : Nat} {kvs : List (Value × Value)} (h : VSt w wr a b mb L cs n kvs) (e1 : cs = cs') (e2 : n = n') : VSt w wr a b mb L cs' n' kvs := by subst e1 e2; exact h
theorem row_obj {w : World} {base e size n : Nat} {v : Value} {xs : List Value} (h : w.ownsRow base e size v n xs) {g : Nat} (hg : v.ownBlock = some g) : base ≤ g ∧ ∃ cur, w.heap[g]? = some (.cells cur e (0, 0)) := by
  rcases h.2 with ⟨rfl, _⟩ | ⟨g', c, cur, rfl, hb, hh, _⟩
  · cases hg
  · cases hg; exact ⟨hb, cur, hh⟩
section
variable {w wr w' : World} {a b : Value} {mb : Nat} {L : List (List UInt8)} {cs : List Value} {n : Nat} {kvs : List (Value × Value)}
theorem VSt.below_ (h : VSt w wr a b mb L cs n kvs) (hb : Below wr.heap.size wr w') : VSt w w' a b mb L cs n kvs :=
  ⟨h.names.below hb (Nat.le_refl _), h.nodes.kept (row := none) ⟨hb.os, hb.tape, hb.output, hb.size, fun k hk _ => hb.block k hk⟩ (by cases b.ownBlock <;> simp), h.map.below hb h.map.lt, h.mbge⟩
theorem VSt.old (h : VSt w wr a b mb L cs n kvs) : Below w.heap.size w wr := h.names.2
theorem VSt.name_ {a' : Value} {L' : List (List UInt8)} (h : VSt w wr a b mb L cs n kvs) (hg : Grow 9 w w' a' (L'.map sv)) (hgb : wr.grownBy w' a.ownBlock) : VSt w w' a' b mb L' cs n kvs := by
  refine ⟨hg, h.nodes.kept hgb ?_, h.map.gb hgb ?_, h.mbge⟩
  · cases hb : b.ownBlock with
    | none => exact Or.inl rfl
    | some g =>
      refine Or.inr fun e => ?_
      obtain ⟨_, c1, h1⟩ := row_obj h.nodes hb
      obtain ⟨_, c2, h2⟩ := row_obj h.names.1 e.symm
      rw [h1] at h2
      injection h2 with h3; injection h3 with _ h4
      revert h4; decide
  · intro e
    obtain ⟨_, c2, h2⟩ := row_obj h.names.1 e.symm
    have := h.map
    unfold IMap at this
    rw [this] at h2; injection h2 with h3; cases h3
theorem VSt.map_ {kvs' : List (Value × Value)} (h : VSt w wr a b mb L cs n kvs) (hm : IMap w' mb kvs') (hgb : wr.grownBy w' (some mb)) : VSt w w' a b mb L cs n kvs' := by
  have hmb := h.mbge
  refine ⟨h.names.gb hgb (fun e => ?_) h.mbge, h.nodes.kept hgb ?_, hm, h.mbge⟩
  · obtain ⟨_, c2, h2⟩ := row_obj h.names.1 e
    have := h.map
    unfold IMap at this
    rw [this] at h2; injection h2 with h3; cases h3
  · cases hb : b.ownBlock with
    | none => exact Or.inl rfl
    | some g =>
      refine Or.inr fun e => ?_
      obtain ⟨_, c1, h1⟩ := row_obj h.nodes hb
      have := h.map
      unfold IMap at this
      cases e
      rw [this] at h1; injection h1 with h3; cases h3
theorem VSt.node_ {b' : Value} {cs' : List Value} {n' : Nat} (h : VSt w wr a b mb L cs n kvs) (hr : w'.ownsRow w.heap.size EE 4 b' n' cs') (hgb : wr.grownBy w' b.ownBlock) : VSt w w' a b' mb L cs' n' kvs := by
  refine ⟨⟨h.names.1.kept hgb ?_, h.names.2.grown hgb h.names.2.size fun g hg => (row_obj h.nodes hg).1⟩, hr, h.map.gb hgb fun e => ?_, h.mbge⟩
  · cases hb : a.ownBlock with
    | none => exact Or.inl rfl
    | some g =>
      refine Or.inr fun e => ?_
      obtain ⟨_, c1, h1⟩ := row_obj h.names.1 hb
      obtain ⟨_, c2, h2⟩ := row_obj h.nodes e.symm
      rw [h1] at h2
      injection h2 with h3; injection h3 with _ h4
      revert h4; decide
  · obtain ⟨_, c2, h2⟩ := row_obj h.nodes e.symm
    have := h.map
    unfold IMap at this
    rw [this] at h2; injection h2 with h3; cases h3
end
theorem cells_one {w : World} {Q : List PN} (h : ∀ p ∈ Q, OwnX p.lo p.hi w p.v p.t) : ∀ u ∈ cellsOf Q, u.oneCell' = true := by
  intro u hu
  obtain ⟨p, hp, hu⟩ := List.mem_flatMap.1 hu
  obtain ⟨k, n, s, A, l, c, e⟩ := OwnE.form (h p hp)
  rw [e] at hu
  simp [cells4] at hu
  rcases hu with rfl | rfl | rfl | rfl <;> rfl
/-- where the nodes' row lies -/
theorem row_some {w : World} {base e size n : Nat} {v : Value} {xs : List Value} (h : w.ownsRow base e size v n xs) (hn : 0 < n) : ∃ g c, v = .slice (some ⟨g, 0, none⟩) n c ∧ ∀ j u, xs[j]? = some u → w.cell? ⟨g, j, none⟩ = some u := by
  rcases h.2 with ⟨_, h0⟩ | ⟨g, c, cur, rfl, hb, hh, _⟩
  · omega
  · refine ⟨g, c, rfl, fun j u hj => ?_⟩
    have := h.cells (g := g) rfl j u hj
    rw [add_zero] at this; exact this
theorem rel_next {w W : World} {t : T} {P Q Ks : List PN} {p : PN} {N mb : Nat} {a b : Value} {L : List (List UInt8)} {kvs : List (Value × Value)} (hN : N = P.length + (Q.length + 1)) (h1 : VSt w W a b mb L (cellsOf (P ++ p :: Q) ++ cellsOf Ks) (N + Ks.length) kvs) (h2 : GInv w t (P ++ [p]) (Q ++ Ks) L kvs) :
    ∃ (P' Q' : List PN) (L' : List (List UInt8)) (kvs' : List (Value × Value)), Value.int .i64 ((P.length : Int) + 1) = Value.int .i64 (P'.length : Nat) ∧ VSt w W a b mb L' (cellsOf (P' ++ Q')) (P'.length + Q'.length) kvs' ∧ GInv w t P' Q' L' kvs' := by
  refine ⟨P ++ [p], Q ++ Ks, L, kvs, by simp, h1.re ?_ ?_, h2⟩
  · rw [← cellsOf_append]; congr 1; simp
  · subst hN; simp; omega
theorem VSt.cell {w wr : World} {a : Value} {gn N cn mb : Nat} {L : List (List UInt8)} {cs : List Value} {n : Nat} {kvs : List (Value × Value)} (h : VSt w wr a (.slice (some ⟨gn, 0, none⟩) N cn) mb L cs n kvs) {j : Nat} {u : Value} (hj : cs[j]? = some u) :
    wr.cell? ⟨gn, j, none⟩ = some u := by
  have := h.nodes.cells (g := gn) rfl j u hj
  rw [add_zero] at this; exact this
theorem row_cells {w : World} {g : Nat} {cs : List Value} {Ks : List PN} (h : cs.take (Ks.length * 4) = cellsOf Ks) (hB : Blk w g EE cs) : ∀ j u, (cellsOf Ks)[j]? = some u → w.cell? ((⟨g, 0, none⟩ : Addr).add j) = some u := by
  intro j u hj
  rw [add_zero, hB.cell]
  rw [← h, List.getElem?_take] at hj
  split at hj
  · exact hj
  · cases hj
theorem zeroB (w : World) : (zeroValue 4).run Try.prog w = .ok (.bool false) w := by kernel_rfl

set_option maxHeartbeats 8000000 in
theorem ivarsOf (t : T) (v : Value) (lo hi : Nat) (w : World) (hv : OwnX lo hi w v t) (hbd : cntT t ≤ 2000000) :
    Calls Try.prog 20 #[v] w fun e w' => ∃ r, e = .returned r ∧ OwnS w.heap.size w'.heap.size w' r (sortU (varsT t)) ∧ Below w.heap.size w w' := by
  obtain ⟨k0, n0, s0, A0, l0, c0, rfl⟩ := OwnE.form hv
  have hG0 : GInv w t [] [⟨nv k0 n0 s0 A0 l0 c0, t, lo, hi⟩] [] [] := by
    refine GInv.mk (fun p hp => ?_) (Pend.mk (fun p hp => ?_) ?_) (fun p hp => ?_) ?_ ?_ (fun x => ?_)
    · cases hp
    · rw [List.mem_singleton] at hp; subst hp; exact hv
    · simp
    · cases hp
    · simp [cntQ]
    · simp
    · simp
  replace hG0 := hid hG0
  replace hbd := hid hbd
  obtain ⟨i0, hi0, hz0, hz1, hz2⟩ := info_parts zeroE
  have hZ := hid (And.intro hi0 (And.intro hz0 (And.intro hz1 hz2)))
  clear hv hi0 hz0 hz1 hz2
  have qm := fun w => run_makeMap (P := Try.prog) 73 w
  go_enter Try.func20, Try.ntmps20
  go_wp2_with fail
  have hS0 : VSt w ((((w.alloc (.cells #[.int .i64 k0, .int .i64 n0, sv s0, .slice A0 l0 c0] EE)).alloc (.map #[] 0)).alloc (.cells #[.int .i64 k0, .int .i64 n0, sv s0, .slice A0 l0 c0] EE))) (.slice none 0 0) (.slice (some ⟨w.heap.size + 1 + 1, 0, none⟩) 1 1) (w.heap.size + 1) [] [.int .i64 k0, .int .i64 n0, sv s0, .slice A0 l0 c0] 1 [] := by
    have b1 := box_below w (.cells #[.int .i64 k0, .int .i64 n0, sv s0, .slice A0 l0 c0] EE)
    have s1 := size_alloc' w (.cells #[.int .i64 k0, .int .i64 n0, sv s0, .slice A0 l0 c0] EE)
    have m1 := IMap.new (w.alloc (.cells #[.int .i64 k0, .int .i64 n0, sv s0, .slice A0 l0 c0] EE))
    have b2 := box_below (w.alloc (.cells #[.int .i64 k0, .int .i64 n0, sv s0, .slice A0 l0 c0] EE)) (.map #[] 0)
    have s2 := size_alloc' (w.alloc (.cells #[.int .i64 k0, .int .i64 n0, sv s0, .slice A0 l0 c0] EE)) (.map #[] 0)
    have b3 := box_below ((w.alloc (.cells #[.int .i64 k0, .int .i64 n0, sv s0, .slice A0 l0 c0] EE)).alloc (.map #[] 0)) (.cells #[.int .i64 k0, .int .i64 n0, sv s0, .slice A0 l0 c0] EE)
    have hb := (b1.trans (b2.mono (by omega))).trans (b3.mono (by omega))
    rw [s1] at m1
    refine ⟨Grow.nil_ w _ hb, ⟨rfl, Or.inr ⟨w.heap.size + 1 + 1, 1, #[.int .i64 k0, .int .i64 n0, sv s0, .slice A0 l0 c0], rfl, by omega, ?_, by omega, by unfold maxLen; omega, rfl, rfl⟩⟩, m1.alloc _, by omega⟩
    have := heap_alloc_new ((w.alloc (.cells #[.int .i64 k0, .int .i64 n0, sv s0, .slice A0 l0 c0] EE)).alloc (.map #[] 0)) (.cells #[.int .i64 k0, .int .i64 n0, sv s0, .slice A0 l0 c0] EE)
    rw [s2, s1] at this
    exact this
  replace hS0 := hid hS0
  generalize (((w.alloc (.cells #[.int .i64 k0, .int .i64 n0, sv s0, .slice A0 l0 c0] EE)).alloc (.map #[] 0)).alloc (.cells #[.int .i64 k0, .int .i64 n0, sv s0, .slice A0 l0 c0] EE)) = W0 at *
  generalize w.heap.size + 1 = mb at *
  go_loopw [3, 5, 6] (fun a b i wr => ∃ (P Q : List PN) (L : List (List UInt8)) (kvs : List (Value × Value)), i = .int .i64 (P.length : Nat) ∧ VSt w wr a b mb L (cellsOf (P ++ Q)) (P.length + Q.length) kvs ∧ GInv w t P Q L kvs) (fun _ _ i _ => cntT t - (Go.RowKit.intOf i).toNat)
  case atStart => exact ⟨[], [⟨nv k0 n0 s0 A0 l0 c0, t, lo, hi⟩], [], [], rfl, hS0.out, hG0.out⟩
  case round =>
    obtain ⟨P, Q, L, kvs, rfl, hS, hG⟩ := hrel
    have hbd1 := hbd.out
    have hcnt := hG.cnt
    have hfew := hG.few
    by_cases hQ : Q = []
    · subst hQ
      have hf := hid hG.end_
      have hpos := cnt_pos t
      simp only [cntQ, List.map_nil, List.sum_nil, Nat.add_zero] at hcnt
      have hold := hid hS.old
      obtain ⟨gn, cn, rfl, _⟩ := row_some hS.nodes (by simp; omega)
      have ho : OwnS w.heap.size wr.heap.size wr u3 L := Own.of_grow hS.names
      obtain ⟨A1, c1, rfl, hr1, hc1, hm1, h1, _⟩ := ho.read_
      have hso := hid (sort_any A1 c1 L wr hr1 h1 (by omega))
      have t0 : decide ((P.length : Int) < (P.length : Int)) = false := decide_eq_false (by omega)
      clear hS hG hcnt hfew hbd1 hr1 hc1 hm1 h1 hpos qm
      simp only [List.length_nil, Nat.add_zero]
      go_wp2_with fail
      refine hso.out.mono ?_
      rintro e w3 ⟨r, rfl, hg3⟩
      replace hg3 := hid hg3
      go_wp2_with fail
      go_ret
      exact ⟨_, rfl, by rw [← hf.out]; exact (Own.of_grow hg3.out).mono hold.out.size (Nat.le_refl _), hold.out.trans (hg3.out.2.mono hold.out.size)⟩
    · obtain ⟨p, Q', rfl⟩ := List.exists_cons_of_ne_nil hQ
      obtain ⟨k, n, s, ks, ht⟩ : ∃ k n s ks, p.t = .mk k n s ks := by cases h : p.t; exact ⟨_, _, _, _, rfl⟩
      have hp := hG.pend.own p (by simp)
      rw [ht] at hp
      obtain ⟨A, c, Ks, hv, hs, hm, hK⟩ := own_open hp
      have hl : Ks.length = ks.length := by rw [← hm, List.length_map]
      have hcl := cntQ_len Ks
      rw [cntQ_kids hm] at hcl
      have hcl2 := cntQ_len Q'
      rw [cntQ_cons, ht, cntT_mk] at hcnt
      obtain ⟨gn, cn, hu5, _⟩ := row_some hS.nodes (by simp only [List.length_cons]; omega)
      subst hu5
      obtain ⟨c0, _, c2, c3⟩ := cellsOf_at (P := P) (Q := Q') (cellsOf_len hG.done) hv
      obtain ⟨N, hN⟩ : ∃ N, P.length + (p :: Q').length = N := ⟨_, rfl⟩
      rw [hN] at hS ⊢
      have hlen : N = P.length + (Q'.length + 1) := by rw [← hN]; rfl
      clear hN
      have hmeas : P.length < cntT t := by omega
      have l3 := hid c3
      replace c0 := hS.cell c0
      replace c2 := hS.cell c2
      replace c3 := hS.cell c3
      replace hS := hid hS
      replace hG := hid hG
      have t0 : decide ((P.length : Int) < (N : Int)) = true := decide_eq_true (by omega)
      have t1 : (P.length : Int) < (N : Int) := by omega
      have hNb : N ≤ 2000000 := by omega
      replace hlen := hid hlen
      have hend := hid (fun (kvs' : List (Value × Value)) (W : World) (a b : Value) (L' : List (List UInt8)) (h1 : VSt w W a b mb L' (cellsOf (P ++ p :: Q') ++ cellsOf Ks) (N + Ks.length) kvs') (h2 : GInv w t (P ++ [p]) (Q' ++ Ks) L' kvs') => rel_next hlen.out h1 h2)
      by_cases h0 : ks.length = 0
      · have hKn : Ks = [] := List.eq_nil_of_length_eq_zero (by omega)
        subst hKn
        have hG' := hid (hG.out.step ht hm hK (by rw [List.append_nil]; exact keys_tail hG.out.keys))
        rw [h0] at c3 l3
        by_cases h2 : k = 2
        · subst h2
          have hG' := hid (show GInv w t (P ++ [p]) (Q' ++ []) (L ++ [s]) kvs from hG'.out)
          clear hK hm hp hcnt hcl hcl2 hl qm hlen
          go_wp2_with (at_builtin; refine hS.out.names.append strT (sv s) rfl (by simp; omega) rfl _ _ rfl rfl rfl ?_; intro v1 w1 hg2 hgb _; have hS1 := hid (hS.out.name_ (L' := L ++ [s]) (by simpa using hg2) hgb); have d3 := hS1.out.cell l3.out; clear hg2 hgb)
          exact ⟨hend.out _ _ _ _ _ (hS1.out.re (by simp [cellsOf]) (by simp)) hG'.out, by simp [Go.RowKit.intOf]; omega⟩
        · have e2 : (k == 2) = false := beq_false_of_ne h2
          have hG' := hid (show GInv w t (P ++ [p]) (Q' ++ []) L kvs by have := hG'.out; unfold addV at this; rwa [if_neg h2] at this)
          clear hK hm hp hcnt hcl hcl2 hl qm hlen h2
          go_wp2_with fail
          exact ⟨hend.out _ _ _ _ _ (hS.out.re (by simp [cellsOf]) (by simp)) hG'.out, by simp [Go.RowKit.intOf]; omega⟩
      · have hKn : Ks ≠ [] := fun e => h0 (by rw [← hl, e]; rfl)
        obtain ⟨g, cs, rfl, hlo, hhi, hB, htk, hap⟩ := hK.row hKn
        have hpos : 0 < ks.length := by omega
        have tl : decide ((0 : Int) < (ks.length : Int)) = true := decide_eq_true (by omega)
        have hkeys := keys_kids (u := .bool true) (n := ks.length) hG.out.pend hG.out.keys hK hB hlo hhi hap
        have hG' := hid (hG.out.step ht hm hK hkeys)
        have hnew := hid (fun (W : World) (hW : Below w.heap.size w W) => new_kids (n := ks.length) (keys_go hG.out.keys hW) (hB.below hW hB.lt) hlo hhi)
        have hpl := hid (fun W => placeOf_any g ks.length c hpos W)
        have hrow := hid (fun (W : World) (hW : Below w.heap.size w W) => row_cells htk (hB.below hW hB.lt))
        have hone := hid (cells_one hK.pend.own)
        have hcl4 := hid (show (cellsOf Ks).length = ks.length * 4 by rw [cellsOf_len hK.pend.own, hl])
        have hlb : N + ks.length ≤ 4000000 := by omega
        replace hl := hid hl
        clear hkeys hB htk hap hlo hhi hK hm hp hcnt hcl hcl2 qm hlen hKn h0
        by_cases h2 : k = 2
        · subst h2
          replace hG' := hid (show GInv w t (P ++ [p]) (Q' ++ Ks) (L ++ [s]) (kvs ++ [(pkey g ks.length, .bool true)]) from hG'.out)
          go_wp2_with (at_builtin; refine hS.out.names.append strT (sv s) rfl (by simp; omega) rfl _ _ rfl rfl rfl ?_; intro v1 w1 hg2 hgb _; have hS1 := hid (hS.out.name_ (L' := L ++ [s]) (by simpa using hg2) hgb); have d3 := hS1.out.cell l3.out; clear hg2 hgb)
          refine (hpl.out _).mono ?_
          rintro e w2 ⟨rfl, hb2⟩
          have hS2 := hid (hS1.out.below_ hb2)
          have hn2 := hid (hnew.out w2 hS2.out.old)
          clear hb2
          go_wp2_with (at_lookup; refine wpList_look (by rfl) _ _ false rfl Try.underlying73 wideP mb kvs hS2.out.map (pkey g ks.length) hn2.out (.bool false) (zeroB _) rfl rfl ?_)
          refine (hpl.out _).mono ?_
          rintro e w3 ⟨rfl, hb3⟩
          have hS3 := hid (hS2.out.below_ hb3)
          have hn3 := hid (hnew.out w3 hS3.out.old)
          clear hb3
          go_wp2_with (first
            | (at_mapUpdate; refine wpList_upd rfl _ _ _ (Or.inr rfl) Try.underlying73 wideP mb kvs hS3.out.map (pkey g ks.length) (.bool true) hn3.out rfl rfl rfl ?_; intro w4 hm4 hg4 hsz4; have hS4 := hid (hS3.out.map_ hm4 hg4); clear hm4 hg4 hsz4)
            | (at_builtin; refine wpList_append_own (P := Try.prog) _ rfl _ _ 24 rfl w.heap.size EE i0 (nv 0 0 [] none 0 0) 4 56 Try.underlying24 hZ.out.1 hZ.out.2.1 hZ.out.2.2.1 hZ.out.2.2.2 rfl (by decide) _ N _ rfl hS4.out.nodes ⟨g, 0, none⟩ ks.length c (cellsOf Ks) rfl hcl4.out (hrow.out _ hS4.out.old) hone.out (by unfold maxLen; omega) (by omega) hS4.out.old.size ?_; intro v5 w5 hown5 hg5 _; have hS5 := hid (hS4.out.node_ hown5 hg5); clear hown5 hg5))
          exact ⟨hend.out _ _ _ _ _ (hS5.out.re rfl (by rw [hl.out])) hG'.out, by simp [Go.RowKit.intOf]; omega⟩
        · have e2 : (k == 2) = false := beq_false_of_ne h2
          replace hG' := hid (show GInv w t (P ++ [p]) (Q' ++ Ks) L (kvs ++ [(pkey g ks.length, .bool true)]) by have := hG'.out; unfold addV at this; rwa [if_neg h2] at this)
          have hS1 := hS
          clear h2
          go_wp2_with fail
          refine (hpl.out _).mono ?_
          rintro e w2 ⟨rfl, hb2⟩
          have hS2 := hid (hS1.out.below_ hb2)
          have hn2 := hid (hnew.out w2 hS2.out.old)
          clear hb2
          go_wp2_with (at_lookup; refine wpList_look (by rfl) _ _ false rfl Try.underlying73 wideP mb kvs hS2.out.map (pkey g ks.length) hn2.out (.bool false) (zeroB _) rfl rfl ?_)
          refine (hpl.out _).mono ?_
          rintro e w3 ⟨rfl, hb3⟩
          have hS3 := hid (hS2.out.below_ hb3)
          have hn3 := hid (hnew.out w3 hS3.out.old)
          clear hb3
          go_wp2_with (first
            | (at_mapUpdate; refine wpList_upd rfl _ _ _ (Or.inr rfl) Try.underlying73 wideP mb kvs hS3.out.map (pkey g ks.length) (.bool true) hn3.out rfl rfl rfl ?_; intro w4 hm4 hg4 hsz4; have hS4 := hid (hS3.out.map_ hm4 hg4); clear hm4 hg4 hsz4)
            | (at_builtin; refine wpList_append_own (P := Try.prog) _ rfl _ _ 24 rfl w.heap.size EE i0 (nv 0 0 [] none 0 0) 4 56 Try.underlying24 hZ.out.1 hZ.out.2.1 hZ.out.2.2.1 hZ.out.2.2.2 rfl (by decide) _ N _ rfl hS4.out.nodes ⟨g, 0, none⟩ ks.length c (cellsOf Ks) rfl hcl4.out (hrow.out _ hS4.out.old) hone.out (by unfold maxLen; omega) (by omega) hS4.out.old.size ?_; intro v5 w5 hown5 hg5 _; have hS5 := hid (hS4.out.node_ hown5 hg5); clear hown5 hg5))
          exact ⟨hend.out _ _ _ _ _ (hS5.out.re rfl (by rw [hl.out])) hG'.out, by simp [Go.RowKit.intOf]; omega⟩
theorem ivars_own {lo hi : Nat} {v : Value} {t : T} (w : World) (h : OwnX lo hi w v t) (hz : szT t ≤ 1048576) : Calls Try.prog 20 #[v] w fun e w' => ∃ r, e = .returned r ∧ OwnS w.heap.size w'.heap.size w' r (sortU (varsT t)) ∧ Below w.heap.size w w' :=
  ivarsOf t v lo hi w h (by have := cnt_sz t; omega)
end Go.Proofs.Ytlkfejcnkckgkaa.Tr
