/- Chapter 4: two expressions compared by the program: pairs of nodes, and the pairs of places that were seen. -/
import Derived.Test.YtlkfejcnkckgkaaC4v
import Derived.Test.YtlkfejcnkckgkaaTr3
import Derived.StillTailTactics
set_option maxRecDepth 100000
namespace Go.Proofs.Ytlkfejcnkckgkaa.Tr
open Go.RowKit Go.Lib Go.Sort Go.Proofs.Ytlkfejcnkckgkaa.Com Go.Proofs.Ytlkfejcnkckgkaa.Mem Go.Proofs.Ytlkfejcnkckgkaa.Os Go.Proofs.Ytlkfejcnkckgkaa.Im

abbrev PT : TypeId := 63
abbrev PP := PN × PN
def cells8 (Q : List PP) : List Value := Q.flatMap fun p => cells4 p.1.v ++ cells4 p.2.v
theorem cells8_append (P Q : List PP) : cells8 (P ++ Q) = cells8 P ++ cells8 Q := by simp [cells8]
abbrev pkey2 (g n g' n' : Nat) : Value := .agg #[.pointer (some ⟨g, 0, none⟩), .int .i64 n, .pointer (some ⟨g', 0, none⟩), .int .i64 n']
def KeysE (w : World) (Q : List PN) (kvs : List (Value × Value)) : Prop := ∀ p ∈ kvs, ∃ g n g' n' cs, p.1 = pkey2 g n g' n' ∧ Blk w g EE cs ∧ ∀ q ∈ Q, g < q.lo ∨ q.hi ≤ g
structure EInv (w : World) (ta tb : T) (P Q : List PP) (kvs : List (Value × Value)) : Prop where
  done1 : ∀ p ∈ P, OwnX p.1.lo p.1.hi w p.1.v p.1.t
  done2 : ∀ p ∈ P, OwnX p.2.lo p.2.hi w p.2.v p.2.t
  pend : Pend w (Q.map Prod.fst)
  rght : ∀ p ∈ Q, OwnX p.2.lo p.2.hi w p.2.v p.2.t
  keys : KeysE w (Q.map Prod.fst) kvs
  cnt : P.length + cntQ (Q.map Prod.fst) = cntT ta
  eq : eqT ta tb = Q.all fun p => eqT p.1.t p.2.t
theorem cells8_len {w : World} {Q : List PP} (h1 : ∀ p ∈ Q, OwnX p.1.lo p.1.hi w p.1.v p.1.t) (h2 : ∀ p ∈ Q, OwnX p.2.lo p.2.hi w p.2.v p.2.t) : (cells8 Q).length = Q.length * 8 := by
  induction Q with
  | nil => rfl
  | cons p r ih =>
    have e : cells8 (p :: r) = (cells4 p.1.v ++ cells4 p.2.v) ++ cells8 r := rfl
    rw [e, List.length_append, List.length_append, own_cells (h1 p (by simp)), own_cells (h2 p (by simp)), ih (fun q hq => h1 q (by simp [hq])) fun q hq => h2 q (by simp [hq]), List.length_cons]; omega
theorem cells8_at {P Q : List PP} {p : PP} {k n k' n' : Int} {s s' : List UInt8} {A A' : Option Addr} {l c l' c' : Nat} (hP : (cells8 P).length = P.length * 8) (e : p.1.v = nv k n s A l c) (e' : p.2.v = nv k' n' s' A' l' c') (j : Nat) :
    (cells8 (P ++ p :: Q))[P.length * 8 + j]? = ([.int .i64 k, .int .i64 n, sv s, .slice A l c, .int .i64 k', .int .i64 n', sv s', .slice A' l' c'] ++ cells8 Q)[j]? := by
  have e1 : cells8 (P ++ p :: Q) = cells8 P ++ ([.int .i64 k, .int .i64 n, sv s, .slice A l c, .int .i64 k', .int .i64 n', sv s', .slice A' l' c'] ++ cells8 Q) := by
    rw [cells8_append]
    show cells8 P ++ ((cells4 p.1.v ++ cells4 p.2.v) ++ cells8 Q) = _
    rw [e, e']; rfl
  rw [e1, List.getElem?_append_right (by omega), hP, Nat.add_sub_cancel_left]
theorem eqL_zip : ∀ {Ks Ks' : List PN}, Ks.length = Ks'.length → eqL (Ks.map PN.t) (Ks'.map PN.t) = (Ks.zip Ks').all fun p => eqT p.1.t p.2.t
  | [], [], _ => by rw [List.map_nil, eqL]; rfl
  | a :: r, b :: q, h => by
    rw [List.map_cons, List.map_cons, eqL, eqL_zip (by simpa using h)]; rfl
  | [], _ :: _, h => by simp at h
  | _ :: _, [], h => by simp at h
theorem EInv.step {w : World} {ta tb : T} {P Q : List PP} {p q : PN} {kvs kvs' : List (Value × Value)} {k n : Int} {s : List UInt8} {ks ks' : List T} {A A' : Option Addr} {c c' : Nat} {Ks Ks' : List PN} (h : EInv w ta tb P ((p, q) :: Q) kvs)
    (hp : p.t = .mk k n s ks) (hq : q.t = .mk k n s ks') (hm : Ks.map PN.t = ks) (hm' : Ks'.map PN.t = ks') (hK : KidsAt w p.lo p.hi A c Ks) (hK' : KidsAt w q.lo q.hi A' c' Ks') (hl : Ks.length = Ks'.length) (hkv : KeysE w (Q.map Prod.fst ++ Ks) kvs') :
    EInv w ta tb (P ++ [(p, q)]) (Q ++ Ks.zip Ks') kvs' := by
  have hz : (Ks.zip Ks').map Prod.fst = Ks := List.map_fst_zip (by omega)
  have hpd : Pend w (p :: Q.map Prod.fst) := h.pend
  refine ⟨fun r hr => ?_, fun r hr => ?_, ?_, fun r hr => ?_, ?_, ?_, ?_⟩
  · rcases List.mem_append.1 hr with hr | hr
    · exact h.done1 r hr
    · rw [List.mem_singleton] at hr; subst hr; exact hpd.own p (by simp)
  · rcases List.mem_append.1 hr with hr | hr
    · exact h.done2 r hr
    · rw [List.mem_singleton] at hr; subst hr; exact h.rght (p, q) (by simp)
  · rw [List.map_append, hz]; exact pend_kids hpd hK
  · rcases List.mem_append.1 hr with hr | hr
    · exact h.rght r (List.mem_cons_of_mem _ hr)
    · exact hK'.pend.own r.2 (List.of_mem_zip (a := r.1) (b := r.2) hr).2
  · rw [List.map_append, hz]; exact hkv
  · have h1 := h.cnt
    rw [List.map_cons, cntQ_cons] at h1
    have hp' : cntT p.t = 1 + cntK ks := by rw [hp, cntT_mk]
    rw [List.map_append, hz, cntQ_append, cntQ_kids hm, List.length_append, List.length_singleton]
    show P.length + 1 + _ = _
    have h2 : cntT (p, q).1.t = cntT p.t := rfl
    omega
  · rw [h.eq, List.all_append, List.all_cons]
    have : eqT p.t q.t = (Ks.zip Ks').all fun p => eqT p.1.t p.2.t := by
      rw [hp, hq, eqT_mk, ← hm, ← hm', eqL_zip hl]; simp
    rw [this, Bool.and_comm]
theorem EInv.no {w : World} {ta tb : T} {P Q : List PP} {p q : PN} {kvs : List (Value × Value)} (h : EInv w ta tb P ((p, q) :: Q) kvs) (hne : eqT p.t q.t = false) : eqT ta tb = false := by
  rw [h.eq, List.all_cons, hne]; rfl
theorem EInv.yes {w : World} {ta tb : T} {P : List PP} {kvs : List (Value × Value)} (h : EInv w ta tb P [] kvs) : eqT ta tb = true := by
  rw [h.eq]; rfl
theorem keysE_tail {w : World} {p : PN} {Q : List PN} {kvs : List (Value × Value)} (h : KeysE w (p :: Q) kvs) : KeysE w Q kvs := fun q hq => by
  obtain ⟨g, n, g', n', cs, e, hB, ha⟩ := h q hq
  exact ⟨g, n, g', n', cs, e, hB, fun r hr => ha r (by simp [hr])⟩
theorem keysE_kids {w : World} {p : PN} {Q Ks : List PN} {A : Option Addr} {c : Nat} {kvs : List (Value × Value)} {g n g' n' : Nat} {cs : List Value} {u : Value} (hp : Pend w (p :: Q)) (hk : KeysE w (p :: Q) kvs) (hK : KidsAt w p.lo p.hi A c Ks) (hg : Blk w g EE cs) (h1 : p.lo ≤ g) (h2 : g < p.hi)
    (ha : ∀ q ∈ Ks, g < q.lo ∨ q.hi ≤ g) : KeysE w (Q ++ Ks) (kvs ++ [(pkey2 g n g' n', u)]) := by
  intro q hq
  rcases List.mem_append.1 hq with hq | hq
  · obtain ⟨g1, n1, g2, n2, cs', e, hB, hx⟩ := hk q hq
    refine ⟨g1, n1, g2, n2, cs', e, hB, fun r hr => ?_⟩
    rcases List.mem_append.1 hr with hr | hr
    · exact hx r (by simp [hr])
    · have := hx p (by simp)
      have := hK.in_ r hr
      omega
  · rw [List.mem_singleton] at hq; subst hq
    refine ⟨g, n, g', n', cs, rfl, hg, fun r hr => ?_⟩
    rcases List.mem_append.1 hr with hr | hr
    · have := (List.pairwise_cons.1 hp.dis).1 r hr
      omega
    · exact ha r hr
/-- the pairs' row and the map -/
structure ESt (w wr : World) (b : Value) (mb : Nat) (cs : List Value) (n : Nat) (kvs : List (Value × Value)) : Prop where
  old : Below w.heap.size w wr
  nodes : wr.ownsRow w.heap.size PT 8 b n cs
  map : IMap wr mb kvs
  mbge : w.heap.size ≤ mb
section
variable {w wr w' : World} {b : Value} {mb : Nat} {cs : List Value} {n : Nat} {kvs : List (Value × Value)}
theorem ESt.below_ (h : ESt w wr b mb cs n kvs) (hb : Below wr.heap.size wr w') : ESt w w' b mb cs n kvs :=
  ⟨h.old.trans (hb.mono h.old.size), h.nodes.kept (row := none) ⟨hb.os, hb.tape, hb.output, hb.size, fun k hk _ => hb.block k hk⟩ (by cases b.ownBlock <;> simp), h.map.below hb h.map.lt, h.mbge⟩
theorem ESt.map_ {kvs' : List (Value × Value)} (h : ESt w wr b mb cs n kvs) (hm : IMap w' mb kvs') (hgb : wr.grownBy w' (some mb)) : ESt w w' b mb cs n kvs' := by
  have hmb := h.mbge
  refine ⟨h.old.grown hgb h.old.size (fun k hk => by cases hk; exact hmb), h.nodes.kept hgb ?_, hm, h.mbge⟩
  cases hb : b.ownBlock with
  | none => exact Or.inl rfl
  | some g =>
    refine Or.inr fun e => ?_
    obtain ⟨_, c1, h1⟩ := row_obj h.nodes hb
    have := h.map
    unfold IMap at this
    cases e
    rw [this] at h1; injection h1 with h3; cases h3
theorem ESt.node_ {b' : Value} {cs' : List Value} {n' : Nat} (h : ESt w wr b mb cs n kvs) (hr : w'.ownsRow w.heap.size PT 8 b' n' cs') (hgb : wr.grownBy w' b.ownBlock) : ESt w w' b' mb cs' n' kvs := by
  refine ⟨h.old.grown hgb h.old.size fun g hg => (row_obj h.nodes hg).1, hr, h.map.gb hgb fun e => ?_, h.mbge⟩
  obtain ⟨_, c2, h2⟩ := row_obj h.nodes e.symm
  have := h.map
  unfold IMap at this
  rw [this] at h2; injection h2 with h3; cases h3
/-- a row of nodes stays where the pairs' row turns -/
theorem ESt.keep {g : Nat} {cs0 : List Value} (h : ESt w wr b mb cs n kvs) (hgb : wr.grownBy w' b.ownBlock) (hB : Blk wr g EE cs0) : Blk w' g EE cs0 := by
  refine (hgb.block g hB.lt fun e => ?_).trans hB
  obtain ⟨_, c2, h2⟩ := row_obj h.nodes e.symm
  unfold Blk at hB
  rw [hB] at h2
  injection h2 with h3; injection h3 with _ h4
  revert h4; decide
theorem ESt.re {cs' : List Value} {n' : Nat} (h : ESt w wr b mb cs n kvs) (e1 : cs = cs') (e2 : n = n') : ESt w wr b mb cs' n' kvs := by subst e1 e2; exact h
theorem ESt.cell {gn N cn : Nat} (h : ESt w wr (.slice (some ⟨gn, 0, none⟩) N cn) mb cs n kvs) {j : Nat} {u : Value} (hj : cs[j]? = some u) : wr.cell? ⟨gn, j, none⟩ = some u := by
  have := h.nodes.cells (g := gn) rfl j u hj
  rw [add_zero] at this; exact this
end
theorem wideE : WideK Try.prog 69 := ⟨_, Try.underlying69, fun _ _ => rfl⟩
theorem check_place2 (g n g' n' : Nat) (w : World) (em : Bool) : (Instr.checkKey em 10000 69 (pkey2 g n g' n')).run Try.prog w = .ok () w := by kernel_rfl
theorem ne_place2 {g n g' n' x y x' y' : Nat} {w : World} {cs cs' : List Value} (hg : Blk w g EE cs) (hg' : Blk w g' EE cs') (hne : g ≠ g') : (Op.equal 69 (pkey2 g n x y) (pkey2 g' n' x' y')).run Try.prog w = .ok false w := by
  have h1 := ne_placeD 9997 (n := n) (n' := n') hg hg' hne
  obtain ⟨i, hi⟩ := info_of_underlying Try.underlying67
  unfold Op.equal Op.maxDepth
  rw [run_equalIn_array w 9999 _ _ Try.underlying69 hi]
  have hc : Try.prog.cellsOf 67 = 2 := by kernel_rfl
  have hpa : ∀ a b c d : Value, (part 67 #[a, b, c, d] 0).run Try.prog w = .ok (.agg #[a, b]) w := fun a b c d => by kernel_rfl
  rw [hc, show List.range 2 = [0, 1] from rfl]
  unfold Op.eqItems
  simp only [Nat.zero_mul, Sem.run_bind, hpa, Result.andThen_ok, h1]
  simp
theorem new_place2 {g n g' n' : Nat} {w : World} {cs : List Value} {kvs : List (Value × Value)} (hg : Blk w g EE cs) (h : ∀ p ∈ kvs, ∃ g1 n1 g2 n2 cs', p.1 = pkey2 g1 n1 g2 n2 ∧ Blk w g1 EE cs' ∧ g1 ≠ g) : New Try.prog w 69 (pkey2 g n g' n') kvs :=
  ⟨fun w em => check_place2 g n g' n' w em, fun p hp => by
    obtain ⟨g1, n1, g2, n2, cs', e, hB, hne⟩ := h p hp
    rw [e]
    exact ne_place2 hg hB (Ne.symm hne)⟩
theorem new_kids2 {w W : World} {p : PN} {Q : List PN} {kvs : List (Value × Value)} {g n g' n' : Nat} {cs : List Value} (hk : KeysE w (p :: Q) kvs) (hg : Blk w g EE cs) (h1 : p.lo ≤ g) (h2 : g < p.hi) (hW : Below w.heap.size w W) : New Try.prog W 69 (pkey2 g n g' n') kvs :=
  new_place2 (hg.below hW hg.lt) fun q hq => by
    obtain ⟨g1, n1, g2, n2, cs', e, hB, ha⟩ := hk q hq
    have := ha p (by simp)
    exact ⟨g1, n1, g2, n2, cs', e, hB.below hW hB.lt, by omega⟩
/-- two roots compared -/
def rootB (k n k' n' : Int) (s s' : List UInt8) (l l' : Nat) : Bool := (k == k') && ((n == n') && ((s == s') && ((l : Int) == (l' : Int))))
set_option maxHeartbeats 4000000 in
theorem roots_any (k n k' n' : Int) (s s' : List UInt8) (A A' : Option Addr) (l c l' c' : Nat) (w : World) :
    Calls Try.prog 46 #[nv k n s A l c, nv k' n' s' A' l' c'] w fun e w' => e = .returned (.bool (rootB k n k' n' s s' l l')) ∧ Below w.heap.size w w' := by
  have hb := hid ((box_below w (.cells #[.int .i64 k, .int .i64 n, sv s, .slice A l c] 26)).trans ((box_below _ (.cells #[.int .i64 k', .int .i64 n', sv s', .slice A' l' c'] 26)).mono (by rw [size_alloc']; omega)))
  have hf := hid (show rootB k n k' n' s s' l l' = ((k == k') && ((n == n') && ((s == s') && ((l : Int) == (l' : Int))))) from rfl)
  cases t1 : (k == k')
  · rw [t1] at hf
    go_enter Try.func46, Try.ntmps46
    go_wp2_with fail
    go_ret
    exact ⟨by rw [hf.out]; rfl, hb.out⟩
  · cases t2 : (n == n')
    · rw [t1, t2] at hf
      go_enter Try.func46, Try.ntmps46
      go_wp2_with fail
      go_ret
      exact ⟨by rw [hf.out]; rfl, hb.out⟩
    · cases t3 : (s == s')
      · rw [t1, t2, t3] at hf
        go_enter Try.func46, Try.ntmps46
        go_wp2_with fail
        go_ret
        exact ⟨by rw [hf.out]; rfl, hb.out⟩
      · rw [t1, t2, t3] at hf
        go_enter Try.func46, Try.ntmps46
        go_wp2_with fail
        go_ret
        exact ⟨by rw [hf.out]; rfl, hb.out⟩
end Go.Proofs.Ytlkfejcnkckgkaa.Tr
