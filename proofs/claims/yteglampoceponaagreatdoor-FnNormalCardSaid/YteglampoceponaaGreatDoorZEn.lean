/- Chapter 4: two expressions compared by the program: pairs of nodes, and the pairs of places that were seen. -/
import Derived.Test.YteglampoceponaaGreatDoorZPn
import Derived.Test.YteglampoceponaaGreatDoorZTr
import Derived.StillTailTactics
import Derived.Deep.RegionHeld3
import Derived.BigRegion
import Derived.Deep.CutRange
import Derived.Deep.RegionWith
import Derived.Deep.RegionLaw
set_option maxRecDepth 100000
namespace Go.Proofs.YteglampoceponaaGreatDoor.Tr
open Go.RowKit Go.Lib Go.Sort Go.Proofs.YteglampoceponaaGreatDoor.Com Go.Proofs.YteglampoceponaaGreatDoor.Mem Go.Proofs.YteglampoceponaaGreatDoor.Os Go.Proofs.YteglampoceponaaGreatDoor.Im

abbrev PT : TypeId := 48
abbrev PP := PN × PN
def cells8 (Q : List PP) : List Value := Q.flatMap fun p => cells4 p.1.v ++ cells4 p.2.v
theorem cells8_append (P Q : List PP) : cells8 (P ++ Q) = cells8 P ++ cells8 Q := by simp [cells8]
abbrev pkey2 (g n g' n' : Nat) : Value := .agg #[.pointer (some ⟨g, 0, none⟩), .int .i64 n, .pointer (some ⟨g', 0, none⟩), .int .i64 n']
def KeysE (w : World) (Q : List PN) (kvs : List (Value × Value)) : Prop := ∀ p ∈ kvs, ∃ g n g' n' cs, p.1 = pkey2 g n g' n' ∧ Blk w g EE cs ∧ ∀ q ∈ Q, g < q.lo ∨ q.hi ≤ g
structure EInv (w : World) (ta tb : T) (P Q : List PP) (kvs : List (Value × Value)) : Prop where
  done1 : ∀ p ∈ P, OwnX p.1.lo p.1.hi w p.1.v p.1.t
  done2 : ∀ p ∈ P, OwnX p.2.lo p.2.hi w p.2.v p.2.t
  pend : Pend w (Q.map Prod.fst)
  rght : ∀ p ∈ Q, OwnX p.2.lo p.2.hi w p.2.v p.2.t
  keys : KeysE w (Q.map Prod.fst) kvs
  cnt : P.length + cntQ (Q.map Prod.fst) = cntT ta
  eq : eqT ta tb = Q.all fun p => eqT p.1.t p.2.t
theorem cells8_len {w : World} {Q : List PP} (h1 : ∀ p ∈ Q, OwnX p.1.lo p.1.hi w p.1.v p.1.t) (h2 : ∀ p ∈ Q, OwnX p.2.lo p.2.hi w p.2.v p.2.t) : (cells8 Q).length = Q.length * 8 := by
  induction Q with
  | nil => rfl
  | cons p r ih =>
    have e : cells8 (p :: r) = (cells4 p.1.v ++ cells4 p.2.v) ++ cells8 r := rfl
    rw [e, List.length_append, List.length_append, own_cells (h1 p (by simp)), own_cells (h2 p (by simp)), ih (fun q hq => h1 q (by simp [hq])) fun q hq => h2 q (by simp [hq]), List.length_cons]; omega
theorem cells8_at {P Q : List PP} {p : PP} {k n k' n' : Int} {s s' : List UInt8} {A A' : Option Addr} {l c l' c' : Nat} (hP : (cells8 P).length = P.length * 8) (e : p.1.v = nv k n s A l c) (e' : p.2.v = nv k' n' s' A' l' c') (j : Nat) :
    (cells8 (P ++ p :: Q))[P.length * 8 + j]? = ([.int .i64 k, .int .i64 n, sv s, .slice A l c, .int .i64 k', .int .i64 n', sv s', .slice A' l' c'] ++ cells8 Q)[j]? := by
  have e1 : cells8 (P ++ p :: Q) = cells8 P ++ ([.int .i64 k, .int .i64 n, sv s, .slice A l c, .int .i64 k', .int .i64 n', sv s', .slice A' l' c'] ++ cells8 Q) := by
    rw [cells8_append]
    show cells8 P ++ ((cells4 p.1.v ++ cells4 p.2.v) ++ cells8 Q) = _
    rw [e, e']; rfl
  rw [e1, List.getElem?_append_right (by omega), hP, Nat.add_sub_cancel_left]
theorem eqL_zip : ∀ {Ks Ks' : List PN}, Ks.length = Ks'.length → eqL (Ks.map PN.t) (Ks'.map PN.t) = (Ks.zip Ks').all fun p => eqT p.1.t p.2.t
  | [], [], _ => by rw [List.map_nil, eqL]; rfl
  | a :: r, b :: q, h => by
    rw [List.map_cons, List.map_cons, eqL, eqL_zip (by simpa using h)]; rfl
  | [], _ :: _, h => by simp at h
  | _ :: _, [], h => by simp at h
theorem EInv.step {w : World} {ta tb : T} {P Q : List PP} {p q : PN} {kvs kvs' : List (Value × Value)} {k n : Int} {s : List UInt8} {ks ks' : List T} {A A' : Option Addr} {c c' : Nat} {Ks Ks' : List PN} (h : EInv w ta tb P ((p, q) :: Q) kvs)
    (hp : p.t = .mk k n s ks) (hq : q.t = .mk k n s ks') (hm : Ks.map PN.t = ks) (hm' : Ks'.map PN.t = ks') (hK : KidsAt w p.lo p.hi A c Ks) (hK' : KidsAt w q.lo q.hi A' c' Ks') (hl : Ks.length = Ks'.length) (hkv : KeysE w (Q.map Prod.fst ++ Ks) kvs') :
    EInv w ta tb (P ++ [(p, q)]) (Q ++ Ks.zip Ks') kvs' := by
  have hz : (Ks.zip Ks').map Prod.fst = Ks := List.map_fst_zip (by omega)
  have hpd : Pend w (p :: Q.map Prod.fst) := h.pend
  refine ⟨fun r hr => ?_, fun r hr => ?_, ?_, fun r hr => ?_, ?_, ?_, ?_⟩
  · rcases List.mem_append.1 hr with hr | hr
    · exact h.done1 r hr
    · rw [List.mem_singleton] at hr; subst hr; exact hpd.own p (by simp)
  · rcases List.mem_append.1 hr with hr | hr
    · exact h.done2 r hr
    · rw [List.mem_singleton] at hr; subst hr; exact h.rght (p, q) (by simp)
  · rw [List.map_append, hz]; exact pend_kids hpd hK
  · rcases List.mem_append.1 hr with hr | hr
    · exact h.rght r (List.mem_cons_of_mem _ hr)
    · exact hK'.pend.own r.2 (List.of_mem_zip (a := r.1) (b := r.2) hr).2
  · rw [List.map_append, hz]; exact hkv
  · have h1 := h.cnt
    rw [List.map_cons, cntQ_cons] at h1
    have hp' : cntT p.t = 1 + cntK ks := by rw [hp, cntT_mk]
    rw [List.map_append, hz, cntQ_append, cntQ_kids hm, List.length_append, List.length_singleton]
    show P.length + 1 + _ = _
    have h2 : cntT (p, q).1.t = cntT p.t := rfl
    omega
  · rw [h.eq, List.all_append, List.all_cons]
    have : eqT p.t q.t = (Ks.zip Ks').all fun p => eqT p.1.t p.2.t := by
      rw [hp, hq, eqT_mk, ← hm, ← hm', eqL_zip hl]; simp
    rw [this, Bool.and_comm]
theorem EInv.no {w : World} {ta tb : T} {P Q : List PP} {p q : PN} {kvs : List (Value × Value)} (h : EInv w ta tb P ((p, q) :: Q) kvs) (hne : eqT p.t q.t = false) : eqT ta tb = false := by
  rw [h.eq, List.all_cons, hne]; rfl
theorem EInv.yes {w : World} {ta tb : T} {P : List PP} {kvs : List (Value × Value)} (h : EInv w ta tb P [] kvs) : eqT ta tb = true := by
  rw [h.eq]; rfl
theorem keysE_tail {w : World} {p : PN} {Q : List PN} {kvs : List (Value × Value)} (h : KeysE w (p :: Q) kvs) : KeysE w Q kvs := fun q hq => by
  obtain ⟨g, n, g', n', cs, e, hB, ha⟩ := h q hq
  exact ⟨g, n, g', n', cs, e, hB, fun r hr => ha r (by simp [hr])⟩
theorem keysE_kids {w : World} {p : PN} {Q Ks : List PN} {A : Option Addr} {c : Nat} {kvs : List (Value × Value)} {g n g' n' : Nat} {cs : List Value} {u : Value} (hp : Pend w (p :: Q)) (hk : KeysE w (p :: Q) kvs) (hK : KidsAt w p.lo p.hi A c Ks) (hg : Blk w g EE cs) (h1 : p.lo ≤ g) (h2 : g < p.hi)
    (ha : ∀ q ∈ Ks, g < q.lo ∨ q.hi ≤ g) : KeysE w (Q ++ Ks) (kvs ++ [(pkey2 g n g' n', u)]) := by
  intro q hq
  rcases List.mem_append.1 hq with hq | hq
  · obtain ⟨g1, n1, g2, n2, cs', e, hB, hx⟩ := hk q hq
    refine ⟨g1, n1, g2, n2, cs', e, hB, fun r hr => ?_⟩
    rcases List.mem_append.1 hr with hr | hr
    · exact hx r (by simp [hr])
    · have := hx p (by simp)
      have := hK.in_ r hr
      omega
  · rw [List.mem_singleton] at hq; subst hq
    refine ⟨g, n, g', n', cs, rfl, hg, fun r hr => ?_⟩
    rcases List.mem_append.1 hr with hr | hr
    · have := (List.pairwise_cons.1 hp.dis).1 r hr
      omega
    · exact ha r hr
/-- the pairs' row and the map -/
structure ESt (w wr : World) (b : Value) (mb : Nat) (cs : List Value) (n : Nat) (kvs : List (Value × Value)) : Prop where
  old : Below w.heap.size w wr
  nodes : wr.ownsRow w.heap.size PT 8 b n cs
  map : IMap wr mb kvs
  mbge : w.heap.size ≤ mb
section
variable {w wr w' : World} {b : Value} {mb : Nat} {cs : List Value} {n : Nat} {kvs : List (Value × Value)}
theorem ESt.below_ (h : ESt w wr b mb cs n kvs) (hb : Below wr.heap.size wr w') : ESt w w' b mb cs n kvs :=
  ⟨h.old.trans (hb.mono h.old.size), h.nodes.kept (row := none) ⟨hb.os, hb.tape, hb.output, hb.size, fun k hk _ => hb.block k hk⟩ (by cases b.ownBlock <;> simp), h.map.below hb h.map.lt, h.mbge⟩
theorem ESt.map_ {kvs' : List (Value × Value)} (h : ESt w wr b mb cs n kvs) (hm : IMap w' mb kvs') (hgb : wr.grownBy w' (some mb)) : ESt w w' b mb cs n kvs' := by
  have hmb := h.mbge
  refine ⟨h.old.grown hgb h.old.size (fun k hk => by cases hk; exact hmb), h.nodes.kept hgb ?_, hm, h.mbge⟩
  cases hb : b.ownBlock with
  | none => exact Or.inl rfl
  | some g =>
    refine Or.inr fun e => ?_
    obtain ⟨_, c1, h1⟩ := row_obj h.nodes hb
    have := h.map
    unfold IMap at this
    cases e
    rw [this] at h1; injection h1 with h3; cases h3
theorem ESt.node_ {b' : Value} {cs' : List Value} {n' : Nat} (h : ESt w wr b mb cs n kvs) (hr : w'.ownsRow w.heap.size PT 8 b' n' cs') (hgb : wr.grownBy w' b.ownBlock) : ESt w w' b' mb cs' n' kvs := by
  refine ⟨h.old.grown hgb h.old.size fun g hg => (row_obj h.nodes hg).1, hr, h.map.gb hgb fun e => ?_, h.mbge⟩
  obtain ⟨_, c2, h2⟩ := row_obj h.nodes e.symm
  have := h.map
  unfold IMap at this
  rw [this] at h2; injection h2 with h3; cases h3
/-- a row of nodes stays where the pairs' row turns -/
theorem ESt.keep {g : Nat} {cs0 : List Value} (h : ESt w wr b mb cs n kvs) (hgb : wr.grownBy w' b.ownBlock) (hB : Blk wr g EE cs0) : Blk w' g EE cs0 := by
  refine (hgb.block g hB.lt fun e => ?_).trans hB
  obtain ⟨_, c2, h2⟩ := row_obj h.nodes e.symm
  unfold Blk at hB
  rw [hB] at h2
  injection h2 with h3; injection h3 with _ h4
  revert h4; decide
theorem ESt.re {cs' : List Value} {n' : Nat} (h : ESt w wr b mb cs n kvs) (e1 : cs = cs') (e2 : n = n') : ESt w wr b mb cs' n' kvs := by subst e1 e2; exact h
theorem ESt.cell {gn N cn : Nat} (h : ESt w wr (.slice (some ⟨gn, 0, none⟩) N cn) mb cs n kvs) {j : Nat} {u : Value} (hj : cs[j]? = some u) : wr.cell? ⟨gn, j, none⟩ = some u := by
  have := h.nodes.cells (g := gn) rfl j u hj
  rw [add_zero] at this; exact this
end
theorem wideE : WideK Tryz.prog 54 := ⟨_, Tryz.underlying54, fun _ _ => rfl⟩
theorem check_place2 (g n g' n' : Nat) (w : World) (em : Bool) : (Instr.checkKey em 10000 54 (pkey2 g n g' n')).run Tryz.prog w = .ok () w := by kernel_rfl
theorem ne_place2 {g n g' n' x y x' y' : Nat} {w : World} {cs cs' : List Value} (hg : Blk w g EE cs) (hg' : Blk w g' EE cs') (hne : g ≠ g') : (Op.equal 54 (pkey2 g n x y) (pkey2 g' n' x' y')).run Tryz.prog w = .ok false w := by
  have h1 := ne_placeD 9997 (n := n) (n' := n') hg hg' hne
  obtain ⟨i, hi⟩ := info_of_underlying Tryz.underlying52
  unfold Op.equal Op.maxDepth
  rw [run_equalIn_array w 9999 _ _ Tryz.underlying54 hi]
  have hc : Tryz.prog.cellsOf 52 = 2 := by kernel_rfl
  have hpa : ∀ a b c d : Value, (part 52 #[a, b, c, d] 0).run Tryz.prog w = .ok (.agg #[a, b]) w := fun a b c d => by kernel_rfl
  rw [hc, show List.range 2 = [0, 1] from rfl]
  unfold Op.eqItems
  simp only [Nat.zero_mul, Sem.run_bind, hpa, Result.andThen_ok, h1]
  simp
theorem new_place2 {g n g' n' : Nat} {w : World} {cs : List Value} {kvs : List (Value × Value)} (hg : Blk w g EE cs) (h : ∀ p ∈ kvs, ∃ g1 n1 g2 n2 cs', p.1 = pkey2 g1 n1 g2 n2 ∧ Blk w g1 EE cs' ∧ g1 ≠ g) : New Tryz.prog w 54 (pkey2 g n g' n') kvs :=
  ⟨fun w em => check_place2 g n g' n' w em, fun p hp => by
    obtain ⟨g1, n1, g2, n2, cs', e, hB, hne⟩ := h p hp
    rw [e]
    exact ne_place2 hg hB (Ne.symm hne)⟩
theorem new_kids2 {w W : World} {p : PN} {Q : List PN} {kvs : List (Value × Value)} {g n g' n' : Nat} {cs : List Value} (hk : KeysE w (p :: Q) kvs) (hg : Blk w g EE cs) (h1 : p.lo ≤ g) (h2 : g < p.hi) (hW : Below w.heap.size w W) : New Tryz.prog W 54 (pkey2 g n g' n') kvs :=
  new_place2 (hg.below hW hg.lt) fun q hq => by
    obtain ⟨g1, n1, g2, n2, cs', e, hB, ha⟩ := hk q hq
    have := ha p (by simp)
    exact ⟨g1, n1, g2, n2, cs', e, hB.below hW hB.lt, by omega⟩
/-- two roots compared -/
def rootB (k n k' n' : Int) (s s' : List UInt8) (l l' : Nat) : Bool := (k == k') && ((n == n') && ((s == s') && ((l : Int) == (l' : Int))))
set_option maxHeartbeats 4000000 in
theorem roots_any (k n k' n' : Int) (s s' : List UInt8) (A A' : Option Addr) (l c l' c' : Nat) (w : World) :
    Calls Tryz.prog 26 #[nv k n s A l c, nv k' n' s' A' l' c'] w fun e w' => e = .returned (.bool (rootB k n k' n' s s' l l')) ∧ Below w.heap.size w w' := by
  have hb := hid ((box_below w (.cells #[.int .i64 k, .int .i64 n, sv s, .slice A l c] 26)).trans ((box_below _ (.cells #[.int .i64 k', .int .i64 n', sv s', .slice A' l' c'] 26)).mono (by rw [size_alloc']; omega)))
  have hf := hid (show rootB k n k' n' s s' l l' = ((k == k') && ((n == n') && ((s == s') && ((l : Int) == (l' : Int))))) from rfl)
  cases t1 : (k == k')
  · rw [t1] at hf
    go_enter Tryz.func26, Tryz.ntmps26
    go_wp2_with fail
    go_ret
    exact ⟨by rw [hf.out]; rfl, hb.out⟩
  · cases t2 : (n == n')
    · rw [t1, t2] at hf
      go_enter Tryz.func26, Tryz.ntmps26
      go_wp2_with fail
      go_ret
      exact ⟨by rw [hf.out]; rfl, hb.out⟩
    · cases t3 : (s == s')
      · rw [t1, t2, t3] at hf
        go_enter Tryz.func26, Tryz.ntmps26
        go_wp2_with fail
        go_ret
        exact ⟨by rw [hf.out]; rfl, hb.out⟩
      · rw [t1, t2, t3] at hf
        go_enter Tryz.func26, Tryz.ntmps26
        go_wp2_with fail
        go_ret
        exact ⟨by rw [hf.out]; rfl, hb.out⟩
end Go.Proofs.YteglampoceponaaGreatDoor.Tr

/- Chapter 4: two expressions compared by the program. -/
set_option maxRecDepth 100000
namespace Go.Proofs.YteglampoceponaaGreatDoor.Tr
open Go.RowKit Go.Lib Go.Sort Go.Proofs.YteglampoceponaaGreatDoor.Com Go.Proofs.YteglampoceponaaGreatDoor.Mem Go.Proofs.YteglampoceponaaGreatDoor.Os Go.Proofs.YteglampoceponaaGreatDoor.Im

abbrev PS : TypeId := 49
theorem infoPT : (Tryz.prog.info? PT).map (fun i => (i.zero, i.size, i.bytes)) = some (some (.agg #[.int .i64 0, .int .i64 0, sv [], .slice none 0 0, .int .i64 0, .int .i64 0, sv [], .slice none 0 0]), 8, 112) := by kernel_rfl
abbrev eW (w : World) (k n k' n' : Int) (s s' : List UInt8) (A A' : Option Addr) (l c l' c' : Nat) : World :=
  (((w.alloc (.cells #[.int .i64 k, .int .i64 n, sv s, .slice A l c] EE)).alloc (.cells #[.int .i64 k', .int .i64 n', sv s', .slice A' l' c'] EE)).alloc (.map #[] 0)).alloc (.cells #[.int .i64 k, .int .i64 n, sv s, .slice A l c, .int .i64 k', .int .i64 n', sv s', .slice A' l' c'] PT)
theorem estart (w : World) (k n k' n' : Int) (s s' : List UInt8) (A A' : Option Addr) (l c l' c' : Nat) :
    ESt w (eW w k n k' n' s s' A A' l c l' c') (.slice (some ⟨w.heap.size + 1 + 1 + 1, 0, none⟩) 1 1) (w.heap.size + 1 + 1) [.int .i64 k, .int .i64 n, sv s, .slice A l c, .int .i64 k', .int .i64 n', sv s', .slice A' l' c'] 1 [] := by
  let o1 : Obj := .cells #[.int .i64 k, .int .i64 n, sv s, .slice A l c] EE
  let o2 : Obj := .cells #[.int .i64 k', .int .i64 n', sv s', .slice A' l' c'] EE
  let o3 : Obj := .cells #[.int .i64 k, .int .i64 n, sv s, .slice A l c, .int .i64 k', .int .i64 n', sv s', .slice A' l' c'] PT
  have s1 := size_alloc' w o1
  have s2 := size_alloc' (w.alloc o1) o2
  have s3 := size_alloc' ((w.alloc o1).alloc o2) (.map #[] 0)
  have b : Below w.heap.size w (eW w k n k' n' s s' A A' l c l' c') := ((((Below.refl _ _).alloc (Nat.le_refl _) o1).alloc (by omega) o2).alloc (by omega) _).alloc (by omega) o3
  have m1 := IMap.new ((w.alloc o1).alloc o2)
  rw [s1] at s2
  rw [s2] at m1 s3
  have hn := heap_alloc_new (((w.alloc o1).alloc o2).alloc (.map #[] 0)) o3
  rw [s3] at hn
  exact ⟨b, ⟨rfl, Or.inr ⟨_, 1, #[.int .i64 k, .int .i64 n, sv s, .slice A l c, .int .i64 k', .int .i64 n', sv s', .slice A' l' c'], rfl, by omega, hn, by omega, by unfold maxLen; omega, rfl, rfl⟩⟩, m1.alloc _, by omega⟩
theorem root_no {k n k' n' : Int} {s s' : List UInt8} {ks ks' : List T} (h : rootB k n k' n' s s' ks.length ks'.length = false) : eqT (.mk k n s ks) (.mk k' n' s' ks') = false := by
  rw [eqT_mk]
  unfold rootB at h
  cases h1 : (k == k')
  · rfl
  · cases h2 : (n == n')
    · rfl
    · cases h3 : (s == s')
      · rfl
      · rw [h1, h2, h3] at h
        simp only [Bool.true_and] at h ⊢
        refine eqL_nl fun e => ?_
        rw [e] at h; simp at h
theorem root_yes {k n k' n' : Int} {s s' : List UInt8} {l l' : Nat} (h : rootB k n k' n' s s' l l' = true) : k = k' ∧ n = n' ∧ s = s' ∧ l = l' := by
  unfold rootB at h
  simp only [Bool.and_eq_true, beq_iff_eq] at h
  exact ⟨h.1, h.2.1, h.2.2.1, by have := h.2.2.2; omega⟩
theorem cell_next {X W : World} {a : Addr} {v : Value} (hb : Below X.heap.size X W) (h : X.cell? a = some v) : W.cell? a = some v := (hb.cell (block_lt_of_cell h)).trans h
/-- the zero of a pair of places -/
abbrev Z2 : List Value := [.pointer none, .int .i64 0, .pointer none, .int .i64 0]
theorem blk_next {X W : World} {g ty : Nat} {cs : List Value} (hb : Below X.heap.size X W) (h : Blk X g ty cs) : Blk W g ty cs := h.below hb h.lt
theorem alloc_some {w : World} {a : Addr} {v : Value} (h : w.cell? a = some v) (o : Obj) : (w.alloc o).cell? a = some v := ((box_below w o).cell (block_lt_of_cell h)).trans h
/-- append of one pair, as one step of a region that draws its order -/
theorem step_app8 {W : World} {o : Oper} {a : Act} {ops : Array Oper} {K : Act → World → Prop} {Q : Exit → Act → World → Prop} {E : Prop} (hg : o.guard = none) (s x : Operand)
    (ho : o.op = .call { callee := .builtin .append, args := #[s, x], argTypes := #[PS, PS] }) (base : Nat) (i0 : TypeInfo) (hi : Tryz.prog.info? PT = some i0) (hz0 : i0.zero = some (.agg #[.int .i64 0, .int .i64 0, sv [], .slice none 0 0, .int .i64 0, .int .i64 0, sv [], .slice none 0 0])) (hz1 : i0.size = 8) (hz2 : i0.bytes = 112)
    (v : Value) (n : Nat) (xs : List Value) (hs : a.eval s = v) (hown : W.ownsRow base PT 8 v n xs) (ad : Addr) (ys : List Value) (hx : a.eval x = .slice (some ad) 1 1) (hys : ys.length = 8) (hc : ∀ j u, ys[j]? = some u → W.cell? (ad.add j) = some u) (hone : ∀ u ∈ ys, u.oneCell' = true) (hl : n ≤ 10000000) (hbase : base ≤ W.heap.size)
    (hK : ∀ v' w', w'.ownsRow base PT 8 v' (n + 1) (xs ++ ys) → W.grownBy w' v.ownBlock → K (a.put o.dst v') w') :
    if Region.wanted o (yielded ops a.tmps) = true then Oper.wp Tryz.prog o a W K Q else E := by
  have hw : Region.wanted o (yielded ops a.tmps) = true := by simp [Region.wanted, hg]
  rw [if_pos hw]
  exact wp_append_own W s x PS ho base PT i0 _ 8 112 Tryz.underlying49 hi hz0 hz1 hz2 rfl (by decide) v n xs hs hown ad 1 1 ys hx (by omega) hc hone (by unfold maxLen; omega) (by omega) hbase (fun v' w' h1 h2 _ => hK v' w' h1 h2)
theorem new_cells (W : World) (ty : TypeId) (cs : List Value) : ∀ j u, cs[j]? = some u → (W.alloc (.cells cs.toArray ty)).cell? ((⟨W.heap.size, 0, none⟩ : Addr).add j) = some u := by
  intro j u hj
  rw [add_zero, (Blk.new W ty cs).cell]; exact hj
theorem blk_obj2 {wr w' : World} {b g : Nat} {kvs : List (Value × Value)} {ty : TypeId} {cs : List Value} (hk : IMap wr b kvs) (hg : wr.grownBy w' (some b)) (hB : Blk wr g ty cs) : Blk w' g ty cs :=
  hB.gb hg (fun e => by subst e; unfold Blk at hB; unfold IMap at hk; rw [hk] at hB; cases hB)
/-- a kid's cells in its row -/
theorem kid_cells {w W : World} {g m : Nat} {cs : List Value} {Ks : List PN} {k n : Int} {s : List UInt8} {A : Option Addr} {l c : Nat} (hown : ∀ p ∈ Ks, OwnX p.lo p.hi w p.v p.t) (htk : cs.take (Ks.length * 4) = cellsOf Ks) (hB : Blk W g EE cs) (hm : m < Ks.length) (e : Ks[m].v = nv k n s A l c) :
    W.cell? ⟨g, m * 4, none⟩ = some (.int .i64 k) ∧ W.cell? ⟨g, m * 4 + 1, none⟩ = some (.int .i64 n) ∧ W.cell? ⟨g, m * 4 + 2, none⟩ = some (sv s) ∧ W.cell? ⟨g, m * 4 + 3, none⟩ = some (.slice A l c) := by
  have hsp : Ks = Ks.take m ++ Ks[m] :: Ks.drop (m + 1) := by rw [← List.drop_eq_getElem_cons hm, List.take_append_drop]
  have hP : (cellsOf (Ks.take m)).length = (Ks.take m).length * 4 := cellsOf_len fun p hp => hown p (List.mem_of_mem_take hp)
  obtain ⟨c0, c1, c2, c3⟩ := cellsOf_at (P := Ks.take m) (Q := Ks.drop (m + 1)) hP e
  rw [← hsp, List.length_take, Nat.min_eq_left (Nat.le_of_lt hm)] at c0 c1 c2 c3
  have hc := row_cells htk hB
  have q0 := hc _ _ c0
  have q1 := hc _ _ c1
  have q2 := hc _ _ c2
  have q3 := hc _ _ c3
  rw [add_zero] at q0 q1 q2 q3
  exact ⟨q0, q1, q2, q3⟩
theorem cell_next2 {w2 W : World} {a : Addr} {v : Value} (hb : Below w2.heap.size w2 W) (h : w2.cell? a = some v) : W.cell? a = some v := (hb.cell (block_lt_of_cell h)).trans h
/-- behind the making of a pair of places -/
structure R10 (w : World) (gn N cn mb : Nat) (cs : List Value) (kvs : List (Value × Value)) (bl br : Nat) (cl cr : List Value) (g n g' n' : Nat) (s10 : Value) (wx : World) : Prop where
  ex : ∃ kb : Nat, s10 = .pointer (some ⟨kb, 0, none⟩) ∧ ESt w wx (.slice (some ⟨gn, 0, none⟩) N cn) mb cs N kvs ∧ Blk wx bl EE cl ∧ Blk wx br EE cr ∧ Blk wx kb 54 [.pointer (some ⟨g, 0, none⟩), .int .i64 (n : Nat), .pointer (some ⟨g', 0, none⟩), .int .i64 (n' : Nat)]
theorem r10_set {w w2 w4 : World} {gn N cn mb : Nat} {cs : List Value} {kvs : List (Value × Value)} {bl br : Nat} {cl cr : List Value} {g n g' n' kb : Nat} (hb : Below w2.heap.size w2 w4) (hk : w2.heap.size ≤ kb) (hB : Blk w4 kb 54 Z2)
    (hS : ESt w w2 (.slice (some ⟨gn, 0, none⟩) N cn) mb cs N kvs) (hl : Blk w2 bl EE cl) (hr : Blk w2 br EE cr) :
    R10 w gn N cn mb cs kvs bl br cl cr g n g' n' (.pointer (some ⟨kb, 0, none⟩)) ((((w4.setCell ⟨kb, 0, none⟩ (.pointer (some ⟨g, 0, none⟩))).setCell ⟨kb, 1, none⟩ (.int .i64 (n : Nat))).setCell ⟨kb, 2, none⟩ (.pointer (some ⟨g', 0, none⟩))).setCell ⟨kb, 3, none⟩ (.int .i64 (n' : Nat))) := by
  have hbb := (((hb.setCell (p := ⟨kb, 0, none⟩) hk (.pointer (some ⟨g, 0, none⟩))).setCell (p := ⟨kb, 1, none⟩) hk (.int .i64 (n : Nat))).setCell (p := ⟨kb, 2, none⟩) hk (.pointer (some ⟨g', 0, none⟩))).setCell (p := ⟨kb, 3, none⟩) hk (.int .i64 (n' : Nat))
  exact .mk ⟨kb, rfl, hS.below_ hbb, hl.below hbb hl.lt, hr.below hbb hr.lt, (((hB.set_ 0 _).set_ 1 _).set_ 2 _).set_ 3 _⟩
theorem r10_new {w w2 w4 : World} {gn N cn mb : Nat} {cs : List Value} {kvs : List (Value × Value)} {bl br : Nat} {cl cr : List Value} {g n g' n' : Nat} (hb : Below w2.heap.size w2 w4)
    (hS : ESt w w2 (.slice (some ⟨gn, 0, none⟩) N cn) mb cs N kvs) (hl : Blk w2 bl EE cl) (hr : Blk w2 br EE cr) :
    R10 w gn N cn mb cs kvs bl br cl cr g n g' n' (.pointer (some ⟨w4.heap.size, 0, none⟩)) (w4.alloc (.cells #[.pointer (some ⟨g, 0, none⟩), .int .i64 (n : Nat), .pointer (some ⟨g', 0, none⟩), .int .i64 (n' : Nat)] 54)) := by
  have hbb := hb.alloc hb.size (.cells #[.pointer (some ⟨g, 0, none⟩), .int .i64 (n : Nat), .pointer (some ⟨g', 0, none⟩), .int .i64 (n' : Nat)] 54)
  exact .mk ⟨_, rfl, hS.below_ hbb, hl.below hbb hl.lt, hr.below hbb hr.lt, Blk.new w4 _ _⟩
set_option maxHeartbeats 8000000 in
theorem iequal (ta tb : T) (va vb : Value) (lo hi lo' hi' : Nat) (w : World) (ha : OwnX lo hi w va ta) (hb : OwnX lo' hi' w vb tb) (hbd : cntT ta ≤ 2000000) :
    Calls Tryz.prog 12 #[va, vb] w fun e w' => e = .returned (.bool (eqT ta tb)) ∧ Below w.heap.size w w' := by
  obtain ⟨k0, n0, s0, A0, l0, c0, rfl⟩ := OwnE.form ha
  obtain ⟨k1, n1, s1, A1, l1, c1, rfl⟩ := OwnE.form hb
  have hE0 : EInv w ta tb [] [(⟨nv k0 n0 s0 A0 l0 c0, ta, lo, hi⟩, ⟨nv k1 n1 s1 A1 l1 c1, tb, lo', hi'⟩)] [] := by
    refine EInv.mk (fun p hp => ?_) (fun p hp => ?_) (Pend.mk (fun p hp => ?_) ?_) (fun p hp => ?_) (fun p hp => ?_) ?_ ?_
    · cases hp
    · cases hp
    · simp at hp; subst hp; exact ha
    · simp
    · rw [List.mem_singleton] at hp; subst hp; exact hb
    · cases hp
    · simp [cntQ]
    · simp
  have hS0 : ESt w ((((w.alloc (.cells #[.int .i64 k0, .int .i64 n0, sv s0, .slice A0 l0 c0] EE)).alloc (.cells #[.int .i64 k1, .int .i64 n1, sv s1, .slice A1 l1 c1] EE)).alloc (.map #[] 0)).alloc (.cells #[.int .i64 k0, .int .i64 n0, sv s0, .slice A0 l0 c0, .int .i64 k1, .int .i64 n1, sv s1, .slice A1 l1 c1] PT)) (.slice (some ⟨w.heap.size + 1 + 1 + 1, 0, none⟩) 1 1) (w.heap.size + 1 + 1) [.int .i64 k0, .int .i64 n0, sv s0, .slice A0 l0 c0, .int .i64 k1, .int .i64 n1, sv s1, .slice A1 l1 c1] 1 [] := estart w k0 n0 k1 n1 s0 s1 A0 A1 l0 c0 l1 c1
  replace hE0 := hid hE0
  replace hS0 := hid hS0
  replace hbd := hid hbd
  obtain ⟨i0, hi0, hz0, hz1, hz2⟩ := info_parts infoPT
  have hZ := hid (And.intro hi0 (And.intro hz0 (And.intro hz1 hz2)))
  have qm := fun w => run_makeMap (P := Tryz.prog) 47 w
  clear ha hb hi0 hz0 hz1 hz2
  go_enter Tryz.func12, Tryz.ntmps12
  go_wp2_with fail
  generalize ((((w.alloc (.cells #[.int .i64 k0, .int .i64 n0, sv s0, .slice A0 l0 c0] EE)).alloc (.cells #[.int .i64 k1, .int .i64 n1, sv s1, .slice A1 l1 c1] EE)).alloc (.map #[] 0)).alloc (.cells #[.int .i64 k0, .int .i64 n0, sv s0, .slice A0 l0 c0, .int .i64 k1, .int .i64 n1, sv s1, .slice A1 l1 c1] PT)) = W0 at *
  generalize w.heap.size + 1 + 1 = mb at *
  go_loopw [6, 7] (fun b i wr => ∃ (P Q : List PP) (kvs : List (Value × Value)), i = .int .i64 (P.length : Nat) ∧ ESt w wr b mb (cells8 (P ++ Q)) (P.length + Q.length) kvs ∧ EInv w ta tb P Q kvs) (fun _ i _ => cntT ta - (Go.RowKit.intOf i).toNat)
  case atStart => exact ⟨[], [(⟨nv k0 n0 s0 A0 l0 c0, ta, lo, hi⟩, ⟨nv k1 n1 s1 A1 l1 c1, tb, lo', hi'⟩)], [], rfl, hS0.out, hE0.out⟩
  case round =>
    obtain ⟨P, Q, kvs, rfl, hS, hE⟩ := hrel
    clear hS0 hE0
    have hbd1 := hbd.out
    have hcnt := hE.cnt
    have hpos := cnt_pos ta
    by_cases hQ : Q = []
    · subst hQ
      have hf := hid hE.yes
      simp only [cntQ, List.map_nil, List.sum_nil, Nat.add_zero] at hcnt
      have hold := hid hS.old
      obtain ⟨gn, cn, hu, _⟩ := row_some hS.nodes (by simp; omega)
      subst hu
      have t0 : decide ((P.length : Int) < (P.length : Int)) = false := decide_eq_false (by omega)
      clear hS hE hcnt hbd1 hpos qm
      simp only [List.length_nil, Nat.add_zero]
      go_wp2_with fail
      go_ret
      exact ⟨by rw [hf.out]; rfl, hold.out⟩
    · obtain ⟨⟨p, q⟩, Q', rfl⟩ := List.exists_cons_of_ne_nil hQ
      have hqown := hE.rght (p, q) (by simp)
      have hpown : OwnX p.lo p.hi w p.v p.t := hE.pend.own p (by simp)
      obtain ⟨k, n, s, ks, ht⟩ : ∃ k n s ks, p.t = .mk k n s ks := by cases h : p.t; exact ⟨_, _, _, _, rfl⟩
      obtain ⟨k', n', s', ks', ht'⟩ : ∃ k n s ks, q.t = .mk k n s ks := by cases h : q.t; exact ⟨_, _, _, _, rfl⟩
      rw [ht] at hpown
      simp only at hqown
      rw [ht'] at hqown
      obtain ⟨A, c, Ks, hv, hs, hm, hK⟩ := own_open hpown
      obtain ⟨A', c', Ks', hv', hs', hm', hK'⟩ := own_open hqown
      have hl : Ks.length = ks.length := by rw [← hm, List.length_map]
      have hl' : Ks'.length = ks'.length := by rw [← hm', List.length_map]
      rw [List.map_cons, cntQ_cons] at hcnt
      have hcp : cntT (p, q).1.t = 1 + cntK ks := by show cntT p.t = _; rw [ht, cntT_mk]
      have hcl := cntQ_len Ks
      rw [cntQ_kids hm] at hcl
      have hcl2 := cntQ_len (Q'.map Prod.fst)
      rw [List.length_map] at hcl2
      obtain ⟨gn, cn, hu, _⟩ := row_some hS.nodes (by simp only [List.length_cons]; omega)
      subst hu
      have hat := cells8_at (Q := Q') (cells8_len hE.done1 hE.done2) (p := (p, q)) hv hv'
      have x0 : wr.cell? ⟨gn, P.length * 8, none⟩ = some (.int .i64 k) := hS.cell (hat 0)
      have x1 : wr.cell? ⟨gn, P.length * 8 + 1, none⟩ = some (.int .i64 n) := hS.cell (hat 1)
      have x2 : wr.cell? ⟨gn, P.length * 8 + 2, none⟩ = some (sv s) := hS.cell (hat 2)
      have x3 : wr.cell? ⟨gn, P.length * 8 + 3, none⟩ = some (.slice A ks.length c) := hS.cell (hat 3)
      have x4 : wr.cell? ⟨gn, P.length * 8 + 4, none⟩ = some (.int .i64 k') := hS.cell (hat 4)
      have x5 : wr.cell? ⟨gn, P.length * 8 + 4 + 1, none⟩ = some (.int .i64 n') := hS.cell (hat 5)
      have x6 : wr.cell? ⟨gn, P.length * 8 + 4 + 2, none⟩ = some (sv s') := hS.cell (hat 6)
      have x7 : wr.cell? ⟨gn, P.length * 8 + 4 + 3, none⟩ = some (.slice A' ks'.length c') := hS.cell (hat 7)
      obtain ⟨N, hN⟩ : ∃ N, P.length + ((p, q) :: Q').length = N := ⟨_, rfl⟩
      rw [hN] at hS ⊢
      have hlen : N = P.length + (Q'.length + 1) := by rw [← hN]; rfl
      clear hN hat
      have hmeas : P.length < cntT ta := by omega
      have t0 : decide ((P.length : Int) < (N : Int)) = true := decide_eq_true (by omega)
      have t1 : (P.length : Int) < (N : Int) := by omega
      have hNb : N + ks.length ≤ 4000000 := by omega
      replace hlen := hid hlen
      replace hS := hid hS
      replace hE := hid hE
      replace hcl := hid hcl
      have y0 := alloc_some x0
      have y1 := alloc_some x1
      have y2 := alloc_some x2
      have y3 := alloc_some x3
      have y4 := alloc_some x4
      have y5 := alloc_some x5
      have y6 := alloc_some x6
      have y7 := alloc_some x7
      have z0 := fun o => alloc_some (y0 o)
      have z1 := fun o => alloc_some (y1 o)
      have z2 := fun o => alloc_some (y2 o)
      have z3 := fun o => alloc_some (y3 o)
      have z4 := fun o => alloc_some (y4 o)
      have z5 := fun o => alloc_some (y5 o)
      have z6 := fun o => alloc_some (y6 o)
      have z7 := fun o => alloc_some (y7 o)
      go_wp2_with fail
      go_cut [8, 9] from 17 to 73 (fun s8 s9 wx => ∃ bl br : Nat, s8 = .pointer (some ⟨bl, 0, none⟩) ∧ s9 = .pointer (some ⟨br, 0, none⟩) ∧ ESt w wx (.slice (some ⟨gn, 0, none⟩) N cn) mb (cells8 (P ++ (p, q) :: Q')) N kvs ∧ Blk wx bl EE [.int .i64 k, .int .i64 n, sv s, .slice A ks.length c] ∧ Blk wx br EE [.int .i64 k', .int .i64 n', sv s', .slice A' ks'.length c'])
      case first =>
        go_region
        have s1 := size_alloc' wr (.cells #[.int .i64 k, .int .i64 n, sv s, .slice A ks.length c] EE)
        have hBl := (Blk.new wr EE [.int .i64 k, .int .i64 n, sv s, .slice A ks.length c]).alloc (.cells #[.int .i64 k', .int .i64 n', sv s', .slice A' ks'.length c'] EE)
        have hBr := Blk.new (wr.alloc (.cells #[.int .i64 k, .int .i64 n, sv s, .slice A ks.length c] EE)) EE [.int .i64 k', .int .i64 n', sv s', .slice A' ks'.length c']
        rw [s1] at hBr
        have hS1 := hid (hS.out.below_ ((box_below wr (.cells #[.int .i64 k, .int .i64 n, sv s, .slice A ks.length c] EE)).trans ((box_below _ (.cells #[.int .i64 k', .int .i64 n', sv s', .slice A' ks'.length c'] EE)).mono (by omega))))
        clear s1 x0 x1 x2 x3 x4 x5 x6 x7 y0 y1 y2 y3 y4 y5 y6 y7 z0 z1 z2 z3 z4 z5 z6 z7
        generalize ((wr.alloc (.cells #[.int .i64 k, .int .i64 n, sv s, .slice A ks.length c] EE)).alloc (.cells #[.int .i64 k', .int .i64 n', sv s', .slice A' ks'.length c'] EE)) = W at *
        generalize wr.heap.size + 1 = br at *
        generalize wr.heap.size = bl at *
        rotate_left
        have s1 := size_alloc' wr (.cells #[.int .i64 k', .int .i64 n', sv s', .slice A' ks'.length c'] EE)
        have hBr := (Blk.new wr EE [.int .i64 k', .int .i64 n', sv s', .slice A' ks'.length c']).alloc (.cells #[.int .i64 k, .int .i64 n, sv s, .slice A ks.length c] EE)
        have hBl := Blk.new (wr.alloc (.cells #[.int .i64 k', .int .i64 n', sv s', .slice A' ks'.length c'] EE)) EE [.int .i64 k, .int .i64 n, sv s, .slice A ks.length c]
        rw [s1] at hBl
        have hS1 := hid (hS.out.below_ ((box_below wr (.cells #[.int .i64 k', .int .i64 n', sv s', .slice A' ks'.length c'] EE)).trans ((box_below _ (.cells #[.int .i64 k, .int .i64 n, sv s, .slice A ks.length c] EE)).mono (by omega))))
        clear s1 x0 x1 x2 x3 x4 x5 x6 x7 y0 y1 y2 y3 y4 y5 y6 y7 z0 z1 z2 z3 z4 z5 z6 z7
        generalize ((wr.alloc (.cells #[.int .i64 k', .int .i64 n', sv s', .slice A' ks'.length c'] EE)).alloc (.cells #[.int .i64 k, .int .i64 n, sv s, .slice A ks.length c] EE)) = W at *
        generalize wr.heap.size + 1 = bl at *
        generalize wr.heap.size = br at *
        all_goals
          replace hS1 := hS1.out.below_ (Below.refl _ W).drew
          replace hBl : Blk W.drew bl EE _ := hBl
          replace hBr : Blk W.drew br EE _ := hBr
          generalize W.drew = W1 at *
          go_wp2_with fail
          go_meet
          exact ⟨bl, br, rfl, rfl, hS1, hBl, hBr⟩
      case rest =>
        obtain ⟨bl, br, rfl, rfl, hS1, hBl, hBr⟩ := hcut
        clear x0 x1 x2 x3 x4 x5 x6 x7 y0 y1 y2 y3 y4 y5 y6 y7 z0 z1 z2 z3 z4 z5 z6 z7
        generalize wc = W1 at *
        replace hS1 := hid hS1
        replace hBl := hid hBl
        replace hBr := hid hBr
        have hro := roots_any k n k' n' s s' A A' ks.length c ks'.length c' W1
        obtain ⟨a0, a1, a2, a3⟩ := four hBl.out
        obtain ⟨b0, b1, b2, b3⟩ := four hBr.out
        cases hrt : rootB k n k' n' s s' ks.length ks'.length
        · have hf := hid (hE.out.no (p := p) (q := q) (by rw [ht, ht']; exact root_no hrt))
          rw [hrt] at hro
          replace hro := hid hro
          clear hrt
          go_wp2_with fail
          refine hro.out.mono ?_
          rintro e w2 ⟨rfl, hb2⟩
          have hb3 := hid (hS1.out.old.trans (hb2.mono hS1.out.old.size))
          clear a0 a1 a2 a3 b0 b1 b2 b3 hb2
          go_wp2_with fail
          go_ret
          exact ⟨by rw [hf.out]; rfl, hb3.out⟩
        · obtain ⟨rfl, rfl, rfl, hll⟩ := root_yes hrt
          rw [hrt] at hro
          replace hro := hid hro
          replace hll := hid hll
          clear hrt
          go_wp2_with fail
          refine hro.out.mono ?_
          rintro e w2 ⟨rfl, hb2⟩
          have hS2 := hid (hS1.out.below_ hb2)
          have hBl2 := hid (hBl.out.below hb2 hBl.out.lt)
          have hBr2 := hid (hBr.out.below hb2 hBr.out.lt)
          clear a0 a1 a2 a3 b0 b1 b2 b3 hb2
          obtain ⟨a0, a1, a2, a3⟩ := four hBl2.out
          obtain ⟨b0, b1, b2, b3⟩ := four hBr2.out
          by_cases h0 : ks.length = 0
          · have hKn : Ks = [] := List.eq_nil_of_length_eq_zero (by omega)
            have hKn' : Ks' = [] := List.eq_nil_of_length_eq_zero (by have := hll.out; omega)
            subst hKn hKn'
            have hE' := hid (hE.out.step ht ht' hm hm' hK hK' rfl (by rw [List.append_nil]; exact keysE_tail hE.out.keys))
            rw [h0] at a3
            go_wp2_with fail
            go_roundw
            case rel => exact ⟨P ++ [(p, q)], Q' ++ [], kvs, by simp, hS2.out.re (by simp [cells8]) (by rw [hlen.out]; simp; omega), hE'.out⟩
            case measure => simp [Go.RowKit.intOf]; omega
          · have hKn : Ks ≠ [] := fun e => h0 (by rw [← hl, e]; rfl)
            have hKn' : Ks' ≠ [] := fun e => h0 (by rw [hll.out, ← hl', e]; rfl)
            obtain ⟨g, cs, rfl, hlo, hhi, hB, htk, hap⟩ := hK.row hKn
            obtain ⟨g', cs', rfl, hlo', hhi', hB', htk', hap'⟩ := hK'.row hKn'
            have hpos : 0 < ks.length := by omega
            have tz : ((ks.length : Int) == 0) = false := beq_false_of_ne (by omega)
            have hpl := hid (fun W => placeOf_any g ks.length c hpos W)
            have hpl' := hid (fun W => placeOf_any g' ks'.length c' (by rw [← hll.out]; exact hpos) W)
            go_wp2_with fail
            go_cut [10] from 17 to 73 (fun s10 wx => R10 w gn N cn mb (cells8 (P ++ (p, q) :: Q')) kvs bl br [.int .i64 k, .int .i64 n, sv s, .slice (some ⟨g, 0, none⟩) ks.length c] [.int .i64 k, .int .i64 n, sv s, .slice (some ⟨g', 0, none⟩) ks'.length c'] g ks.length g' ks'.length s10 wx)
            case first =>
              have a3o := fun o => alloc_some a3 o
              have b3o := fun o => alloc_some b3 o
              have hbr := hBr2.out.lt
              clear hbd hZ qm hE hlen hcl hv hv' hm hm' hK hK' hB hB' htk htk' hap hap' hlo hhi hlo' hhi' ht ht' hpown hqown t0 t1 hNb hmeas hcnt hcl2 hbd1 hpos hKn hKn' hs hs' hro a0 a1 a2 b0 b1 b2 hl hl' hcp hS1 hBl hBr hQ
              go_region_with (first
                | (go_at_call_of 27 (Value.slice (some ⟨g, 0, none⟩) ks.length c); refine (hpl.out _).mono ?_; rintro e w3 ⟨rfl, hb3⟩; have b3w : Below w2.heap.size w2 w3 := (by first | exact (Below.refl _ w2).drew.trans hb3 | exact (((Below.refl _ w2).alloc (Nat.le_refl _) _).drew).trans (hb3.mono (by simp))); have d3 : w3.cell? ⟨br, 3, none⟩ = some (.slice (some ⟨g', 0, none⟩) ks'.length c') := cell_next2 b3w b3; have d3o := fun o => alloc_some d3 o; have k3 := fun (j : Nat) (h : w2.heap.size < _) => hb3.cell (p := ⟨w2.heap.size, j, none⟩) h; have f3 := fun (j : Nat) (h : w2.heap.size < _) => World.frozen?_of_block (a := ⟨w2.heap.size, j, none⟩) (hb3.block w2.heap.size h); have l3 := fun (h : w2.heap.size < _) => Nat.lt_of_lt_of_le h hb3.size)
                | (go_at_call_of 27 (Value.slice (some ⟨g', 0, none⟩) ks'.length c'); refine (hpl'.out _).mono ?_; rintro e w4 ⟨rfl, hb4⟩; have b4w : Below w2.heap.size w2 w4 := (by first | exact b3w.trans (hb4.mono b3w.size) | exact (b3w.alloc b3w.size _).trans (hb4.mono (by have := b3w.size; simp; omega))); have k4 := fun (j : Nat) (h : w2.heap.size < _) => hb4.cell (p := ⟨w2.heap.size, j, none⟩) h; have f4 := fun (j : Nat) (h : w2.heap.size < _) => World.frozen?_of_block (a := ⟨w2.heap.size, j, none⟩) (hb4.block w2.heap.size h); have k5 := fun (j : Nat) (h : w3.heap.size < _) => hb4.cell (p := ⟨w3.heap.size, j, none⟩) h; have f5 := fun (j : Nat) (h : w3.heap.size < _) => World.frozen?_of_block (a := ⟨w3.heap.size, j, none⟩) (hb4.block w3.heap.size h)))
              all_goals
                go_wp2_with fail
                go_meet
                first
                | exact r10_new b4w hS2.out hBl2.out hBr2.out
                | exact r10_set b4w b3w.size (blk_next hb4 (Blk.new w3 54 Z2)) hS2.out hBl2.out hBr2.out
                | exact r10_set b4w (Nat.le_refl _) (blk_next hb4 (blk_next hb3 (Blk.new w2 54 Z2))) hS2.out hBl2.out hBr2.out
            case rest =>
              obtain ⟨kb, rfl, hS3, hBl3, hBr3, hKb⟩ := hcut.ex
              clear hcut a0 a1 a2 a3 b0 b1 b2 b3 hBl2 hBr2 hS2 hpl hpl' hBl hBr hS1 hro
              generalize wc = W3 at *
              have hkz : KeysE w (p :: Q'.map Prod.fst) kvs := hE.out.keys
              have hpz : Pend w (p :: Q'.map Prod.fst) := hE.out.pend
              have hnew := hid (new_kids2 (n := ks.length) (g' := g') (n' := ks'.length) hkz hB hlo hhi hS3.old)
              have hE' := hid (hE.out.step ht ht' hm hm' hK hK' (by rw [hl, hl', ← hll.out]) (keysE_kids (u := .bool true) (n := ks.length) (g' := g') (n' := ks'.length) hpz hkz hK hB hlo hhi hap))
              have hS3m := hS3.map
              obtain ⟨m0, m1, m2, m3⟩ := four hKb
              replace hS3 := hid hS3
              clear hkz hpz hap hap' hlo hhi hlo' hhi'
              go_wp2_with (first
                | (at_lookup; refine wpList_look (by rfl) _ _ false rfl Tryz.underlying47 wideE mb kvs hS3m (pkey2 g ks.length g' ks'.length) hnew.out (.bool false) (zeroB _) rfl rfl ?_)
                | (at_mapUpdate; refine wpList_upd rfl _ _ _ (Or.inr rfl) Tryz.underlying47 wideE mb kvs hS3m (pkey2 g ks.length g' ks'.length) (.bool true) hnew.out rfl rfl rfl ?_; intro w5 hm5 hg5 _; have hS5 := hid (hS3.out.map_ hm5 hg5); have hBl5 := blk_obj2 hS3m hg5 hBl3; have hBr5 := blk_obj2 hS3m hg5 hBr3; have a3 : w5.cell? ⟨bl, 3, none⟩ = some (.slice (some ⟨g, 0, none⟩) ks.length c) := hBl5.cell 3; replace hBl5 := hid hBl5; replace hBr5 := hid hBr5; clear hm5 hg5))
              clear m0 m1 m2 m3 hKb hnew hS3m
              go_loopw [6, 56] (fun b i wr => ∃ m : Nat, m ≤ ks.length ∧ i = .int .i64 (m : Nat) ∧ ESt w wr b mb (cells8 (P ++ (p, q) :: Q') ++ cells8 ((Ks.zip Ks').take m)) (N + m) (kvs ++ [(pkey2 g ks.length g' ks'.length, .bool true)]) ∧ Blk wr bl EE [.int .i64 k, .int .i64 n, sv s, .slice (some ⟨g, 0, none⟩) ks.length c] ∧ Blk wr br EE [.int .i64 k, .int .i64 n, sv s, .slice (some ⟨g', 0, none⟩) ks'.length c']) (fun _ i _ => ks.length - (Go.RowKit.intOf i).toNat)
              case atStart => exact ⟨0, Nat.zero_le _, rfl, hS5.out.re (by simp [cells8]) rfl, hBl5.out, hBr5.out⟩
              case round =>
                obtain ⟨m, hmN, rfl, hS6, hBl6, hBr6⟩ := hrel
                clear hS5 hBl5 hBr5 a3
                have hlz : (Ks.zip Ks').length = ks.length := by rw [List.length_zip, hl, hl', ← hll.out, Nat.min_self]
                by_cases hlt : m < ks.length
                · have t2 : decide ((m : Int) < (ks.length : Int)) = true := decide_eq_true (by omega)
                  have t3 : (m : Int) < (ks.length : Int) := by omega
                  have t4 : (m : Int) < (ks'.length : Int) := by rw [← hll.out]; omega
                  have hmK : m < Ks.length := by omega
                  have hmK' : m < Ks'.length := by rw [hl', ← hll.out]; exact hlt
                  obtain ⟨ka, na, sa, Aa, la, ca, ea⟩ := OwnE.form (hK.pend.own Ks[m] (List.getElem_mem _))
                  obtain ⟨kz, nz, sz, Az, lz, cz, ez⟩ := OwnE.form (hK'.pend.own Ks'[m] (List.getElem_mem _))
                  have hc1 := kid_cells hK.pend.own htk (hB.below hS6.old hB.lt) hmK ea
                  have hc2 := kid_cells hK'.pend.own htk' (hB'.below hS6.old hB'.lt) hmK' ez
                  obtain ⟨c0, c1, c2, c3⟩ := hc1
                  obtain ⟨d0, d1, d2, d3⟩ := hc2
                  have hst : cells8 ((Ks.zip Ks').take m) ++ [.int .i64 ka, .int .i64 na, sv sa, .slice Aa la ca, .int .i64 kz, .int .i64 nz, sv sz, .slice Az lz cz] = cells8 ((Ks.zip Ks').take (m + 1)) := by
                    rw [List.take_succ_eq_append_getElem (by omega), cells8_append, List.getElem_zip]
                    simp only [cells8, List.flatMap_cons, List.flatMap_nil, List.append_nil, ea, ez]
                    rfl
                  replace hst := hid hst
                  replace hlz := hid hlz
                  have a3 : wr.cell? ⟨bl, 3, none⟩ = some (.slice (some ⟨g, 0, none⟩) ks.length c) := hBl6.cell 3
                  have b3 : wr.cell? ⟨br, 3, none⟩ = some (.slice (some ⟨g', 0, none⟩) ks'.length c') := hBr6.cell 3
                  have hba : Below wr.heap.size wr (wr.alloc (.cells #[.int .i64 ka, .int .i64 na, sv sa, .slice Aa la ca, .int .i64 kz, .int .i64 nz, sv sz, .slice Az lz cz] PT)).drew := (box_below wr (.cells #[.int .i64 ka, .int .i64 na, sv sa, .slice Aa la ca, .int .i64 kz, .int .i64 nz, sv sz, .slice Az lz cz] PT)).drew
                  have hSa := hid (hS6.below_ hba)
                  have hBla := hid (hBl6.below hba hBl6.lt)
                  have hBra := hid (hBr6.below hba hBr6.lt)
                  have hnw := hid (new_cells wr PT [.int .i64 ka, .int .i64 na, sv sa, .slice Aa la ca, .int .i64 kz, .int .i64 nz, sv sz, .slice Az lz cz])
                  clear hmK hmK' ea ez hS6 hBl6 hBr6 hba
                  go_wp2_with fail
                  go_region_law (refine step_app8 rfl (.tmp 59) (.tmp 71) rfl w.heap.size i0 hZ.out.1 hZ.out.2.1 hZ.out.2.2.1 hZ.out.2.2.2 _ (N + m) _ rfl hSa.out.nodes ⟨wr.heap.size, 0, none⟩ [.int .i64 ka, .int .i64 na, sv sa, .slice Aa la ca, .int .i64 kz, .int .i64 nz, sv sz, .slice Az lz cz] rfl rfl hnw.out (by intro u hu; simp at hu; rcases hu with rfl | rfl | rfl | rfl | rfl | rfl | rfl | rfl <;> rfl) (by omega) hSa.out.old.size ?_; intro v7 w7 hown7 hg7)
                  all_goals
                    have hS7 := hid (hSa.out.node_ hown7 hg7)
                    have hBl7 := hid (hSa.out.keep hg7 hBla.out)
                    have hBr7 := hid (hSa.out.keep hg7 hBra.out)
                    clear hown7 hg7
                    go_wp2_with fail
                    exact ⟨⟨m + 1, hlt, by go_num, hS7.out.re (by rw [List.append_assoc, hst.out]) (by omega), hBl7.out, hBr7.out⟩, by simp [Go.RowKit.intOf]; omega⟩
                · obtain rfl : m = ks.length := by omega
                  have t2 : decide ((ks.length : Int) < (ks.length : Int)) = false := decide_eq_false (by omega)
                  rw [List.take_of_length_le (by rw [hlz]; exact Nat.le_refl _), ← cells8_append] at hS6
                  replace hS6 := hid hS6
                  replace hlz := hid hlz
                  go_wp2_with fail
                  go_roundw
                  case rel => exact ⟨P ++ [(p, q)], Q' ++ Ks.zip Ks', _, by simp, hS6.out.re (by simp) (by rw [hlen.out, List.length_append, List.length_append, hlz.out]; simp; omega), hE'.out⟩
                  case measure => simp [Go.RowKit.intOf]; omega
theorem iequal_own {lo hi lo' hi' : Nat} {v v' : Value} {t t' : T} (w : World) (h : OwnX lo hi w v t) (h' : OwnX lo' hi' w v' t') (hz : szT t ≤ 1048576) (_ : szT t' ≤ 1048576) : Calls Tryz.prog 12 #[v, v'] w fun e w' => e = .returned (.bool (eqT t t')) ∧ Below w.heap.size w w' :=
  iequal t t' v v' lo hi lo' hi' w h h' (by have := cnt_sz t; omega)
end Go.Proofs.YteglampoceponaaGreatDoor.Tr

/- Chapter 4: two expressions compared, in the exact law's words. -/
set_option maxRecDepth 100000
namespace Go.Proofs.YteglampoceponaaGreatDoor.Tr
open Go.RowKit Go.Lib Go.Proofs.YteglampoceponaaGreatDoor.Com Go.Proofs.YteglampoceponaaGreatDoor.Mem Go.Proofs.YteglampoceponaaGreatDoor.Os
end Go.Proofs.YteglampoceponaaGreatDoor.Tr
