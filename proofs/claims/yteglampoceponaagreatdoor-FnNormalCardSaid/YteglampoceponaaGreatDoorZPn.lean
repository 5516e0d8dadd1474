/- Chapter 4: nodes that are still to be visited, and the places of their kids. -/
import Derived.Test.YteglampoceponaaGreatDoorZEx4
import Derived.Test.YteglampoceponaaGreatDoorZIm
import Derived.Test.YteglampoceponaaGreatDoorZTr6
import Derived.Test.YteglampoceponaaGreatDoorZC2s
import Derived.Maps.OwnOps
set_option maxRecDepth 100000
namespace Go.Proofs.YteglampoceponaaGreatDoor.Tr
open Go.RowKit Go.Lib Go.Sort Go.Proofs.YteglampoceponaaGreatDoor.Com Go.Proofs.YteglampoceponaaGreatDoor.Mem Go.Proofs.YteglampoceponaaGreatDoor.Os Go.Proofs.YteglampoceponaaGreatDoor.Im

/-- a node to visit: its value, what it reads as, and the blocks of its kids -/
structure PN where
  v : Value
  t : T
  lo : Nat
  hi : Nat
abbrev EE : TypeId := 26
/-- a value's cells -/
def cells4 : Value → List Value
  | .agg cs => cs.toList
  | _ => []
def cellsOf (Q : List PN) : List Value := Q.flatMap fun p => cells4 p.v
theorem cellsOf_append (P Q : List PN) : cellsOf (P ++ Q) = cellsOf P ++ cellsOf Q := by simp [cellsOf]
/-- they are the call's own, each in blocks of its own -/
structure Pend (w : World) (Q : List PN) : Prop where
  own : ∀ p ∈ Q, OwnX p.lo p.hi w p.v p.t
  dis : Q.Pairwise fun p q => p.hi ≤ q.lo ∨ q.hi ≤ p.lo
theorem own_cells {w : World} {p : PN} (h : OwnX p.lo p.hi w p.v p.t) : (cells4 p.v).length = 4 := by
  obtain ⟨k, n, s, A, l, c, e⟩ := OwnE.form h
  rw [e]; rfl
theorem cellsOf_len {w : World} {Q : List PN} (h : ∀ p ∈ Q, OwnX p.lo p.hi w p.v p.t) : (cellsOf Q).length = Q.length * 4 := by
  induction Q with
  | nil => rfl
  | cons p r ih =>
    have e : cellsOf (p :: r) = cells4 p.v ++ cellsOf r := rfl
    rw [e, List.length_append, own_cells (h p (by simp)), ih fun q hq => h q (by simp [hq]), List.length_cons]; omega
/-- the cells of the node behind these -/
theorem cellsOf_at {P Q : List PN} {p : PN} {k n : Int} {s : List UInt8} {A : Option Addr} {l c : Nat} (hP : (cellsOf P).length = P.length * 4) (e : p.v = nv k n s A l c) :
    (cellsOf (P ++ p :: Q))[P.length * 4]? = some (.int .i64 k) ∧ (cellsOf (P ++ p :: Q))[P.length * 4 + 1]? = some (.int .i64 n) ∧ (cellsOf (P ++ p :: Q))[P.length * 4 + 2]? = some (sv s) ∧ (cellsOf (P ++ p :: Q))[P.length * 4 + 3]? = some (.slice A l c) := by
  have e1 : cellsOf (P ++ p :: Q) = cellsOf P ++ ([.int .i64 k, .int .i64 n, sv s, .slice A l c] ++ cellsOf Q) := by
    rw [cellsOf_append]
    show cellsOf P ++ (cells4 p.v ++ cellsOf Q) = _
    rw [e]; rfl
  rw [e1]
  refine ⟨?_, ?_, ?_, ?_⟩ <;> rw [List.getElem?_append_right (by omega), hP]
  · rw [Nat.sub_self]; rfl
  · rw [Nat.add_sub_cancel_left]; rfl
  · rw [Nat.add_sub_cancel_left]; rfl
  · rw [Nat.add_sub_cancel_left]; rfl

/-- how the kids lie -/
structure KidsAt (w : World) (lo hi : Nat) (A : Option Addr) (c : Nat) (Ks : List PN) : Prop where
  pend : Pend w Ks
  in_ : ∀ p ∈ Ks, lo ≤ p.lo ∧ p.hi ≤ hi
  row : Ks ≠ [] → ∃ g cs, A = some ⟨g, 0, none⟩ ∧ lo ≤ g ∧ g < hi ∧ Blk w g EE cs ∧ cs.take (Ks.length * 4) = cellsOf Ks ∧ ∀ p ∈ Ks, g < p.lo ∨ p.hi ≤ g
theorem take4 {cs : List Value} {Ks : List PN} {vs : Nat → Value} (h : RowsAt cs Ks.length vs) (hv : ∀ j p, Ks[j]? = some p → p.v = vs j) : cs.take (Ks.length * 4) = cellsOf Ks := by
  induction Ks generalizing cs vs with
  | nil => simp [cellsOf]
  | cons p r ih =>
    obtain ⟨c0, c1, c2, c3, e, h0, h1, h2, h3⟩ := h 0 (by simp)
    have hp : p.v = vs 0 := hv 0 p rfl
    have hr := ih (cs := cs.drop 4) (vs := fun j => vs (j + 1)) (fun j hj => by
      obtain ⟨d0, d1, d2, d3, e', g0, g1, g2, g3⟩ := h (j + 1) (by simp; omega)
      refine ⟨d0, d1, d2, d3, e', ?_, ?_, ?_, ?_⟩ <;> rw [List.getElem?_drop]
      · rw [← g0]; congr 1; omega
      · rw [← g1]; congr 1; omega
      · rw [← g2]; congr 1; omega
      · rw [← g3]; congr 1; omega) (fun j q hq => hv (j + 1) q hq)
    have e4 : cs = c0 :: c1 :: c2 :: c3 :: cs.drop 4 := by
      match cs, h0, h1, h2, h3 with
      | [], h0, _, _, _ => cases h0
      | [_], _, h1, _, _ => cases h1
      | [_, _], _, _, h2, _ => cases h2
      | [_, _, _], _, _, _, h3 => cases h3
      | a :: b :: c :: d :: r, h0, h1, h2, h3 =>
        simp at h0 h1 h2 h3
        rw [h0, h1, h2, h3]; rfl
    show cs.take ((r.length + 1) * 4) = cells4 p.v ++ cellsOf r
    rw [hp, e, ← hr]
    conv => lhs; rw [e4]
    rw [show (r.length + 1) * 4 = r.length * 4 + 1 + 1 + 1 + 1 by omega]
    simp only [List.take_succ_cons]
    rfl
/-- a node opened -/
theorem own_open {w : World} {lo hi : Nat} {v : Value} {k n : Int} {s : List UInt8} {ks : List T} (h : OwnX lo hi w v (.mk k n s ks)) :
    ∃ A c Ks, v = nv k n s A ks.length c ∧ s.length ≤ 9223372036854775807 ∧ Ks.map PN.t = ks ∧ KidsAt w lo hi A c Ks := by
  cases h with
  | mk A c vs ls hs hsl hkl hA hin hdis hk =>
    let Ks : List PN := ks.mapIdx fun j t => ⟨vs j, t, ls j, hs j⟩
    have hlen : Ks.length = ks.length := List.length_mapIdx
    have hat : ∀ (j : Nat) (p : PN), Ks[j]? = some p → ∃ t, ks[j]? = some t ∧ p = ⟨vs j, t, ls j, hs j⟩ := by
      intro j p hp
      rw [List.getElem?_mapIdx] at hp
      obtain ⟨t, ht, e⟩ := Option.map_eq_some_iff.1 hp
      exact ⟨t, ht, e.symm⟩
    refine ⟨A, c, Ks, rfl, hsl, ?_, KidsAt.mk (Pend.mk (fun p hp => ?_) ?_) (fun p hp => ?_) (fun hne => ?_)⟩
    · apply List.ext_getElem?
      intro j
      rw [List.getElem?_map, List.getElem?_mapIdx]
      cases ks[j]? <;> rfl
    · obtain ⟨j, hj⟩ := List.getElem?_of_mem hp
      obtain ⟨t, ht, rfl⟩ := hat j p hj
      exact hk j t ht
    · rw [List.pairwise_iff_getElem]
      intro i j hi hj hij
      obtain ⟨t, ht, e⟩ := hat i _ (List.getElem?_eq_getElem hi)
      obtain ⟨u, hu, e'⟩ := hat j _ (List.getElem?_eq_getElem hj)
      rw [e, e']
      exact hdis i j hij (by omega)
    · obtain ⟨j, hj⟩ := List.getElem?_of_mem hp
      obtain ⟨t, ht, rfl⟩ := hat j p hj
      exact hin j (lt_of_get ht)
    · have : ks.length ≠ 0 := by
        intro h0
        rw [h0] at hlen
        exact hne (List.eq_nil_of_length_eq_zero hlen)
      obtain ⟨g, cs, e, h1, h2, hb, hr, hd⟩ := hA this
      refine ⟨g, cs, e, h1, h2, hb, take4 (by rw [hlen]; exact hr) (fun j p hp => ?_), fun p hp => ?_⟩
      · obtain ⟨t, _, rfl⟩ := hat j p hp; rfl
      · obtain ⟨j, hj⟩ := List.getElem?_of_mem hp
        obtain ⟨t, ht, rfl⟩ := hat j p hj
        exact hd j (lt_of_get ht)
theorem pend_tail {w : World} {p : PN} {Q : List PN} (h : Pend w (p :: Q)) : Pend w Q := ⟨fun q hq => h.own q (by simp [hq]), (List.pairwise_cons.1 h.dis).2⟩
theorem pend_perm {w : World} {P Q : List PN} (h : Pend w P) (hp : P.Perm Q) : Pend w Q := ⟨fun q hq => h.own q (hp.mem_iff.2 hq), (hp.pairwise_iff fun h => h.symm).1 h.dis⟩
theorem pend_append {w : World} {P Q : List PN} (h : Pend w P) (k : Pend w Q) (hd : ∀ p ∈ P, ∀ q ∈ Q, p.hi ≤ q.lo ∨ q.hi ≤ p.lo) : Pend w (P ++ Q) :=
  ⟨fun p hp => (List.mem_append.1 hp).elim (h.own p) (k.own p), List.pairwise_append.2 ⟨h.dis, k.dis, hd⟩⟩
/-- a node's kids take its place -/
theorem pend_kids {w : World} {p : PN} {Q Ks : List PN} {A : Option Addr} {c : Nat} (h : Pend w (p :: Q)) (hk : KidsAt w p.lo p.hi A c Ks) : Pend w (Q ++ Ks) := by
  refine pend_append (pend_tail h) hk.pend fun q hq r hr => ?_
  have h1 := (List.pairwise_cons.1 h.dis).1 q hq
  have h2 := hk.in_ r hr
  omega

/-! places -/
/-- a place as a key -/
abbrev pkey (g n : Nat) : Value := .agg #[.pointer (some ⟨g, 0, none⟩), .int .i64 n]
/-- the keys lie in blocks of their own, none of them where these nodes lie -/
def KeysOk (w : World) (Q : List PN) (kvs : List (Value × Value)) : Prop := ∀ p ∈ kvs, ∃ g n cs, p.1 = pkey g n ∧ Blk w g EE cs ∧ ∀ q ∈ Q, g < q.lo ∨ q.hi ≤ g
theorem keys_go {w w' : World} {Q : List PN} {kvs : List (Value × Value)} (h : KeysOk w Q kvs) (hb : Below w.heap.size w w') : KeysOk w' Q kvs := fun p hp => by
  obtain ⟨g, n, cs, e, hB, hq⟩ := h p hp
  exact ⟨g, n, cs, e, hB.below hb hB.lt, hq⟩
theorem wideP : WideK Tryz.prog 52 := ⟨_, Tryz.underlying52, fun _ _ => rfl⟩
theorem check_place (g n : Nat) (w : World) (em : Bool) : (Instr.checkKey em 10000 52 (pkey g n)).run Tryz.prog w = .ok () w := by kernel_rfl
theorem ne_placeD (d : Nat) {g n g' n' : Nat} {w : World} {cs cs' : List Value} (hg : Blk w g EE cs) (hg' : Blk w g' EE cs') (hne : g ≠ g') : (Op.equalIn (d + 2) 52 (pkey g n) (pkey g' n')).run Tryz.prog w = .ok false w := by
  have hs : (sameAddr ⟨g, 0, none⟩ ⟨g', 0, none⟩).run Tryz.prog w = .ok false w := run_sameAddr_other w (fun e => hne (by cases e; rfl)) hg hg'
  have hp : Tryz.prog.underlying 50 = some (.pointer EE) := Tryz.underlying50
  have hz : ∃ i, Tryz.prog.info? EE = some i ∧ i.size ≠ 0 := by
    obtain ⟨i, hi, _, h1, _⟩ := info_parts zeroE
    exact ⟨i, hi, by omega⟩
  obtain ⟨i, hi, hsz⟩ := hz
  have he : ∀ d : Nat, (Op.equalIn (d + 1) 50 (.pointer (some ⟨g, 0, none⟩)) (.pointer (some ⟨g', 0, none⟩))).run Tryz.prog w = .ok false w := fun d => by
    simp [Op.equalIn, run_underlying hp, sizeOf, typeInfo, hi, hsz, hs]
  rw [run_equalIn_struct w (d + 1) 52 _ _ (by kernel_rfl) (by kernel_rfl)]
  have hf : ∃ f r, (Tryz.prog.fieldsOf 52).toList = f :: r ∧ f.name ≠ "_" ∧ f.type = 50 ∧ f.offset = 0 := ⟨_, _, rfl, by decide, rfl, rfl⟩
  obtain ⟨f, r, e1, e2, e3, e4⟩ := hf
  rw [e1]
  have hpa : ∀ x y : Value, (part 50 #[x, y] 0).run Tryz.prog w = .ok x w := fun x y => by kernel_rfl
  unfold Op.eqFields
  rw [if_pos e2, e3, e4]
  simp only [Sem.run_bind, hpa, Result.andThen_ok, he d]
  simp
theorem ne_place {g n g' n' : Nat} {w : World} {cs cs' : List Value} (hg : Blk w g EE cs) (hg' : Blk w g' EE cs') (hne : g ≠ g') : (Op.equal 52 (pkey g n) (pkey g' n')).run Tryz.prog w = .ok false w := ne_placeD 9998 hg hg' hne
theorem new_place {g n : Nat} {w : World} {cs : List Value} {kvs : List (Value × Value)} (hg : Blk w g EE cs) (h : ∀ p ∈ kvs, ∃ g' n' cs', p.1 = pkey g' n' ∧ Blk w g' EE cs' ∧ g' ≠ g) : New Tryz.prog w 52 (pkey g n) kvs :=
  ⟨fun w em => check_place g n w em, fun p hp => by
    obtain ⟨g', n', cs', e, hB, hne⟩ := h p hp
    rw [e]
    exact ne_place hg hB (Ne.symm hne)⟩
/-- the key of a pending node's kids is new -/
theorem new_kids {w : World} {p : PN} {Q : List PN} {kvs : List (Value × Value)} {g n : Nat} {cs : List Value} (hk : KeysOk w (p :: Q) kvs) (hg : Blk w g EE cs) (h1 : p.lo ≤ g) (h2 : g < p.hi) : New Tryz.prog w 52 (pkey g n) kvs :=
  new_place hg fun q hq => by
    obtain ⟨g', n', cs', e, hB, ha⟩ := hk q hq
    have := ha p (by simp)
    exact ⟨g', n', cs', e, hB, by omega⟩
/-- and it stays apart from what is then to be visited -/
theorem keys_kids {w : World} {p : PN} {Q Ks : List PN} {A : Option Addr} {c : Nat} {kvs : List (Value × Value)} {g n : Nat} {cs : List Value} {u : Value} (hp : Pend w (p :: Q)) (hk : KeysOk w (p :: Q) kvs) (hK : KidsAt w p.lo p.hi A c Ks) (hg : Blk w g EE cs) (h1 : p.lo ≤ g) (h2 : g < p.hi)
    (ha : ∀ q ∈ Ks, g < q.lo ∨ q.hi ≤ g) : KeysOk w (Q ++ Ks) (kvs ++ [(pkey g n, u)]) := by
  intro q hq
  rcases List.mem_append.1 hq with hq | hq
  · obtain ⟨g', n', cs', e, hB, hx⟩ := hk q hq
    refine ⟨g', n', cs', e, hB, fun r hr => ?_⟩
    rcases List.mem_append.1 hr with hr | hr
    · exact hx r (by simp [hr])
    · have := hx p (by simp)
      have := hK.in_ r hr
      omega
  · rw [List.mem_singleton] at hq; subst hq
    refine ⟨g, n, cs, rfl, hg, fun r hr => ?_⟩
    rcases List.mem_append.1 hr with hr | hr
    · have := (List.pairwise_cons.1 hp.dis).1 r hr
      omega
    · exact ha r hr
set_option maxHeartbeats 1000000 in
theorem placeOf_any (g l c : Nat) (hl : 0 < l) (w : World) : Calls Tryz.prog 27 #[.slice (some ⟨g, 0, none⟩) l c] w fun e w' => e = .returned (pkey g l) ∧ Below w.heap.size w w' := by
  have t0 : (0 : Int) < (l : Int) := by omega
  go_enter Tryz.func27, Tryz.ntmps27
  go_wp2_with fail
  refine bodyPost_ret (results_cell_row Tryz.results27 _ _ w.heap.size 52 _ (0, 0) _ rfl (heap_alloc_new w _) Tryz.underlying52 rfl (by kernel_rfl)) rfl ⟨rfl, (Below.refl _ _).alloc (Nat.le_refl _) _⟩
end Go.Proofs.YteglampoceponaaGreatDoor.Tr

/- Chapter 4: the program's list of an expression's variables. -/
set_option maxRecDepth 100000
namespace Go.Proofs.YteglampoceponaaGreatDoor.Tr
open Go.RowKit Go.Lib Go.Sort Go.Proofs.YteglampoceponaaGreatDoor.Com Go.Proofs.YteglampoceponaaGreatDoor.Mem Go.Proofs.YteglampoceponaaGreatDoor.Os Go.Proofs.YteglampoceponaaGreatDoor.Im Go.Proofs.YteglampoceponaaGreatDoor.Ow Go.Proofs.YteglampoceponaaGreatDoor.Nm Go.Proofs.YteglampoceponaaGreatDoor.C2

def cntQ (Q : List PN) : Nat := (Q.map fun p => cntT p.t).sum
theorem cntQ_cons (p : PN) (Q : List PN) : cntQ (p :: Q) = cntT p.t + cntQ Q := by simp [cntQ]
theorem cntQ_append (P Q : List PN) : cntQ (P ++ Q) = cntQ P + cntQ Q := by simp [cntQ]
theorem cntQ_kids {Ks : List PN} {ks : List T} (h : Ks.map PN.t = ks) : cntQ Ks = cntK ks := by
  subst h; unfold cntQ cntK; rw [List.map_map]; rfl
theorem cntQ_len (Q : List PN) : Q.length ≤ cntQ Q := by
  induction Q with
  | nil => simp
  | cons p r ih => rw [cntQ_cons]; have := cnt_pos p.t; simp; omega
theorem varsK_mem {Ks : List PN} {ks : List T} (h : Ks.map PN.t = ks) (x : List UInt8) : x ∈ varsK ks ↔ ∃ q ∈ Ks, x ∈ varsT q.t := by
  subst h
  unfold varsK
  rw [List.map_map, List.mem_flatten]
  constructor
  · rintro ⟨l, hl, hx⟩
    obtain ⟨q, hq, rfl⟩ := List.mem_map.1 hl
    exact ⟨q, hq, hx⟩
  · rintro ⟨q, hq, hx⟩
    exact ⟨_, List.mem_map.2 ⟨q, hq, rfl⟩, hx⟩
/-- what is known of the nodes that have been visited, P, and that have not, Q -/
structure GInv (w : World) (t : T) (P Q : List PN) (L : List (List UInt8)) (kvs : List (Value × Value)) : Prop where
  done : ∀ p ∈ P, OwnX p.lo p.hi w p.v p.t
  pend : Pend w Q
  keys : KeysOk w Q kvs
  cnt : P.length + cntQ Q = cntT t
  few : L.length ≤ P.length
  vars : ∀ x, x ∈ varsT t ↔ x ∈ L ∨ ∃ q ∈ Q, x ∈ varsT q.t
def addV (L : List (List UInt8)) (k : Int) (s : List UInt8) : List (List UInt8) := if k = 2 then L ++ [s] else L
theorem GInv.step {w : World} {t : T} {P Q Ks : List PN} {p : PN} {L : List (List UInt8)} {kvs kvs' : List (Value × Value)} {k n : Int} {s : List UInt8} {ks : List T} {A : Option Addr} {c : Nat}
    (h : GInv w t P (p :: Q) L kvs) (ht : p.t = .mk k n s ks) (hm : Ks.map PN.t = ks) (hk : KidsAt w p.lo p.hi A c Ks) (hkv : KeysOk w (Q ++ Ks) kvs') : GInv w t (P ++ [p]) (Q ++ Ks) (addV L k s) kvs' := by
  refine ⟨fun q hq => ?_, pend_kids h.pend hk, hkv, ?_, ?_, fun x => ?_⟩
  · rcases List.mem_append.1 hq with hq | hq
    · exact h.done q hq
    · rw [List.mem_singleton] at hq; subst hq; exact h.pend.own q (by simp)
  · have h1 := h.cnt
    rw [cntQ_cons, ht, cntT_mk] at h1
    rw [cntQ_append, cntQ_kids hm, List.length_append, List.length_singleton]; omega
  · have h1 := h.few
    unfold addV
    split
    · simp; omega
    · simp; omega
  · rw [h.vars x]
    have hp : x ∈ varsT p.t ↔ (k = 2 ∧ x = s) ∨ ∃ q ∈ Ks, x ∈ varsT q.t := by
      rw [ht, varsT_mk, List.mem_append, varsK_mem hm]
      by_cases h2 : k = 2
      · rw [if_pos h2]; simp [h2]
      · rw [if_neg h2]; simp [h2]
    have hA : x ∈ addV L k s ↔ x ∈ L ∨ (k = 2 ∧ x = s) := by
      unfold addV
      by_cases h2 : k = 2
      · rw [if_pos h2]; simp [h2]
      · rw [if_neg h2]; simp [h2]
    have e1 : (∃ q ∈ p :: Q, x ∈ varsT q.t) ↔ x ∈ varsT p.t ∨ ∃ q ∈ Q, x ∈ varsT q.t := by simp
    have e2 : (∃ q ∈ Q ++ Ks, x ∈ varsT q.t) ↔ (∃ q ∈ Q, x ∈ varsT q.t) ∨ ∃ q ∈ Ks, x ∈ varsT q.t := by simp [or_and_right, exists_or]
    rw [hA, e1, e2, hp]
    generalize (∃ q ∈ Q, x ∈ varsT q.t) = a1
    generalize (∃ q ∈ Ks, x ∈ varsT q.t) = a2
    generalize (k = 2 ∧ x = s) = a3
    generalize (x ∈ L) = a4
    constructor
    · rintro (g | (g | g) | g)
      · exact Or.inl (Or.inl g)
      · exact Or.inl (Or.inr g)
      · exact Or.inr (Or.inr g)
      · exact Or.inr (Or.inl g)
    · rintro ((g | g) | (g | g))
      · exact Or.inl g
      · exact Or.inr (Or.inl (Or.inl g))
      · exact Or.inr (Or.inr g)
      · exact Or.inr (Or.inl (Or.inr g))
theorem keys_tail {w : World} {p : PN} {Q : List PN} {kvs : List (Value × Value)} (h : KeysOk w (p :: Q) kvs) : KeysOk w Q kvs := fun q hq => by
  obtain ⟨g, n, cs, e, hB, ha⟩ := h q hq
  exact ⟨g, n, cs, e, hB, fun r hr => ha r (by simp [hr])⟩
theorem GInv.end_ {w : World} {t : T} {P : List PN} {L : List (List UInt8)} {kvs : List (Value × Value)} (h : GInv w t P [] L kvs) : sortU L = sortU (varsT t) :=
  asc_ext (sortU_asc _) (sortU_asc _) fun x => by rw [mem_sortU, mem_sortU, h.vars x]; simp

/-- the two slices that grow, and the map -/
structure VSt (w wr : World) (a b : Value) (mb : Nat) (L : List (List UInt8)) (cs : List Value) (n : Nat) (kvs : List (Value × Value)) : Prop where
  names : Grow 9 w wr a (L.map sv)
  nodes : wr.ownsRow w.heap.size EE 4 b n cs
  map : IMap wr mb kvs
  mbge : w.heap.size ≤ mb
theorem VSt.re {w wr : World} {a b : Value} {mb : Nat} {L : List (List UInt8)} {cs cs' : List Value} {n n' : Nat} {kvs : List (Value × Value)} (h : VSt w wr a b mb L cs n kvs) (e1 : cs = cs') (e2 : n = n') : VSt w wr a b mb L cs' n' kvs := by subst e1 e2; exact h
theorem row_obj {w : World} {base e size n : Nat} {v : Value} {xs : List Value} (h : w.ownsRow base e size v n xs) {g : Nat} (hg : v.ownBlock = some g) : base ≤ g ∧ ∃ cur, w.heap[g]? = some (.cells cur e (0, 0)) := by
  rcases h.2 with ⟨rfl, _⟩ | ⟨g', c, cur, rfl, hb, hh, _⟩
  · cases hg
  · cases hg; exact ⟨hb, cur, hh⟩
section
variable {w wr w' : World} {a b : Value} {mb : Nat} {L : List (List UInt8)} {cs : List Value} {n : Nat} {kvs : List (Value × Value)}
theorem VSt.below_ (h : VSt w wr a b mb L cs n kvs) (hb : Below wr.heap.size wr w') : VSt w w' a b mb L cs n kvs :=
  ⟨h.names.below hb (Nat.le_refl _), h.nodes.kept (row := none) ⟨hb.os, hb.tape, hb.output, hb.size, fun k hk _ => hb.block k hk⟩ (by cases b.ownBlock <;> simp), h.map.below hb h.map.lt, h.mbge⟩
theorem VSt.old (h : VSt w wr a b mb L cs n kvs) : Below w.heap.size w wr := h.names.2
theorem VSt.name_ {a' : Value} {L' : List (List UInt8)} (h : VSt w wr a b mb L cs n kvs) (hg : Grow 9 w w' a' (L'.map sv)) (hgb : wr.grownBy w' a.ownBlock) : VSt w w' a' b mb L' cs n kvs := by
  refine ⟨hg, h.nodes.kept hgb ?_, h.map.gb hgb ?_, h.mbge⟩
  · cases hb : b.ownBlock with
    | none => exact Or.inl rfl
    | some g =>
      refine Or.inr fun e => ?_
      obtain ⟨_, c1, h1⟩ := row_obj h.nodes hb
      obtain ⟨_, c2, h2⟩ := row_obj h.names.1 e.symm
      rw [h1] at h2
      injection h2 with h3; injection h3 with _ h4
      revert h4; decide
  · intro e
    obtain ⟨_, c2, h2⟩ := row_obj h.names.1 e.symm
    have := h.map
    unfold IMap at this
    rw [this] at h2; injection h2 with h3; cases h3
theorem VSt.map_ {kvs' : List (Value × Value)} (h : VSt w wr a b mb L cs n kvs) (hm : IMap w' mb kvs') (hgb : wr.grownBy w' (some mb)) : VSt w w' a b mb L cs n kvs' := by
  have hmb := h.mbge
  refine ⟨h.names.gb hgb (fun e => ?_) h.mbge, h.nodes.kept hgb ?_, hm, h.mbge⟩
  · obtain ⟨_, c2, h2⟩ := row_obj h.names.1 e
    have := h.map
    unfold IMap at this
    rw [this] at h2; injection h2 with h3; cases h3
  · cases hb : b.ownBlock with
    | none => exact Or.inl rfl
    | some g =>
      refine Or.inr fun e => ?_
      obtain ⟨_, c1, h1⟩ := row_obj h.nodes hb
      have := h.map
      unfold IMap at this
      cases e
      rw [this] at h1; injection h1 with h3; cases h3
theorem VSt.node_ {b' : Value} {cs' : List Value} {n' : Nat} (h : VSt w wr a b mb L cs n kvs) (hr : w'.ownsRow w.heap.size EE 4 b' n' cs') (hgb : wr.grownBy w' b.ownBlock) : VSt w w' a b' mb L cs' n' kvs := by
  refine ⟨⟨h.names.1.kept hgb ?_, h.names.2.grown hgb h.names.2.size fun g hg => (row_obj h.nodes hg).1⟩, hr, h.map.gb hgb fun e => ?_, h.mbge⟩
  · cases hb : a.ownBlock with
    | none => exact Or.inl rfl
    | some g =>
      refine Or.inr fun e => ?_
      obtain ⟨_, c1, h1⟩ := row_obj h.names.1 hb
      obtain ⟨_, c2, h2⟩ := row_obj h.nodes e.symm
      rw [h1] at h2
      injection h2 with h3; injection h3 with _ h4
      revert h4; decide
  · obtain ⟨_, c2, h2⟩ := row_obj h.nodes e.symm
    have := h.map
    unfold IMap at this
    rw [this] at h2; injection h2 with h3; cases h3
end
theorem cells_one {w : World} {Q : List PN} (h : ∀ p ∈ Q, OwnX p.lo p.hi w p.v p.t) : ∀ u ∈ cellsOf Q, u.oneCell' = true := by
  intro u hu
  obtain ⟨p, hp, hu⟩ := List.mem_flatMap.1 hu
  obtain ⟨k, n, s, A, l, c, e⟩ := OwnE.form (h p hp)
  rw [e] at hu
  simp [cells4] at hu
  rcases hu with rfl | rfl | rfl | rfl <;> rfl
/-- where the nodes' row lies -/
theorem row_some {w : World} {base e size n : Nat} {v : Value} {xs : List Value} (h : w.ownsRow base e size v n xs) (hn : 0 < n) : ∃ g c, v = .slice (some ⟨g, 0, none⟩) n c ∧ ∀ j u, xs[j]? = some u → w.cell? ⟨g, j, none⟩ = some u := by
  rcases h.2 with ⟨_, h0⟩ | ⟨g, c, cur, rfl, hb, hh, _⟩
  · omega
  · refine ⟨g, c, rfl, fun j u hj => ?_⟩
    have := h.cells (g := g) rfl j u hj
    rw [add_zero] at this; exact this
theorem rel_next {w W : World} {t : T} {P Q Ks : List PN} {p : PN} {N mb : Nat} {a b : Value} {L : List (List UInt8)} {kvs : List (Value × Value)} (hN : N = P.length + (Q.length + 1)) (h1 : VSt w W a b mb L (cellsOf (P ++ p :: Q) ++ cellsOf Ks) (N + Ks.length) kvs) (h2 : GInv w t (P ++ [p]) (Q ++ Ks) L kvs) :
    ∃ (P' Q' : List PN) (L' : List (List UInt8)) (kvs' : List (Value × Value)), Value.int .i64 ((P.length : Int) + 1) = Value.int .i64 (P'.length : Nat) ∧ VSt w W a b mb L' (cellsOf (P' ++ Q')) (P'.length + Q'.length) kvs' ∧ GInv w t P' Q' L' kvs' := by
  refine ⟨P ++ [p], Q ++ Ks, L, kvs, by simp, h1.re ?_ ?_, h2⟩
  · rw [← cellsOf_append]; congr 1; simp
  · subst hN; simp; omega
theorem VSt.cell {w wr : World} {a : Value} {gn N cn mb : Nat} {L : List (List UInt8)} {cs : List Value} {n : Nat} {kvs : List (Value × Value)} (h : VSt w wr a (.slice (some ⟨gn, 0, none⟩) N cn) mb L cs n kvs) {j : Nat} {u : Value} (hj : cs[j]? = some u) :
    wr.cell? ⟨gn, j, none⟩ = some u := by
  have := h.nodes.cells (g := gn) rfl j u hj
  rw [add_zero] at this; exact this
theorem row_cells {w : World} {g : Nat} {cs : List Value} {Ks : List PN} (h : cs.take (Ks.length * 4) = cellsOf Ks) (hB : Blk w g EE cs) : ∀ j u, (cellsOf Ks)[j]? = some u → w.cell? ((⟨g, 0, none⟩ : Addr).add j) = some u := by
  intro j u hj
  rw [add_zero, hB.cell]
  rw [← h, List.getElem?_take] at hj
  split at hj
  · exact hj
  · cases hj
theorem zeroB (w : World) : (zeroValue 4).run Tryz.prog w = .ok (.bool false) w := by kernel_rfl

end Go.Proofs.YteglampoceponaaGreatDoor.Tr
