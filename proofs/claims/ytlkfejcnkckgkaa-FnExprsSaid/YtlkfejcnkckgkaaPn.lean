/- Chapter 4: nodes that are still to be visited, and the places of their kids. -/
import Derived.Test.YtlkfejcnkckgkaaEx4
import Derived.Test.YtlkfejcnkckgkaaIm
set_option maxRecDepth 100000
namespace Go.Proofs.Ytlkfejcnkckgkaa.Tr
open Go.RowKit Go.Lib Go.Sort Go.Proofs.Ytlkfejcnkckgkaa.Com Go.Proofs.Ytlkfejcnkckgkaa.Mem Go.Proofs.Ytlkfejcnkckgkaa.Os Go.Proofs.Ytlkfejcnkckgkaa.Im

/-- a node to visit: its value, what it reads as, and the blocks of its kids -/
structure PN where
  v : Value
  t : T
  lo : Nat
  hi : Nat
abbrev EE : TypeId := 26
/-- a value's cells -/
def cells4 : Value → List Value
  | .agg cs => cs.toList
  | _ => []
def cellsOf (Q : List PN) : List Value := Q.flatMap fun p => cells4 p.v
theorem cellsOf_append (P Q : List PN) : cellsOf (P ++ Q) = cellsOf P ++ cellsOf Q := by simp [cellsOf]
/-- they are the call's own, each in blocks of its own -/
structure Pend (w : World) (Q : List PN) : Prop where
  own : ∀ p ∈ Q, OwnX p.lo p.hi w p.v p.t
  dis : Q.Pairwise fun p q => p.hi ≤ q.lo ∨ q.hi ≤ p.lo
theorem own_cells {w : World} {p : PN} (h : OwnX p.lo p.hi w p.v p.t) : (cells4 p.v).length = 4 := by
  obtain ⟨k, n, s, A, l, c, e⟩ := OwnE.form h
  rw [e]; rfl
theorem cellsOf_len {w : World} {Q : List PN} (h : ∀ p ∈ Q, OwnX p.lo p.hi w p.v p.t) : (cellsOf Q).length = Q.length * 4 := by
  induction Q with
  | nil => rfl
  | cons p r ih =>
    have e : cellsOf (p :: r) = cells4 p.v ++ cellsOf r := rfl
    rw [e, List.length_append, own_cells (h p (by simp)), ih fun q hq => h q (by simp [hq]), List.length_cons]; omega
/-- the cells of the node behind these -/
theorem cellsOf_at {P Q : List PN} {p : PN} {k n : Int} {s : List UInt8} {A : Option Addr} {l c : Nat} (hP : (cellsOf P).length = P.length * 4) (e : p.v = nv k n s A l c) :
    (cellsOf (P ++ p :: Q))[P.length * 4]? = some (.int .i64 k) ∧ (cellsOf (P ++ p :: Q))[P.length * 4 + 1]? = some (.int .i64 n) ∧ (cellsOf (P ++ p :: Q))[P.length * 4 + 2]? = some (sv s) ∧ (cellsOf (P ++ p :: Q))[P.length * 4 + 3]? = some (.slice A l c) := by
  have e1 : cellsOf (P ++ p :: Q) = cellsOf P ++ ([.int .i64 k, .int .i64 n, sv s, .slice A l c] ++ cellsOf Q) := by
    rw [cellsOf_append]
    show cellsOf P ++ (cells4 p.v ++ cellsOf Q) = _
    rw [e]; rfl
  rw [e1]
  refine ⟨?_, ?_, ?_, ?_⟩ <;> rw [List.getElem?_append_right (by omega), hP]
  · rw [Nat.sub_self]; rfl
  · rw [Nat.add_sub_cancel_left]; rfl
  · rw [Nat.add_sub_cancel_left]; rfl
  · rw [Nat.add_sub_cancel_left]; rfl

/-- how the kids lie -/
structure KidsAt (w : World) (lo hi : Nat) (A : Option Addr) (c : Nat) (Ks : List PN) : Prop where
  pend : Pend w Ks
  in_ : ∀ p ∈ Ks, lo ≤ p.lo ∧ p.hi ≤ hi
  row : Ks ≠ [] → ∃ g cs, A = some ⟨g, 0, none⟩ ∧ lo ≤ g ∧ g < hi ∧ Blk w g EE cs ∧ cs.take (Ks.length * 4) = cellsOf Ks ∧ ∀ p ∈ Ks, g < p.lo ∨ p.hi ≤ g
theorem take4 {cs : List Value} {Ks : List PN} {vs : Nat → Value} (h : RowsAt cs Ks.length vs) (hv : ∀ j p, Ks[j]? = some p → p.v = vs j) : cs.take (Ks.length * 4) = cellsOf Ks := by
  induction Ks generalizing cs vs with
  | nil => simp [cellsOf]
  | cons p r ih =>
    obtain ⟨c0, c1, c2, c3, e, h0, h1, h2, h3⟩ := h 0 (by simp)
    have hp : p.v = vs 0 := hv 0 p rfl
    have hr := ih (cs := cs.drop 4) (vs := fun j => vs (j + 1)) (fun j hj => by
      obtain ⟨d0, d1, d2, d3, e', g0, g1, g2, g3⟩ := h (j + 1) (by simp; omega)
      refine ⟨d0, d1, d2, d3, e', ?_, ?_, ?_, ?_⟩ <;> rw [List.getElem?_drop]
      · rw [← g0]; congr 1; omega
      · rw [← g1]; congr 1; omega
      · rw [← g2]; congr 1; omega
      · rw [← g3]; congr 1; omega) (fun j q hq => hv (j + 1) q hq)
    have e4 : cs = c0 :: c1 :: c2 :: c3 :: cs.drop 4 := by
      match cs, h0, h1, h2, h3 with
      | [], h0, _, _, _ => cases h0
      | [_], _, h1, _, _ => cases h1
      | [_, _], _, _, h2, _ => cases h2
      | [_, _, _], _, _, _, h3 => cases h3
      | a :: b :: c :: d :: r, h0, h1, h2, h3 =>
        simp at h0 h1 h2 h3
        rw [h0, h1, h2, h3]; rfl
    show cs.take ((r.length + 1) * 4) = cells4 p.v ++ cellsOf r
    rw [hp, e, ← hr]
    conv => lhs; rw [e4]
    rw [show (r.length + 1) * 4 = r.length * 4 + 1 + 1 + 1 + 1 by omega]
    simp only [List.take_succ_cons]
    rfl
/-- a node opened -/
theorem own_open {w : World} {lo hi : Nat} {v : Value} {k n : Int} {s : List UInt8} {ks : List T} (h : OwnX lo hi w v (.mk k n s ks)) :
    ∃ A c Ks, v = nv k n s A ks.length c ∧ s.length ≤ 9223372036854775807 ∧ Ks.map PN.t = ks ∧ KidsAt w lo hi A c Ks := by
  cases h with
  | mk A c vs ls hs hsl hkl hA hin hdis hk =>
    let Ks : List PN := ks.mapIdx fun j t => ⟨vs j, t, ls j, hs j⟩
    have hlen : Ks.length = ks.length := List.length_mapIdx
    have hat : ∀ (j : Nat) (p : PN), Ks[j]? = some p → ∃ t, ks[j]? = some t ∧ p = ⟨vs j, t, ls j, hs j⟩ := by
      intro j p hp
      rw [List.getElem?_mapIdx] at hp
      obtain ⟨t, ht, e⟩ := Option.map_eq_some_iff.1 hp
      exact ⟨t, ht, e.symm⟩
    refine ⟨A, c, Ks, rfl, hsl, ?_, KidsAt.mk (Pend.mk (fun p hp => ?_) ?_) (fun p hp => ?_) (fun hne => ?_)⟩
    · apply List.ext_getElem?
      intro j
      rw [List.getElem?_map, List.getElem?_mapIdx]
      cases ks[j]? <;> rfl
    · obtain ⟨j, hj⟩ := List.getElem?_of_mem hp
      obtain ⟨t, ht, rfl⟩ := hat j p hj
      exact hk j t ht
    · rw [List.pairwise_iff_getElem]
      intro i j hi hj hij
      obtain ⟨t, ht, e⟩ := hat i _ (List.getElem?_eq_getElem hi)
      obtain ⟨u, hu, e'⟩ := hat j _ (List.getElem?_eq_getElem hj)
      rw [e, e']
      exact hdis i j hij (by omega)
    · obtain ⟨j, hj⟩ := List.getElem?_of_mem hp
      obtain ⟨t, ht, rfl⟩ := hat j p hj
      exact hin j (lt_of_get ht)
    · have : ks.length ≠ 0 := by
        intro h0
        rw [h0] at hlen
        exact hne (List.eq_nil_of_length_eq_zero hlen)
      obtain ⟨g, cs, e, h1, h2, hb, hr, hd⟩ := hA this
      refine ⟨g, cs, e, h1, h2, hb, take4 (by rw [hlen]; exact hr) (fun j p hp => ?_), fun p hp => ?_⟩
      · obtain ⟨t, _, rfl⟩ := hat j p hp; rfl
      · obtain ⟨j, hj⟩ := List.getElem?_of_mem hp
        obtain ⟨t, ht, rfl⟩ := hat j p hj
        exact hd j (lt_of_get ht)
theorem pend_tail {w : World} {p : PN} {Q : List PN} (h : Pend w (p :: Q)) : Pend w Q := ⟨fun q hq => h.own q (by simp [hq]), (List.pairwise_cons.1 h.dis).2⟩
theorem pend_perm {w : World} {P Q : List PN} (h : Pend w P) (hp : P.Perm Q) : Pend w Q := ⟨fun q hq => h.own q (hp.mem_iff.2 hq), (hp.pairwise_iff fun h => h.symm).1 h.dis⟩
theorem pend_append {w : World} {P Q : List PN} (h : Pend w P) (k : Pend w Q) (hd : ∀ p ∈ P, ∀ q ∈ Q, p.hi ≤ q.lo ∨ q.hi ≤ p.lo) : Pend w (P ++ Q) :=
  ⟨fun p hp => (List.mem_append.1 hp).elim (h.own p) (k.own p), List.pairwise_append.2 ⟨h.dis, k.dis, hd⟩⟩
/-- a node's kids take its place -/
theorem pend_kids {w : World} {p : PN} {Q Ks : List PN} {A : Option Addr} {c : Nat} (h : Pend w (p :: Q)) (hk : KidsAt w p.lo p.hi A c Ks) : Pend w (Q ++ Ks) := by
  refine pend_append (pend_tail h) hk.pend fun q hq r hr => ?_
  have h1 := (List.pairwise_cons.1 h.dis).1 q hq
  have h2 := hk.in_ r hr
  omega

/-! places -/
/-- a place as a key -/
abbrev pkey (g n : Nat) : Value := .agg #[.pointer (some ⟨g, 0, none⟩), .int .i64 n]
/-- the keys lie in blocks of their own, none of them where these nodes lie -/
def KeysOk (w : World) (Q : List PN) (kvs : List (Value × Value)) : Prop := ∀ p ∈ kvs, ∃ g n cs, p.1 = pkey g n ∧ Blk w g EE cs ∧ ∀ q ∈ Q, g < q.lo ∨ q.hi ≤ g
theorem keys_go {w w' : World} {Q : List PN} {kvs : List (Value × Value)} (h : KeysOk w Q kvs) (hb : Below w.heap.size w w') : KeysOk w' Q kvs := fun p hp => by
  obtain ⟨g, n, cs, e, hB, hq⟩ := h p hp
  exact ⟨g, n, cs, e, hB.below hb hB.lt, hq⟩
theorem wideP : WideK Try.prog 67 := ⟨_, Try.underlying67, fun _ _ => rfl⟩
theorem check_place (g n : Nat) (w : World) (em : Bool) : (Instr.checkKey em 10000 67 (pkey g n)).run Try.prog w = .ok () w := by kernel_rfl
theorem ne_placeD (d : Nat) {g n g' n' : Nat} {w : World} {cs cs' : List Value} (hg : Blk w g EE cs) (hg' : Blk w g' EE cs') (hne : g ≠ g') : (Op.equalIn (d + 2) 67 (pkey g n) (pkey g' n')).run Try.prog w = .ok false w := by
  have hs : (sameAddr ⟨g, 0, none⟩ ⟨g', 0, none⟩).run Try.prog w = .ok false w := run_sameAddr_other w (fun e => hne (by cases e; rfl)) hg hg'
  have hp : Try.prog.underlying 65 = some (.pointer EE) := Try.underlying65
  have hz : ∃ i, Try.prog.info? EE = some i ∧ i.size ≠ 0 := by
    obtain ⟨i, hi, _, h1, _⟩ := info_parts zeroE
    exact ⟨i, hi, by omega⟩
  obtain ⟨i, hi, hsz⟩ := hz
  have he : ∀ d : Nat, (Op.equalIn (d + 1) 65 (.pointer (some ⟨g, 0, none⟩)) (.pointer (some ⟨g', 0, none⟩))).run Try.prog w = .ok false w := fun d => by
    simp [Op.equalIn, run_underlying hp, sizeOf, typeInfo, hi, hsz, hs]
  rw [run_equalIn_struct w (d + 1) 67 _ _ (by kernel_rfl) (by kernel_rfl)]
  have hf : ∃ f r, (Try.prog.fieldsOf 67).toList = f :: r ∧ f.name ≠ "_" ∧ f.type = 65 ∧ f.offset = 0 := ⟨_, _, rfl, by decide, rfl, rfl⟩
  obtain ⟨f, r, e1, e2, e3, e4⟩ := hf
  rw [e1]
  have hpa : ∀ x y : Value, (part 65 #[x, y] 0).run Try.prog w = .ok x w := fun x y => by kernel_rfl
  unfold Op.eqFields
  rw [if_pos e2, e3, e4]
  simp only [Sem.run_bind, hpa, Result.andThen_ok, he d]
  simp
theorem ne_place {g n g' n' : Nat} {w : World} {cs cs' : List Value} (hg : Blk w g EE cs) (hg' : Blk w g' EE cs') (hne : g ≠ g') : (Op.equal 67 (pkey g n) (pkey g' n')).run Try.prog w = .ok false w := ne_placeD 9998 hg hg' hne
theorem new_place {g n : Nat} {w : World} {cs : List Value} {kvs : List (Value × Value)} (hg : Blk w g EE cs) (h : ∀ p ∈ kvs, ∃ g' n' cs', p.1 = pkey g' n' ∧ Blk w g' EE cs' ∧ g' ≠ g) : New Try.prog w 67 (pkey g n) kvs :=
  ⟨fun w em => check_place g n w em, fun p hp => by
    obtain ⟨g', n', cs', e, hB, hne⟩ := h p hp
    rw [e]
    exact ne_place hg hB (Ne.symm hne)⟩
/-- the key of a pending node's kids is new -/
theorem new_kids {w : World} {p : PN} {Q : List PN} {kvs : List (Value × Value)} {g n : Nat} {cs : List Value} (hk : KeysOk w (p :: Q) kvs) (hg : Blk w g EE cs) (h1 : p.lo ≤ g) (h2 : g < p.hi) : New Try.prog w 67 (pkey g n) kvs :=
  new_place hg fun q hq => by
    obtain ⟨g', n', cs', e, hB, ha⟩ := hk q hq
    have := ha p (by simp)
    exact ⟨g', n', cs', e, hB, by omega⟩
/-- and it stays apart from what is then to be visited -/
theorem keys_kids {w : World} {p : PN} {Q Ks : List PN} {A : Option Addr} {c : Nat} {kvs : List (Value × Value)} {g n : Nat} {cs : List Value} {u : Value} (hp : Pend w (p :: Q)) (hk : KeysOk w (p :: Q) kvs) (hK : KidsAt w p.lo p.hi A c Ks) (hg : Blk w g EE cs) (h1 : p.lo ≤ g) (h2 : g < p.hi)
    (ha : ∀ q ∈ Ks, g < q.lo ∨ q.hi ≤ g) : KeysOk w (Q ++ Ks) (kvs ++ [(pkey g n, u)]) := by
  intro q hq
  rcases List.mem_append.1 hq with hq | hq
  · obtain ⟨g', n', cs', e, hB, hx⟩ := hk q hq
    refine ⟨g', n', cs', e, hB, fun r hr => ?_⟩
    rcases List.mem_append.1 hr with hr | hr
    · exact hx r (by simp [hr])
    · have := hx p (by simp)
      have := hK.in_ r hr
      omega
  · rw [List.mem_singleton] at hq; subst hq
    refine ⟨g, n, cs, rfl, hg, fun r hr => ?_⟩
    rcases List.mem_append.1 hr with hr | hr
    · have := (List.pairwise_cons.1 hp.dis).1 r hr
      omega
    · exact ha r hr
set_option maxHeartbeats 1000000 in
theorem placeOf_any (g l c : Nat) (hl : 0 < l) (w : World) : Calls Try.prog 47 #[.slice (some ⟨g, 0, none⟩) l c] w fun e w' => e = .returned (pkey g l) ∧ Below w.heap.size w w' := by
  have t0 : (0 : Int) < (l : Int) := by omega
  go_enter Try.func47, Try.ntmps47
  go_wp2_with fail
  refine bodyPost_ret (results_cell_row Try.results47 _ _ w.heap.size 67 _ (0, 0) _ rfl (heap_alloc_new w _) Try.underlying67 rfl (by kernel_rfl)) rfl ⟨rfl, (Below.refl _ _).alloc (Nat.le_refl _) _⟩
end Go.Proofs.Ytlkfejcnkckgkaa.Tr
