/- Chapter 4: the program's measure of an expression: what holds of the counts, level by level. -/
import Derived.Test.YtlkfejcnkckgkaaMs
import Derived.Test.YtlkfejcnkckgkaaC4b
import Derived.Test.YtlkfejcnkckgkaaC4v
set_option maxRecDepth 100000
namespace Go.Proofs.Ytlkfejcnkckgkaa.Tr
open Go.RowKit Go.Lib Go.Sort Go.Proofs.Ytlkfejcnkckgkaa.Com Go.Proofs.Ytlkfejcnkckgkaa.Mem Go.Proofs.Ytlkfejcnkckgkaa.Os Go.Proofs.Ytlkfejcnkckgkaa.Im

theorem dep_pos (t : T) : 1 ≤ depT t := by cases t; rw [depT_mk]; omega
theorem depK_wit {ks : List T} (h : ks ≠ []) : ∃ a ∈ ks, depT a = depK ks depT := by
  apply Classical.byContradiction
  intro hn
  obtain ⟨a, r, rfl⟩ := List.exists_cons_of_ne_nil h
  have h1 := depK_bd (a :: r) depT (depK (a :: r) depT - 1) fun b hb => by
    have := depK_mem (f := depT) hb
    have h2 : depT b ≠ depK (a :: r) depT := fun e => hn ⟨b, hb, e⟩
    omega
  have h3 := depK_mem (f := depT) (List.mem_cons_self (a := a) (l := r))
  have := dep_pos a
  omega
structure XInv (w : World) (t : T) (S : List (Nat × Nat)) (Lf : List Gp) (cur : List PN) (Bl : List Gp) (nodes depth : Nat) : Prop where
  m : MInv w (S.map Prod.fst) Lf cur Bl
  cnt : nodes + (cntQ cur + (cntQ (nodesOf Lf) + cntQ (nodesOf Bl))) = cntT t
  up : ∀ q ∈ cur ++ nodesOf Lf, depth + depT q.t ≤ depT t
  dn : ∀ q ∈ nodesOf Bl, depth + 1 + depT q.t ≤ depT t
  wit : (∃ q ∈ cur ++ nodesOf Lf, depth + depT q.t = depT t) ∨ (∃ q ∈ nodesOf Bl, depth + 1 + depT q.t = depT t) ∨ depT t = depth + 1
  more : depth + 1 ≤ S.length + Lf.length
structure OInv (w : World) (t : T) (S : List (Nat × Nat)) (Lf : List Gp) (nodes depth : Nat) : Prop where
  m : MInv w (S.map Prod.fst) Lf [] []
  cnt : nodes + cntQ (nodesOf Lf) = cntT t
  up : ∀ q ∈ nodesOf Lf, depth + depT q.t ≤ depT t
  wit : (Lf = [] ∧ depT t = depth) ∨ ∃ q ∈ nodesOf Lf, depth + depT q.t = depT t
  seen : depth ≤ S.length
theorem cntQ_perm {P Q : List PN} (h : P.Perm Q) : cntQ P = cntQ Q := (h.map _).sum_nat
theorem OInv.start {w : World} {t : T} {S : List (Nat × Nat)} {Lf : List Gp} {nodes depth : Nat} (h : OInv w t S Lf nodes depth) (hne : Lf ≠ []) : XInv w t S Lf [] [] nodes depth := by
  refine ⟨h.m, ?_, fun q hq => h.up q (by simpa using hq), fun q hq => (by cases hq), ?_, ?_⟩
  · have := h.cnt; simpa [cntQ, nodesOf] using this
  · rcases h.wit with ⟨e, _⟩ | ⟨q, hq, e⟩
    · exact absurd e hne
    · exact Or.inl ⟨q, by simpa using hq, e⟩
  · have := h.seen
    have : 0 < Lf.length := List.length_pos_iff.2 hne
    omega
theorem XInv.take {w : World} {t : T} {S : List (Nat × Nat)} {Lf Lf' : List Gp} {G : Gp} {Bl : List Gp} {nodes depth : Nat} (h : XInv w t S Lf [] Bl nodes depth) (hp : Lf.Perm (G :: Lf')) (n : Nat) : XInv w t (S ++ [(G.g, n)]) Lf' G.Ks Bl nodes depth := by
  have hn : (nodesOf Lf).Perm (G.Ks ++ nodesOf Lf') := by have := nodesOf_perm hp; rwa [nodesOf_cons] at this
  refine ⟨by have := h.m.take hp; simpa using this, ?_, fun q hq => h.up q (by simpa using hn.mem_iff.2 hq), h.dn, ?_, ?_⟩
  · have h1 := h.cnt
    rw [cntQ_perm hn, cntQ_append] at h1
    have h2 : cntQ ([] : List PN) = 0 := rfl
    omega
  · rcases h.wit with ⟨q, hq, e⟩ | h2
    · exact Or.inl ⟨q, hn.mem_iff.1 (by simpa using hq), e⟩
    · exact Or.inr h2
  · have h1 := h.more
    have h2 := hp.length_eq
    simp only [List.length_cons] at h2
    simp only [List.length_append, List.length_singleton]; omega
theorem XInv.leaf {w : World} {t : T} {S : List (Nat × Nat)} {Lf : List Gp} {p : PN} {cur : List PN} {Bl : List Gp} {nodes depth : Nat} {k n : Int} {s : List UInt8} (h : XInv w t S Lf (p :: cur) Bl nodes depth) (ht : p.t = .mk k n s []) : XInv w t S Lf cur Bl (nodes + 1) depth := by
  have hd : depT p.t = 1 := by rw [ht, depT_mk]; rfl
  refine ⟨h.m.leaf, ?_, fun q hq => h.up q (by simp at hq ⊢; exact Or.inr hq), h.dn, ?_, h.more⟩
  · have h1 := h.cnt
    rw [cntQ_cons, ht, cntT_mk] at h1
    simp only [cntK, List.map_nil, List.sum_nil] at h1
    omega
  · rcases h.wit with ⟨q, hq, e⟩ | h2
    · simp only [List.cons_append, List.mem_cons] at hq
      rcases hq with rfl | hq
      · exact Or.inr (Or.inr (by omega))
      · exact Or.inl ⟨q, hq, e⟩
    · exact Or.inr h2
theorem XInv.node {w : World} {t : T} {S : List (Nat × Nat)} {Lf : List Gp} {p : PN} {cur : List PN} {Bl : List Gp} {nodes depth : Nat} {k n : Int} {s : List UInt8} {ks : List T} {A : Option Addr} {c g : Nat} {Ks : List PN} {cs : List Value} (h : XInv w t S Lf (p :: cur) Bl nodes depth)
    (ht : p.t = .mk k n s ks) (hm : Ks.map PN.t = ks) (hK : KidsAt w p.lo p.hi A c Ks) (hne : Ks ≠ []) (hg : Blk w g EE cs) (htk : cs.take (Ks.length * 4) = cellsOf Ks) (h1 : p.lo ≤ g) (h2 : g < p.hi) (ha : ∀ q ∈ Ks, g < q.lo ∨ q.hi ≤ g) : XInv w t S Lf cur (Bl ++ [⟨g, c, Ks⟩]) (nodes + 1) depth := by
  have e1 : nodesOf (Bl ++ [⟨g, c, Ks⟩]) = nodesOf Bl ++ Ks := by rw [nodesOf_append]; simp [nodesOf]
  have hd : depT p.t = depK ks depT + 1 := by rw [ht, depT_mk]
  have hup := h.up p (by simp)
  refine ⟨h.m.node hK hne hg htk h1 h2 ha, ?_, fun q hq => h.up q (by simp at hq ⊢; exact Or.inr hq), fun q hq => ?_, ?_, h.more⟩
  · have h1 := h.cnt
    rw [cntQ_cons, ht, cntT_mk] at h1
    rw [e1, cntQ_append, cntQ_kids hm]
    omega
  · rw [e1] at hq
    rcases List.mem_append.1 hq with hq | hq
    · exact h.dn q hq
    · have : depT q.t ≤ depK ks depT := depK_mem (by rw [← hm]; exact List.mem_map.2 ⟨q, hq, rfl⟩)
      omega
  · rcases h.wit with ⟨q, hq, e⟩ | ⟨q, hq, e⟩ | h2
    · simp only [List.cons_append, List.mem_cons] at hq
      rcases hq with rfl | hq
      · obtain ⟨a, ha', e'⟩ := depK_wit (ks := ks) (fun e0 => hne (by rw [← hm] at e0; exact List.map_eq_nil_iff.1 e0))
        rw [← hm] at ha'
        obtain ⟨q', hq', rfl⟩ := List.mem_map.1 ha'
        exact Or.inr (Or.inl ⟨q', by rw [e1]; exact List.mem_append.2 (Or.inr hq'), by omega⟩)
      · exact Or.inl ⟨q, hq, e⟩
    · exact Or.inr (Or.inl ⟨q, by rw [e1]; exact List.mem_append.2 (Or.inl hq), e⟩)
    · exact Or.inr (Or.inr h2)
theorem XInv.turn {w : World} {t : T} {S : List (Nat × Nat)} {Bl : List Gp} {nodes depth : Nat} (h : XInv w t S [] [] Bl nodes depth) : OInv w t S Bl nodes (depth + 1) := by
  refine ⟨h.m.turn, ?_, h.dn, ?_, ?_⟩
  · have h1 := h.cnt
    have h2 : cntQ ([] : List PN) = 0 := rfl
    have h3 : cntQ (nodesOf []) = 0 := rfl
    omega
  · rcases h.wit with ⟨q, hq, _⟩ | ⟨q, hq, e⟩ | h2
    · simp [nodesOf] at hq
    · exact Or.inr ⟨q, hq, e⟩
    · cases Bl with
      | nil => exact Or.inl ⟨rfl, h2⟩
      | cons G r =>
        obtain ⟨hne, _⟩ := h.m.grp G (by simp)
        obtain ⟨q, r', e⟩ := List.exists_cons_of_ne_nil hne
        have hq : q ∈ nodesOf (G :: r) := by rw [nodesOf_cons, e]; simp
        have := h.dn q hq
        have := dep_pos q.t
        omega
  · have := h.more; simpa using this
theorem OInv.end_ {w : World} {t : T} {S : List (Nat × Nat)} {nodes depth : Nat} (h : OInv w t S [] nodes depth) : nodes = cntT t ∧ depth = depT t := by
  refine ⟨by have := h.cnt; simpa [cntQ, nodesOf] using this, ?_⟩
  rcases h.wit with ⟨_, e⟩ | ⟨q, hq, _⟩
  · exact e.symm
  · simp [nodesOf] at hq
/-- the key of a row of this level is none of those seen -/
abbrev skey (p : Nat × Nat) : Value × Value := (pkey p.1 p.2, .bool true)
theorem XInv.fresh {w W : World} {t : T} {S : List (Nat × Nat)} {Lf Lf' : List Gp} {G : Gp} {Bl : List Gp} {nodes depth : Nat} (h : XInv w t S Lf [] Bl nodes depth) (hp : Lf.Perm (G :: Lf')) (hk : ∀ g cs, Blk w g EE cs → Blk W g EE cs) (n : Nat) :
    New Try.prog W 67 (pkey G.g n) (S.map skey) := by
  have hG : G ∈ Lf := hp.mem_iff.2 (List.mem_cons_self)
  obtain ⟨_, cs, hb, _⟩ := h.m.grp G (List.mem_append.2 (Or.inl hG))
  refine new_place (hk _ _ hb) fun p hpm => ?_
  obtain ⟨q, hq, rfl⟩ := List.mem_map.1 hpm
  have hq1 : q.1 ∈ S.map Prod.fst := List.mem_map.2 ⟨q, hq, rfl⟩
  obtain ⟨cs', hb'⟩ := h.m.seen _ hq1
  refine ⟨q.1, q.2, cs', rfl, hk _ _ hb', fun e => ?_⟩
  have hnd := h.m.nodup
  rw [List.nodup_append] at hnd
  exact hnd.2.2 _ hq1 G.g (List.mem_append.2 (Or.inl (List.mem_map.2 ⟨G, hG, rfl⟩))) e
theorem XInv.fresh2 {w W : World} {t : T} {S : List (Nat × Nat)} {Lf : List Gp} {p : PN} {cur : List PN} {Bl : List Gp} {nodes depth g : Nat} {cs : List Value} (h : XInv w t S Lf (p :: cur) Bl nodes depth) (hg : Blk w g EE cs) (h1 : p.lo ≤ g) (h2 : g < p.hi) (hk : ∀ g cs, Blk w g EE cs → Blk W g EE cs) (n : Nat) :
    New Try.prog W 67 (pkey g n) (Bl.map entG) := by
  refine new_place (hk _ _ hg) fun q hq => ?_
  obtain ⟨G, hG, rfl⟩ := List.mem_map.1 hq
  obtain ⟨_, cs', hb', _⟩ := h.m.grp G (List.mem_append.2 (Or.inr hG))
  refine ⟨G.g, G.Ks.length, cs', rfl, hk _ _ hb', ?_⟩
  have := h.m.apart G.g (List.mem_append.2 (Or.inr (List.mem_append.2 (Or.inr (List.mem_map.2 ⟨G, hG, rfl⟩))))) p (by simp)
  omega
end Go.Proofs.Ytlkfejcnkckgkaa.Tr
