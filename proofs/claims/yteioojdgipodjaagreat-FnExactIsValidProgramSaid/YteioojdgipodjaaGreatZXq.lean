/- The program's comparison of expressions, by what the walks of trees promise. -/
import Derived.Test.YteioojdgipodjaaGreatZEqx
import Derived.Test.YteioojdgipodjaaGreatZEx4
set_option maxRecDepth 100000
namespace Go.Proofs.YteioojdgipodjaaGreat.Tr
open Go.RowKit Go.Lib Go.Sort Go.Proofs.YteioojdgipodjaaGreat.Com Go.Proofs.YteioojdgipodjaaGreat.Mem Go.Proofs.YteioojdgipodjaaGreat.Os Go.Proofs.YteioojdgipodjaaGreat.Pl Go.Proofs.YteioojdgipodjaaGreat.Kd Go.Proofs.YteioojdgipodjaaGreat.Gx

/-- what the call itself has made lies in plain blocks -/
theorem own_pln {ty : TypeId} {w : World} {lo hi : Nat} {v : Value} {t : T} (h : OwnE ty w lo hi v t) : Ex (pln w) w.heap.size v t := by
  induction h with
  | mk A c vs ls hs hsl hkl hA hin hdis hk ih =>
    refine .mk A c vs hsl hkl (fun j hj => ?_) ih
    obtain ⟨g, cs, e, h1, h2, hb, hr, hd⟩ := hA (by omega)
    exact ⟨_, e, hb.lt, ld4_pln (rows_ld hb hr hj) (by rw [add_block]; exact Blk.pl hb)⟩
theorem ex_go {w W : World} {v : Value} {t : T} (h : Ex (pln w) w.heap.size v t) (hb : Below w.heap.size w W) : Ex (pln W) W.heap.size v t := (h.blw (pln_below hb)).more hb.size
/-- a row of one node -/
theorem la_one {W : World} {g : Nat} {k n : Int} {s : List UInt8} {A : Option Addr} {l c : Nat} {t : T} (hB : Blk W g 54 [.int .i64 k, .int .i64 n, sv s, .slice A l c]) (h : Ex (pln W) W.heap.size (nv k n s A l c) t) : LA (pln W) W.heap.size ⟨some ⟨g, 0, none⟩, 1, [t]⟩ := by
  refine ⟨fun _ => [.int .i64 k, .int .i64 n, sv s, .slice A l c], fun j hj => ?_, fun j u hu => ?_, by simp⟩
  · have hj0 : j = 0 := by have : j < 1 := hj; omega
    subst hj0
    refine ⟨_, rfl, hB.lt, ?_⟩
    refine ld4_pln ?_ (by rw [add_block]; exact Blk.pl hB)
    exact ⟨_, _, _, _, rfl, hB.cell 0, hB.cell 1, hB.cell 2, hB.cell 3⟩
  · have hj : j = 0 := by
      rcases Nat.lt_or_ge j 1 with h1 | h1
      · omega
      · rw [List.getElem?_eq_none (by simpa using h1)] at hu; cases hu
    subst hj
    cases hu
    exact h
/-- two boxes, and two rows of one beside them -/
abbrev eqW (w : World) (k n : Int) (s : List UInt8) (A : Option Addr) (l c : Nat) (k' n' : Int) (s' : List UInt8) (A' : Option Addr) (l' c' : Nat) : World :=
  ((((w.alloc (.cells #[.int .i64 k, .int .i64 n, sv s, .slice A l c] 54)).alloc (.cells #[.int .i64 k', .int .i64 n', sv s', .slice A' l' c'] 54)).alloc (.cells #[.int .i64 k, .int .i64 n, sv s, .slice A l c] 54)).alloc (.cells #[.int .i64 k', .int .i64 n', sv s', .slice A' l' c'] 54))
theorem four_box (w : World) (k n : Int) (s : List UInt8) (A : Option Addr) (l c : Nat) (k' n' : Int) (s' : List UInt8) (A' : Option Addr) (l' c' : Nat) (t t' : T) (h : Ex (pln w) w.heap.size (nv k n s A l c) t) (h' : Ex (pln w) w.heap.size (nv k' n' s' A' l' c') t') :
    Below w.heap.size w (eqW w k n s A l c k' n' s' A' l' c') ∧ LA (pln (eqW w k n s A l c k' n' s' A' l' c')) (eqW w k n s A l c k' n' s' A' l' c').heap.size ⟨some ⟨w.heap.size + 1 + 1, 0, none⟩, 1, [t]⟩ ∧ LA (pln (eqW w k n s A l c k' n' s' A' l' c')) (eqW w k n s A l c k' n' s' A' l' c').heap.size ⟨some ⟨w.heap.size + 1 + 1 + 1, 0, none⟩, 1, [t']⟩ := by
  have s1 := size_alloc' w (.cells #[.int .i64 k, .int .i64 n, sv s, .slice A l c] 54)
  have s2 := size_alloc' (w.alloc (.cells #[.int .i64 k, .int .i64 n, sv s, .slice A l c] 54)) (.cells #[.int .i64 k', .int .i64 n', sv s', .slice A' l' c'] 54)
  have s3 := size_alloc' ((w.alloc (.cells #[.int .i64 k, .int .i64 n, sv s, .slice A l c] 54)).alloc (.cells #[.int .i64 k', .int .i64 n', sv s', .slice A' l' c'] 54)) (.cells #[.int .i64 k, .int .i64 n, sv s, .slice A l c] 54)
  have hb : Below w.heap.size w (eqW w k n s A l c k' n' s' A' l' c') := ((((Below.refl _ _).alloc (Nat.le_refl _) _).alloc (by omega) _).alloc (by omega) _).alloc (by omega) _
  have B3 := (Blk.new ((w.alloc (.cells #[.int .i64 k, .int .i64 n, sv s, .slice A l c] 54)).alloc (.cells #[.int .i64 k', .int .i64 n', sv s', .slice A' l' c'] 54)) 54 [.int .i64 k, .int .i64 n, sv s, .slice A l c]).alloc (.cells #[.int .i64 k', .int .i64 n', sv s', .slice A' l' c'] 54)
  have B4 := Blk.new (((w.alloc (.cells #[.int .i64 k, .int .i64 n, sv s, .slice A l c] 54)).alloc (.cells #[.int .i64 k', .int .i64 n', sv s', .slice A' l' c'] 54)).alloc (.cells #[.int .i64 k, .int .i64 n, sv s, .slice A l c] 54)) 54 [.int .i64 k', .int .i64 n', sv s', .slice A' l' c']
  rw [s2, s1] at B3
  rw [s3, s2, s1] at B4
  exact ⟨hb, la_one B3 (ex_go h hb), la_one B4 (ex_go h' hb)⟩
theorem cntL_oneX (t : T) : kqX.toKd.cntL [t] = cntT t := by simp [Kd.cntL]; rfl
theorem eqLs_one (t t' : T) : eqLs kqX.eq [t] [t'] = eqT t t' := by
  show (eqT t t' && true) = eqT t t'
  rw [Bool.and_true]
theorem ex_form {w : World} {B : Nat} {v : Value} {t : T} (h : Ex w B v t) : ∃ k n s A l c, v = nv k n s A l c := by
  obtain ⟨k, n, s, ks⟩ := t
  obtain ⟨A, c, vs, e, _⟩ := Ex.kids h
  exact ⟨_, _, _, _, _, _, e⟩
set_option maxHeartbeats 2000000 in
theorem iequalE (t t' : T) (v v' : Value) (w : World) (h : Ex (pln w) w.heap.size v t) (h' : Ex (pln w) w.heap.size v' t') (hbd : cntT t ≤ 4000000) :
    Calls Tryz.prog 62 #[v, v'] w fun e w' => e = .returned (.bool (eqT t t')) ∧ Below w.heap.size w w' := by
  obtain ⟨k, n, s, A, l, c, rfl⟩ := ex_form h
  obtain ⟨k', n', s', A', l', c', rfl⟩ := ex_form h'
  obtain ⟨hb, hla, hlb⟩ := four_box w k n s A l c k' n' s' A' l' c' t t' h h'
  have hcl := iequalT _ _ _ hla hlb (fun u hu => trivial) (by rw [cntL_oneX]; exact hbd)
  rw [eqLs_one] at hcl
  replace hcl : Calls Tryz.prog 84 #[.slice (some ⟨w.heap.size + 1 + 1, 0, none⟩) 1 1, .slice (some ⟨w.heap.size + 1 + 1 + 1, 0, none⟩) 1 1, belowF, rootF] _ _ := hcl
  replace hcl := hid hcl
  replace hb := hid hb
  have s1 := size_alloc' w (.cells #[.int .i64 k, .int .i64 n, sv s, .slice A l c] 54)
  have s2 := size_alloc' (w.alloc (.cells #[.int .i64 k, .int .i64 n, sv s, .slice A l c] 54)) (.cells #[.int .i64 k', .int .i64 n', sv s', .slice A' l' c'] 54)
  have B1 := (Blk.new w 54 [.int .i64 k, .int .i64 n, sv s, .slice A l c]).alloc (.cells #[.int .i64 k', .int .i64 n', sv s', .slice A' l' c'] 54)
  have B2 := (Blk.new (w.alloc (.cells #[.int .i64 k, .int .i64 n, sv s, .slice A l c] 54)) 54 [.int .i64 k', .int .i64 n', sv s', .slice A' l' c']).alloc (.cells #[.int .i64 k, .int .i64 n, sv s, .slice A l c] 54)
  rw [s1] at B2
  have p0 := B1.cell 0
  have p1 := B1.cell 1
  have p2 := B1.cell 2
  have p3 := B1.cell 3
  have r0 := B2.cell 0
  have r1 := B2.cell 1
  have r2 := B2.cell 2
  have r3 := B2.cell 3
  clear hla hlb h h' hbd B1 B2 s1 s2
  go_enter Tryz.func62, Tryz.ntmps62
  go_wp2_with fail
  refine hcl.out.mono ?_
  rintro e w2 ⟨rfl, hb2⟩
  have hb2 := hid (hb.out.trans (hb2.mono hb.out.size))
  go_wp2_with fail
  go_ret
  exact ⟨rfl, hb2.out⟩
theorem iequal (ta tb : T) (va vb : Value) (lo hi lo' hi' : Nat) (w : World) (ha : OwnX lo hi w va ta) (hb : OwnX lo' hi' w vb tb) (hbd : cntT ta ≤ 2000000) :
    Calls Tryz.prog 62 #[va, vb] w fun e w' => e = .returned (.bool (eqT ta tb)) ∧ Below w.heap.size w w' := iequalE ta tb va vb w (own_pln ha) (own_pln hb) (by omega)
theorem iequal_own {lo hi lo' hi' : Nat} {v v' : Value} {t t' : T} (w : World) (h : OwnX lo hi w v t) (h' : OwnX lo' hi' w v' t') (hz : szT t ≤ 1048576) (_ : szT t' ≤ 1048576) : Calls Tryz.prog 62 #[v, v'] w fun e w' => e = .returned (.bool (eqT t t')) ∧ Below w.heap.size w w' :=
  iequal t t' v v' _ _ _ _ w h h' (by have := cnt_sz t; omega)
end Go.Proofs.YteioojdgipodjaaGreat.Tr
