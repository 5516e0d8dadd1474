/- Chapter 4: the program's reading of operators and negations; readLevels, readExpr. -/
import Derived.Test.YtlkfejcnkckgkaaC4a
set_option maxRecDepth 100000
namespace Go.Proofs.Ytlkfejcnkckgkaa.Tr
open Go.RowKit Go.Lib Go.Sort Go.Proofs.Ytlkfejcnkckgkaa.Com Go.Proofs.Ytlkfejcnkckgkaa.Mem Go.Proofs.Ytlkfejcnkckgkaa.C3 Go.Proofs.Ytlkfejcnkckgkaa.C2

theorem depK_mem {ks : List T} {f : T → Nat} {a : T} (h : a ∈ ks) : f a ≤ depK ks f := by
  obtain ⟨i, hi, rfl⟩ := List.mem_iff_getElem.1 h
  have := depK_take (f := f) hi
  have hm : depK (ks.take (i + 1)) f ≤ depK ks f := by
    have : ∀ (l r : List T) (n : Nat), l.foldl (fun n a => max n (f a)) n ≤ (l ++ r).foldl (fun n a => max n (f a)) n := by
      intro l r n
      rw [List.foldl_append]
      generalize l.foldl (fun n a => max n (f a)) n = m
      induction r generalizing m with
      | nil => exact Nat.le_refl _
      | cons x r ih => exact Nat.le_trans (Nat.le_max_left m (f x)) (ih _)
    have := this (ks.take (i + 1)) (ks.drop (i + 1)) 0
    rw [List.take_append_drop] at this
    exact this
  omega
set_option maxHeartbeats 4000000 in
theorem rdl3 (n : Int) (d : Nat) (hd5 : d + 1 ≤ 5) (hn : inB n 1 8 = true) (a b : T) (iha : RdL a) (ihb : RdL b) (A : Option Addr) (c : Nat) (vs : Nat → Value) (w : World) (hk : Kids w w.heap.size A [a, b] vs) :
    Calls Try.prog 68 #[nv 3 n [] A 2 c, .int .i64 ((d : Int) + 1)] w fun e w' => ∃ X, e = .returned (.tuple #[X, .bool (okL d a && okL d b)]) ∧ OneI X ∧ Rds (okL d a && okL d b) X (.mk 3 n [] [a, b]) ∧ Below w.heap.size w w' := by
  have hb1 := box_below w (.cells #[.int .i64 3, .int .i64 n, sv [], .slice A 2 c] 26)
  have hblk := hid (box_blk w 3 n [] A 2 c 26)
  have hk1 := hk.go hb1
  have hd0 : ((d : Int) + 1 == 0) = false := beq_false_of_ne (by omega)
  have h1 := isOp_any n
  rw [hn] at h1
  have h1 := hid h1
  replace hb1 := hid hb1
  have hf := hid (xv_3 n [] a b)
  obtain ⟨ad, hA, _, c0, c1, c2, c3, e0, k0, k1, k2, k3⟩ := hk1.cell 0 (by simp)
  subst hA
  have x0 := hk1.kid 0 a rfl
  rw [e0] at x0
  have p0 : (w.alloc (.cells #[.int .i64 3, .int .i64 n, sv [], .slice (some ad) 2 c] 26)).cell? ad = some c0 := k0
  have p1 : (w.alloc (.cells #[.int .i64 3, .int .i64 n, sv [], .slice (some ad) 2 c] 26)).cell? ⟨ad.block, ad.off + 1, none⟩ = some c1 := k1
  have p2 : (w.alloc (.cells #[.int .i64 3, .int .i64 n, sv [], .slice (some ad) 2 c] 26)).cell? ⟨ad.block, ad.off + 2, none⟩ = some c2 := k2
  have p3 : (w.alloc (.cells #[.int .i64 3, .int .i64 n, sv [], .slice (some ad) 2 c] 26)).cell? ⟨ad.block, ad.off + 3, none⟩ = some c3 := k3
  have hcl := hid (iha d _ _ (by omega) x0)
  have hk1 := hid hk1
  have hihb := hid ihb
  clear hk e0 x0 k0 k1 k2 k3 hn
  generalize hoa : okL d a = oa at *
  generalize hob : okL d b = ob at *
  go_enter Try.func68, Try.ntmps68
  go_wp2_with fail
  refine (h1.out _).mono ?_
  rintro e w' ⟨rfl, rfl⟩
  go_wp2_with fail
  refine hcl.out.mono ?_
  rintro e w2 ⟨XL, rfl, hoL, hXL, hb2⟩
  have hblk2 := hid (hblk.out.below hb2 hblk.out.lt)
  have b3 : w2.cell? ⟨w.heap.size, 3, none⟩ = some (.slice (some ad) 2 c) := hblk2.out.cell 3
  have hk2 := hk1.out.go hb2
  obtain ⟨ad', hA', _, d0, d1, d2, d3, e1, l0, l1, l2, l3⟩ := hk2.cell 1 (by simp)
  obtain rfl : ad = ad' := Option.some.inj hA'
  have x1 := hk2.kid 1 b rfl
  rw [e1] at x1
  have p0 : w2.cell? ⟨ad.block, ad.off + 4, none⟩ = some d0 := l0
  have p1 : w2.cell? ⟨ad.block, ad.off + 4 + 1, none⟩ = some d1 := l1
  have p2 : w2.cell? ⟨ad.block, ad.off + 4 + 2, none⟩ = some d2 := l2
  have p3 : w2.cell? ⟨ad.block, ad.off + 4 + 3, none⟩ = some d3 := l3
  have hcl2 := hihb.out d _ _ (by omega) x1
  rw [hob] at hcl2
  have hcl2 := hid hcl2
  replace hb2 := hid (hb1.out.trans (hb2.mono hb1.out.size))
  replace hXL := hid hXL
  clear hk2 hA' e1 x1 l0 l1 l2 l3 hcl
  go_wp2_with fail
  refine hcl2.out.mono ?_
  rintro e w3 ⟨XR, rfl, hoR, hXR, hb3⟩
  have b1 : w3.cell? ⟨w.heap.size, 1, none⟩ = some (.int .i64 n) := (hblk2.out.below hb3 hblk2.out.lt).cell 1
  replace hb3 := hid (hb2.out.trans (hb3.mono hb2.out.size))
  replace hXR := hid hXR
  clear b3 p0 p1 p2 p3 hcl2
  rcases hoL with rfl | ⟨tL, yL, rfl⟩ <;> rcases hoR with rfl | ⟨tR, yR, rfl⟩
  all_goals
    cases oa
    · go_wp2_with fail
      go_ret2
      exact ⟨_, rfl, Or.inr ⟨_, _, rfl⟩, (fun h => by cases h), hb3.out⟩
    · cases ob
      · go_wp2_with fail
        go_ret2
        exact ⟨_, rfl, Or.inr ⟨_, _, rfl⟩, (fun h => by cases h), hb3.out⟩
      · go_wp2_with fail
        go_ret2
        exact ⟨_, rfl, Or.inr ⟨_, _, rfl⟩, (fun _ => by rw [hf.out, ← hXL.out rfl, ← hXR.out rfl]; rfl), hb3.out⟩
set_option maxHeartbeats 4000000 in
theorem rdl4 (d : Nat) (hd5 : d + 1 ≤ 5) (a : T) (iha : RdL a) (A : Option Addr) (c : Nat) (vs : Nat → Value) (w : World) (hk : Kids w w.heap.size A [a] vs) :
    Calls Try.prog 68 #[nv 4 0 [] A 1 c, .int .i64 ((d : Int) + 1)] w fun e w' => ∃ X, e = .returned (.tuple #[X, .bool (okL d a)]) ∧ OneI X ∧ Rds (okL d a) X (.mk 4 0 [] [a]) ∧ Below w.heap.size w w' := by
  have hb1 := box_below w (.cells #[.int .i64 4, .int .i64 0, sv [], .slice A 1 c] 26)
  have hk1 := hk.go hb1
  have hd0 : ((d : Int) + 1 == 0) = false := beq_false_of_ne (by omega)
  replace hb1 := hid hb1
  have hf := hid (xv_4 0 [] a)
  obtain ⟨ad, hA, _, c0, c1, c2, c3, e0, k0, k1, k2, k3⟩ := hk1.cell 0 (by simp)
  subst hA
  have x0 := hk1.kid 0 a rfl
  rw [e0] at x0
  have p0 : (w.alloc (.cells #[.int .i64 4, .int .i64 0, sv [], .slice (some ad) 1 c] 26)).cell? ad = some c0 := k0
  have p1 : (w.alloc (.cells #[.int .i64 4, .int .i64 0, sv [], .slice (some ad) 1 c] 26)).cell? ⟨ad.block, ad.off + 1, none⟩ = some c1 := k1
  have p2 : (w.alloc (.cells #[.int .i64 4, .int .i64 0, sv [], .slice (some ad) 1 c] 26)).cell? ⟨ad.block, ad.off + 2, none⟩ = some c2 := k2
  have p3 : (w.alloc (.cells #[.int .i64 4, .int .i64 0, sv [], .slice (some ad) 1 c] 26)).cell? ⟨ad.block, ad.off + 3, none⟩ = some c3 := k3
  have hcl := hid (iha d _ _ (by omega) x0)
  clear hk e0 x0 k0 k1 k2 k3 hk1
  generalize hoa : okL d a = oa at *
  go_enter Try.func68, Try.ntmps68
  go_wp2_with fail
  refine hcl.out.mono ?_
  rintro e w2 ⟨XL, rfl, hoL, hXL, hb2⟩
  replace hXL := hid hXL
  replace hb2 := hid (hb1.out.trans (hb2.mono hb1.out.size))
  clear p0 p1 p2 p3 hcl
  rcases hoL with rfl | ⟨tL, yL, rfl⟩
  all_goals
    go_wp2_with fail
    go_ret2
    exact ⟨_, rfl, Or.inr ⟨_, _, rfl⟩, (fun h => by rw [hf.out, ← hXL.out h]; rfl), hb2.out⟩
theorem okL_no {d : Nat} {k n : Int} {s : List UInt8} {ks : List T} (h : nodeB k n s ks.length = false) : okL (d + 1) (.mk k n s ks) = false := by simp [okL, h]
theorem okL_leaf {d : Nat} {k n : Int} {s : List UInt8} {ks : List T} (h : k = 1 ∨ k = 2) : okL (d + 1) (.mk k n s ks) = nodeB k n s ks.length := by
  cases hn : nodeB k n s ks.length
  · exact okL_no hn
  · have : ks = [] := by
      unfold nodeB at hn
      rcases h with rfl | rfl
      · simp at hn; exact hn.2.2
      · simp at hn; exact hn.2.2
    subst this
    simp only [okL, hn]; rfl
theorem rdl (t : T) : RdL t := by
  induction t using T.ind with
  | h k n s ks ih =>
    intro d v w hd hv
    match d, hd with
    | 0, _ => exact (rdl0 _ v w hv).mono fun e w' ⟨X, he, ho, hb⟩ => ⟨X, he, ho, (fun h => by cases h), hb⟩
    | d + 1, hd =>
      obtain ⟨A, c, vs, rfl, hs, hl, hk⟩ := hv.kids
      have ed : ((d + 1 : Nat) : Int) = (d : Int) + 1 := rfl
      rw [ed]
      have hd0 : ((d : Int) + 1 == 0) = false := beq_false_of_ne (by omega)
      by_cases h1 : k = 1
      · subst h1
        exact (rdl1 n _ hd0 s A ks.length c w).mono fun e w' ⟨he, hb⟩ => ⟨_, by rw [he, okL_leaf (Or.inl rfl)], Or.inr ⟨_, _, rfl⟩, (fun _ => (xv_1 n s ks).symm), hb⟩
      by_cases h2 : k = 2
      · subst h2
        exact (rdl2 n _ hd0 s hs A ks.length c w).mono fun e w' ⟨he, hb⟩ => ⟨_, by rw [he, okL_leaf (Or.inr rfl)], Or.inr ⟨_, _, rfl⟩, (fun _ => (xv_2 n s ks).symm), hb⟩
      cases hno : nodeB k n s ks.length
      · have hf := okL_no (d := d) hno
        by_cases h3 : k = 3
        · subst h3
          exact (rdl3_not n _ hd0 s A ks.length c w hno).mono fun e w' ⟨X, he, ho, hb⟩ => ⟨X, by rw [he, hf], ho, (fun h => by rw [hf] at h; cases h), hb⟩
        by_cases h4 : k = 4
        · subst h4
          exact (rdl4_not n _ hd0 s A ks.length c w hno).mono fun e w' ⟨X, he, ho, hb⟩ => ⟨X, by rw [he, hf], ho, (fun h => by rw [hf] at h; cases h), hb⟩
        exact (rdl_not k n _ hd0 s A ks.length c w h1 h2 h3 h4).mono fun e w' ⟨X, he, ho, hb⟩ => ⟨X, by rw [he, hf], ho, (fun h => by rw [hf] at h; cases h), hb⟩
      · rcases node_cases hno with rfl | rfl | ⟨rfl, a, b, rfl⟩ | ⟨rfl, a, rfl⟩
        · exact absurd rfl h1
        · exact absurd rfl h2
        · have hn : inB n 1 8 = true ∧ s = [] := by unfold nodeB at hno; simp at hno; exact ⟨hno.1, hno.2⟩
          obtain ⟨hn, rfl⟩ := hn
          have hf : okL (d + 1) (.mk 3 n [] [a, b]) = (okL d a && okL d b) := by simp only [okL, hno]; simp
          rw [hf]
          exact rdl3 n d hd hn a b (ih a (by simp)) (ih b (by simp)) A c vs w hk
        · have hn : n = 0 ∧ s = [] := by unfold nodeB at hno; simp at hno; exact ⟨hno.1, hno.2⟩
          obtain ⟨rfl, rfl⟩ := hn
          have hf : okL (d + 1) (.mk 4 0 [] [a]) = okL d a := by simp only [okL, hno]; simp
          rw [hf]
          exact rdl4 d hd a (ih a (by simp)) A c vs w hk
/-- the levels and the nodes -/
theorem okL_iff (t : T) : ∀ d : Nat, okL d t = (decide (depT t ≤ d) && allT t) := by
  induction t using T.ind with
  | h k n s ks ih =>
    intro d
    match d with
    | 0 => rw [depT_mk]; simp [okL]
    | d + 1 =>
      rw [depT_mk, allT_mk]
      have hk : ks.all (okL d) = (decide (depK ks depT ≤ d) && ks.all allT) := by
        rw [Bool.eq_iff_iff]
        simp only [List.all_eq_true, Bool.and_eq_true, decide_eq_true_eq]
        constructor
        · intro h
          refine ⟨depK_bd ks depT d fun a ha => ?_, fun a ha => ?_⟩
          · have := h a ha; rw [ih a ha d] at this; simp at this; exact this.1
          · have := h a ha; rw [ih a ha d] at this; simp at this; exact this.2
        · rintro ⟨h1, h2⟩ a ha
          rw [ih a ha d]
          simp only [Bool.and_eq_true, decide_eq_true_eq]
          exact ⟨Nat.le_trans (depK_mem ha) h1, h2 a ha⟩
      simp only [okL, hk, Nat.add_le_add_iff_right]
      cases nodeB k n s ks.length <;> cases decide (depK ks depT ≤ d) <;> cases ks.all allT <;> rfl

end Go.Proofs.Ytlkfejcnkckgkaa.Tr
