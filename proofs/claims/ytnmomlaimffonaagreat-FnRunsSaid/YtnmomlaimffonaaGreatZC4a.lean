/- Chapter 4: the program's reading of an expression, one level after the other. -/
import Derived.Test.YtnmomlaimffonaaGreatZOi
set_option maxHeartbeats 4000000
set_option maxRecDepth 100000
namespace Go.Proofs.YtnmomlaimffonaaGreat.Tr
open Go.RowKit Go.Lib Go.Sort Com Mem C3 C2
def xv : T → Value
  | .mk k n s ks =>
    if k = 1 then .iface 184 (.agg #[.int .i64 n]) else if k = 2 then .iface 186 (.agg #[sv s]) else
      match ks with
      | [a] => .iface 192 (.agg #[xv a])
      | [a, b] => .iface 189 (.agg #[.int .i64 n, xv a, xv b])
      | _ => .nilIface
termination_by t => SizeOf.sizeOf t
theorem xv_1 (n : Int) (s : List UInt8) (ks : List T) : xv (.mk 1 n s ks) = .iface 184 (.agg #[.int .i64 n]) := by unfold xv; rfl
theorem xv_2 (n : Int) (s : List UInt8) (ks : List T) : xv (.mk 2 n s ks) = .iface 186 (.agg #[sv s]) := by unfold xv; rfl
theorem xv_3 (n : Int) (s : List UInt8) (a b : T) : xv (.mk 3 n s [a, b]) = .iface 189 (.agg #[.int .i64 n, xv a, xv b]) := by rw [xv]; rfl
theorem xv_4 (n : Int) (s : List UInt8) (a : T) : xv (.mk 4 n s [a]) = .iface 192 (.agg #[xv a]) := by rw [xv]; rfl
def okL : Nat → T → Bool
  | 0, _ => false
  | d + 1, .mk k n s ks => nodeB k n s ks.length && ks.all (okL d)
def OneI (X : Value) : Prop := X = .nilIface ∨ ∃ ty x, X = .iface ty x
def Rds (o : Bool) (X : Value) (t : T) : Prop := o = true → X = xv t
def RdL (t : T) : Prop := ∀ (d : Nat) (v : Value) (w : World), d ≤ 5 → Ex w w.heap.size v t → Calls Tryz.prog 137 #[v, .int .i64 d] w fun e w' => ∃ X, e = .returned (.tuple #[X, .bool (okL d t)]) ∧ OneI X ∧ Rds (okL d t) X t ∧ Below w.heap.size w w'
theorem rdl0 (t : T) (v : Value) (w : World) (hv : Ex w w.heap.size v t) : Calls Tryz.prog 137 #[v, .int .i64 0] w fun e w' => ∃ X, e = .returned (.tuple #[X, .bool false]) ∧ OneI X ∧ Below w.heap.size w w' := by
  obtain ⟨k, n, s, ks⟩ := t
  obtain ⟨A, c, vs, rfl, hs, hl, hk⟩ := hv.kids
  have hb := hid (box_below w (.cells #[.int .i64 k, .int .i64 n, sv s, .slice A ks.length c] 92))
  clear hk hv hs hl
  generalize ks.length = l at *
  go_enter Tryz.func137, Tryz.ntmps137
  go_wp2_with fail
  go_ret2
  exact ⟨_, rfl, Or.inl rfl, hb.out⟩
theorem rdl1 (n d : Int) (hd : (d == 0) = false) (s : List UInt8) (A : Option Addr) (l c : Nat) (w : World) :
    Calls Tryz.prog 137 #[nv 1 n s A l c, .int .i64 d] w fun e w' => e = .returned (.tuple #[.iface 184 (.agg #[.int .i64 n]), .bool (nodeB 1 n s l)]) ∧ Below w.heap.size w w' := by
  have hb := hid (box_below w (.cells #[.int .i64 1, .int .i64 n, sv s, .slice A l c] 92))
  have hv := hid (show nodeB 1 n s l = (isW n && ((s == []) && ((l : Int) == 0))) by simp [nodeB])
  have h1 := hid (fun w => isWord_any n w)
  cases t1 : isW n
  · rw [t1] at h1 hv
    go_enter Tryz.func137, Tryz.ntmps137
    go_wp2_with fail
    go_quiet ((go_at_call 61; refine Calls.quiet_of_same ((h1.out _).mono fun _ _ h => ⟨h.1, h.2.symm⟩)))
    go_wp2_with fail
    go_ret2
    exact ⟨by rw [hv.out]; rfl, bdr hb.out nq⟩
  · rw [t1] at h1 hv
    cases t2 : (s == [])
    · rw [t2] at hv
      go_enter Tryz.func137, Tryz.ntmps137
      go_wp2_with fail
      go_quiet ((go_at_call 61; refine Calls.quiet_of_same ((h1.out _).mono fun _ _ h => ⟨h.1, h.2.symm⟩)))
      go_wp2_with fail
      go_ret2
      exact ⟨by rw [hv.out]; rfl, bdr hb.out nq⟩
    · rw [t2] at hv
      go_enter Tryz.func137, Tryz.ntmps137
      go_wp2_with fail
      go_quiet ((go_at_call 61; refine Calls.quiet_of_same ((h1.out _).mono fun _ _ h => ⟨h.1, h.2.symm⟩)))
      go_wp2_with fail
      go_ret2
      exact ⟨by rw [hv.out]; rfl, bdr hb.out nq⟩
theorem rdl2 (n d : Int) (hd : (d == 0) = false) (s : List UInt8) (hsl : s.length ≤ 9223372036854775807) (A : Option Addr) (l c : Nat) (w : World) :
    Calls Tryz.prog 137 #[nv 2 n s A l c, .int .i64 d] w fun e w' => e = .returned (.tuple #[.iface 186 (.agg #[sv s]), .bool (nodeB 2 n s l)]) ∧ Below w.heap.size w w' := by
  have hb := hid (box_below w (.cells #[.int .i64 2, .int .i64 n, sv s, .slice A l c] 92))
  have hB := hid (box_blk w 2 n s A l c 92)
  have hv := hid (show nodeB 2 n s l = (validB s && ((n == 0) && ((l : Int) == 0))) by simp [nodeB])
  cases t2 : (n == 0)
  · rw [t2, Bool.false_and, Bool.and_false] at hv
    go_enter Tryz.func137, Tryz.ntmps137
    go_wp2_with fail
    go_quiet (fail)
    go_wp2_with fail
    go_ret2
    exact ⟨by rw [hv.out]; rfl, bdr hb.out nq⟩
  · rw [t2, Bool.true_and] at hv
    have cV := fun d os => Calls.regrown_of (valid_any s (grow (redrawn (w.alloc (.cells #[.int .i64 2, .int .i64 n, sv s, .slice A l c] 92)) d) os) hsl)
    cases t1 : validB s
    · rw [t1] at cV hv
      have cV := hid cV
      go_enter Tryz.func137, Tryz.ntmps137
      go_wp2_with fail
      obtain ⟨x0, x1, x2, x3⟩ := four hB.out
      have k1 := cell_regrown x1
      have k2 := cell_regrown x2
      have k3 := cell_regrown x3
      clear x0 x1 x2 x3
      refine wp_region_quiet_below (by kernel_rfl) (by kernel_rfl) ?_
      repeat (quiet_step (exact cV.out _ _))
      refine wpQuiet_nil ?_
      rintro _ ⟨⟨dq, osq⟩, rfl⟩
      have hq := hid (hb.out.trans ((below_regrown (w.alloc (.cells #[.int .i64 2, .int .i64 n, sv s, .slice A l c] 92)) dq osq).mono hb.out.size))
      clear k1 k2 k3 cV
      generalize grow (redrawn (w.alloc (.cells #[.int .i64 2, .int .i64 n, sv s, .slice A l c] 92)) dq) osq = wq at *
      go_wp2_with fail
      go_ret2
      exact ⟨by rw [hv.out]; rfl, hq.out⟩
    · rw [t1] at cV hv
      have cV := hid cV
      go_enter Tryz.func137, Tryz.ntmps137
      go_wp2_with fail
      obtain ⟨x0, x1, x2, x3⟩ := four hB.out
      have k1 := cell_regrown x1
      have k2 := cell_regrown x2
      have k3 := cell_regrown x3
      clear x0 x1 x2 x3
      refine wp_region_quiet_below (by kernel_rfl) (by kernel_rfl) ?_
      repeat (quiet_step (exact cV.out _ _))
      refine wpQuiet_nil ?_
      rintro _ ⟨⟨dq, osq⟩, rfl⟩
      have hq := hid (hb.out.trans ((below_regrown (w.alloc (.cells #[.int .i64 2, .int .i64 n, sv s, .slice A l c] 92)) dq osq).mono hb.out.size))
      clear k1 k2 k3 cV
      generalize grow (redrawn (w.alloc (.cells #[.int .i64 2, .int .i64 n, sv s, .slice A l c] 92)) dq) osq = wq at *
      go_wp2_with fail
      go_ret2
      exact ⟨by rw [hv.out]; rfl, hq.out⟩
theorem rdl_not (k n d : Int) (hd : (d == 0) = false) (s : List UInt8) (A : Option Addr) (l c : Nat) (w : World) (h1 : k ≠ 1) (h2 : k ≠ 2) (h3 : k ≠ 3) (h4 : k ≠ 4) :
    Calls Tryz.prog 137 #[nv k n s A l c, .int .i64 d] w fun e w' => ∃ X, e = .returned (.tuple #[X, .bool false]) ∧ OneI X ∧ Below w.heap.size w w' := by
  have hb := hid (box_below w (.cells #[.int .i64 k, .int .i64 n, sv s, .slice A l c] 92))
  have e1 : (k == 1) = false := beq_false_of_ne h1
  have e2 : (k == 2) = false := beq_false_of_ne h2
  have e3 : (k == 3) = false := beq_false_of_ne h3
  have e4 : (k == 4) = false := beq_false_of_ne h4
  clear h1 h2 h3 h4
  go_enter Tryz.func137, Tryz.ntmps137
  go_wp2_with fail
  go_ret2
  exact ⟨_, rfl, Or.inl rfl, hb.out⟩
theorem rdl3_not (n d : Int) (hd : (d == 0) = false) (s : List UInt8) (A : Option Addr) (l c : Nat) (w : World) (hno : nodeB 3 n s l = false) :
    Calls Tryz.prog 137 #[nv 3 n s A l c, .int .i64 d] w fun e w' => ∃ X, e = .returned (.tuple #[X, .bool false]) ∧ OneI X ∧ Below w.heap.size w w' := by
  have hb := hid (box_below w (.cells #[.int .i64 3, .int .i64 n, sv s, .slice A l c] 92))
  have hv : (inB n 1 8 && ((s == []) && ((l : Int) == 2))) = false := by rw [← hno]; simp [nodeB]
  have h1 := hid (fun w => isOp_any n w)
  cases t1 : inB n 1 8
  · rw [t1] at h1
    clear hv hno
    go_enter Tryz.func137, Tryz.ntmps137
    go_wp2_with fail
    refine (h1.out _).mono ?_
    rintro e w' ⟨rfl, rfl⟩
    go_wp2_with fail
    go_ret2
    exact ⟨_, rfl, Or.inl rfl, hb.out⟩
  · rw [t1] at h1 hv
    cases t2 : (s == [])
    · have t2' : (s != []) = true := by simp [bne, t2]
      clear hv hno
      go_enter Tryz.func137, Tryz.ntmps137
      go_wp2_with fail
      refine (h1.out _).mono ?_
      rintro e w' ⟨rfl, rfl⟩
      go_wp2_with fail
      go_ret2
      exact ⟨_, rfl, Or.inl rfl, hb.out⟩
    · rw [t2] at hv
      have t3 : ((l : Int) == 2) = false := by simpa using hv
      have t2' : (s != []) = false := by simp [bne, t2]
      have t3' : ((l : Int) != 2) = true := by simp [bne, t3]
      clear hv hno
      go_enter Tryz.func137, Tryz.ntmps137
      go_wp2_with fail
      refine (h1.out _).mono ?_
      rintro e w' ⟨rfl, rfl⟩
      go_wp2_with fail
      go_ret2
      exact ⟨_, rfl, Or.inl rfl, hb.out⟩
theorem rdl4_not (n d : Int) (hd : (d == 0) = false) (s : List UInt8) (A : Option Addr) (l c : Nat) (w : World) (hno : nodeB 4 n s l = false) :
    Calls Tryz.prog 137 #[nv 4 n s A l c, .int .i64 d] w fun e w' => ∃ X, e = .returned (.tuple #[X, .bool false]) ∧ OneI X ∧ Below w.heap.size w w' := by
  have hb := hid (box_below w (.cells #[.int .i64 4, .int .i64 n, sv s, .slice A l c] 92))
  have hv : ((n == 0) && ((s == []) && ((l : Int) == 1))) = false := by rw [← hno]; simp [nodeB]
  cases t1 : (n == 0)
  · have t1' : (n != 0) = true := by simp [bne, t1]
    clear hv hno
    go_enter Tryz.func137, Tryz.ntmps137
    go_wp2_with fail
    go_ret2
    exact ⟨_, rfl, Or.inl rfl, hb.out⟩
  · rw [t1] at hv
    have t1' : (n != 0) = false := by simp [bne, t1]
    cases t2 : (s == [])
    · have t2' : (s != []) = true := by simp [bne, t2]
      clear hv hno
      go_enter Tryz.func137, Tryz.ntmps137
      go_wp2_with fail
      go_ret2
      exact ⟨_, rfl, Or.inl rfl, hb.out⟩
    · rw [t2] at hv
      have t3 : ((l : Int) == 1) = false := by simpa using hv
      have t2' : (s != []) = false := by simp [bne, t2]
      have t3' : ((l : Int) != 1) = true := by simp [bne, t3]
      clear hv hno
      go_enter Tryz.func137, Tryz.ntmps137
      go_wp2_with fail
      go_ret2
      exact ⟨_, rfl, Or.inl rfl, hb.out⟩
theorem depK_mem {ks : List T} {f : T → Nat} {a : T} (h : a ∈ ks) : f a ≤ depK ks f := by
  obtain ⟨i, hi, rfl⟩ := List.mem_iff_getElem.1 h
  have := depK_take (f := f) hi
  have hm : depK (ks.take (i + 1)) f ≤ depK ks f := by
    have : ∀ (l r : List T) (n : Nat), l.foldl (fun n a => max n (f a)) n ≤ (l ++ r).foldl (fun n a => max n (f a)) n := by
      intro l r n
      rw [List.foldl_append]
      generalize l.foldl (fun n a => max n (f a)) n = m
      induction r generalizing m with
      | nil => exact Nat.le_refl _
      | cons x r ih => exact Nat.le_trans (Nat.le_max_left m (f x)) (ih _)
    have := this (ks.take (i + 1)) (ks.drop (i + 1)) 0
    rw [List.take_append_drop] at this
    exact this
  omega
theorem rdl3 (n : Int) (d : Nat) (hd5 : d + 1 ≤ 5) (hn : inB n 1 8 = true) (a b : T) (iha : RdL a) (ihb : RdL b) (A : Option Addr) (c : Nat) (vs : Nat → Value) (w : World) (hk : Kids w w.heap.size A [a, b] vs) :
    Calls Tryz.prog 137 #[nv 3 n [] A 2 c, .int .i64 ((d : Int) + 1)] w fun e w' => ∃ X, e = .returned (.tuple #[X, .bool (okL d a && okL d b)]) ∧ OneI X ∧ Rds (okL d a && okL d b) X (.mk 3 n [] [a, b]) ∧ Below w.heap.size w w' := by
  have hb1 := box_below w (.cells #[.int .i64 3, .int .i64 n, sv [], .slice A 2 c] 92)
  have hblk := hid (box_blk w 3 n [] A 2 c 92)
  have hk1 := hk.go hb1
  have hd0 : ((d : Int) + 1 == 0) = false := beq_false_of_ne (by omega)
  have h1 := isOp_any n
  rw [hn] at h1
  have h1 := hid h1
  replace hb1 := hid hb1
  have hf := hid (xv_3 n [] a b)
  obtain ⟨ad, hA, _, c0, c1, c2, c3, e0, k0, k1, k2, k3⟩ := hk1.cell 0 (by simp)
  subst hA
  have x0 := hk1.kid 0 a rfl
  rw [e0] at x0
  have p0 : (w.alloc (.cells #[.int .i64 3, .int .i64 n, sv [], .slice (some ad) 2 c] 92)).cell? ad = some c0 := k0
  have p1 : (w.alloc (.cells #[.int .i64 3, .int .i64 n, sv [], .slice (some ad) 2 c] 92)).cell? ⟨ad.block, ad.off + 1, none⟩ = some c1 := k1
  have p2 : (w.alloc (.cells #[.int .i64 3, .int .i64 n, sv [], .slice (some ad) 2 c] 92)).cell? ⟨ad.block, ad.off + 2, none⟩ = some c2 := k2
  have p3 : (w.alloc (.cells #[.int .i64 3, .int .i64 n, sv [], .slice (some ad) 2 c] 92)).cell? ⟨ad.block, ad.off + 3, none⟩ = some c3 := k3
  have hcl := hid (iha d _ _ (by omega) x0)
  have hk1 := hid hk1
  have hihb := hid ihb
  clear hk e0 x0 k0 k1 k2 k3 hn
  generalize hoa : okL d a = oa at *
  generalize hob : okL d b = ob at *
  go_enter Tryz.func137, Tryz.ntmps137
  go_wp2_with fail
  refine (h1.out _).mono ?_
  rintro e w' ⟨rfl, rfl⟩
  go_wp2_with fail
  refine hcl.out.mono ?_
  rintro e w2 ⟨XL, rfl, hoL, hXL, hb2⟩
  have hblk2 := hid (hblk.out.below hb2 hblk.out.lt)
  have b3 : w2.cell? ⟨w.heap.size, 3, none⟩ = some (.slice (some ad) 2 c) := hblk2.out.cell 3
  have hk2 := hk1.out.go hb2
  obtain ⟨ad', hA', _, d0, d1, d2, d3, e1, l0, l1, l2, l3⟩ := hk2.cell 1 (by simp)
  obtain rfl : ad = ad' := Option.some.inj hA'
  have x1 := hk2.kid 1 b rfl
  rw [e1] at x1
  have p0 : w2.cell? ⟨ad.block, ad.off + 4, none⟩ = some d0 := l0
  have p1 : w2.cell? ⟨ad.block, ad.off + 4 + 1, none⟩ = some d1 := l1
  have p2 : w2.cell? ⟨ad.block, ad.off + 4 + 2, none⟩ = some d2 := l2
  have p3 : w2.cell? ⟨ad.block, ad.off + 4 + 3, none⟩ = some d3 := l3
  have hcl2 := hihb.out d _ _ (by omega) x1
  rw [hob] at hcl2
  have hcl2 := hid hcl2
  replace hb2 := hid (hb1.out.trans (hb2.mono hb1.out.size))
  replace hXL := hid hXL
  clear hk2 hA' e1 x1 l0 l1 l2 l3 hcl
  go_wp2_with fail
  refine hcl2.out.mono ?_
  rintro e w3 ⟨XR, rfl, hoR, hXR, hb3⟩
  have b1 : w3.cell? ⟨w.heap.size, 1, none⟩ = some (.int .i64 n) := (hblk2.out.below hb3 hblk2.out.lt).cell 1
  replace hb3 := hid (hb2.out.trans (hb3.mono hb2.out.size))
  replace hXR := hid hXR
  clear b3 p0 p1 p2 p3 hcl2
  rcases hoL with rfl | ⟨tL, yL, rfl⟩ <;> rcases hoR with rfl | ⟨tR, yR, rfl⟩
  all_goals
    cases oa
    · go_wp2_with fail
      go_ret2
      exact ⟨_, rfl, Or.inr ⟨_, _, rfl⟩, (fun h => by cases h), hb3.out⟩
    · cases ob
      · go_wp2_with fail
        go_ret2
        exact ⟨_, rfl, Or.inr ⟨_, _, rfl⟩, (fun h => by cases h), hb3.out⟩
      · go_wp2_with fail
        go_ret2
        exact ⟨_, rfl, Or.inr ⟨_, _, rfl⟩, (fun _ => by rw [hf.out, ← hXL.out rfl, ← hXR.out rfl]; rfl), hb3.out⟩
theorem rdl4 (d : Nat) (hd5 : d + 1 ≤ 5) (a : T) (iha : RdL a) (A : Option Addr) (c : Nat) (vs : Nat → Value) (w : World) (hk : Kids w w.heap.size A [a] vs) :
    Calls Tryz.prog 137 #[nv 4 0 [] A 1 c, .int .i64 ((d : Int) + 1)] w fun e w' => ∃ X, e = .returned (.tuple #[X, .bool (okL d a)]) ∧ OneI X ∧ Rds (okL d a) X (.mk 4 0 [] [a]) ∧ Below w.heap.size w w' := by
  have hb1 := box_below w (.cells #[.int .i64 4, .int .i64 0, sv [], .slice A 1 c] 92)
  have hk1 := hk.go hb1
  have hd0 : ((d : Int) + 1 == 0) = false := beq_false_of_ne (by omega)
  replace hb1 := hid hb1
  have hf := hid (xv_4 0 [] a)
  obtain ⟨ad, hA, _, c0, c1, c2, c3, e0, k0, k1, k2, k3⟩ := hk1.cell 0 (by simp)
  subst hA
  have x0 := hk1.kid 0 a rfl
  rw [e0] at x0
  have p0 : (w.alloc (.cells #[.int .i64 4, .int .i64 0, sv [], .slice (some ad) 1 c] 92)).cell? ad = some c0 := k0
  have p1 : (w.alloc (.cells #[.int .i64 4, .int .i64 0, sv [], .slice (some ad) 1 c] 92)).cell? ⟨ad.block, ad.off + 1, none⟩ = some c1 := k1
  have p2 : (w.alloc (.cells #[.int .i64 4, .int .i64 0, sv [], .slice (some ad) 1 c] 92)).cell? ⟨ad.block, ad.off + 2, none⟩ = some c2 := k2
  have p3 : (w.alloc (.cells #[.int .i64 4, .int .i64 0, sv [], .slice (some ad) 1 c] 92)).cell? ⟨ad.block, ad.off + 3, none⟩ = some c3 := k3
  have hcl := hid (iha d _ _ (by omega) x0)
  clear hk e0 x0 k0 k1 k2 k3 hk1
  generalize hoa : okL d a = oa at *
  go_enter Tryz.func137, Tryz.ntmps137
  go_wp2_with fail
  refine hcl.out.mono ?_
  rintro e w2 ⟨XL, rfl, hoL, hXL, hb2⟩
  replace hXL := hid hXL
  replace hb2 := hid (hb1.out.trans (hb2.mono hb1.out.size))
  clear p0 p1 p2 p3 hcl
  rcases hoL with rfl | ⟨tL, yL, rfl⟩
  all_goals
    go_wp2_with fail
    go_ret2
    exact ⟨_, rfl, Or.inr ⟨_, _, rfl⟩, (fun h => by rw [hf.out, ← hXL.out h]; rfl), hb2.out⟩
theorem okL_no {d : Nat} {k n : Int} {s : List UInt8} {ks : List T} (h : nodeB k n s ks.length = false) : okL (d + 1) (.mk k n s ks) = false := by simp [okL, h]
theorem okL_leaf {d : Nat} {k n : Int} {s : List UInt8} {ks : List T} (h : k = 1 ∨ k = 2) : okL (d + 1) (.mk k n s ks) = nodeB k n s ks.length := by
  cases hn : nodeB k n s ks.length
  · exact okL_no hn
  · have : ks = [] := by
      unfold nodeB at hn
      rcases h with rfl | rfl
      · simp at hn; exact hn.2.2
      · simp at hn; exact hn.2.2
    subst this
    simp only [okL, hn]; rfl
theorem rdl (t : T) : RdL t := by
  induction t using T.ind with
  | h k n s ks ih =>
    intro d v w hd hv
    match d, hd with
    | 0, _ => exact (rdl0 _ v w hv).mono fun e w' ⟨X, he, ho, hb⟩ => ⟨X, he, ho, (fun h => by cases h), hb⟩
    | d + 1, hd =>
      obtain ⟨A, c, vs, rfl, hs, hl, hk⟩ := hv.kids
      have ed : ((d + 1 : Nat) : Int) = (d : Int) + 1 := rfl
      rw [ed]
      have hd0 : ((d : Int) + 1 == 0) = false := beq_false_of_ne (by omega)
      by_cases h1 : k = 1
      · subst h1
        exact (rdl1 n _ hd0 s A ks.length c w).mono fun e w' ⟨he, hb⟩ => ⟨_, by rw [he, okL_leaf (Or.inl rfl)], Or.inr ⟨_, _, rfl⟩, (fun _ => (xv_1 n s ks).symm), hb⟩
      by_cases h2 : k = 2
      · subst h2
        exact (rdl2 n _ hd0 s hs A ks.length c w).mono fun e w' ⟨he, hb⟩ => ⟨_, by rw [he, okL_leaf (Or.inr rfl)], Or.inr ⟨_, _, rfl⟩, (fun _ => (xv_2 n s ks).symm), hb⟩
      cases hno : nodeB k n s ks.length
      · have hf := okL_no (d := d) hno
        by_cases h3 : k = 3
        · subst h3
          exact (rdl3_not n _ hd0 s A ks.length c w hno).mono fun e w' ⟨X, he, ho, hb⟩ => ⟨X, by rw [he, hf], ho, (fun h => by rw [hf] at h; cases h), hb⟩
        by_cases h4 : k = 4
        · subst h4
          exact (rdl4_not n _ hd0 s A ks.length c w hno).mono fun e w' ⟨X, he, ho, hb⟩ => ⟨X, by rw [he, hf], ho, (fun h => by rw [hf] at h; cases h), hb⟩
        exact (rdl_not k n _ hd0 s A ks.length c w h1 h2 h3 h4).mono fun e w' ⟨X, he, ho, hb⟩ => ⟨X, by rw [he, hf], ho, (fun h => by rw [hf] at h; cases h), hb⟩
      · rcases node_cases hno with rfl | rfl | ⟨rfl, a, b, rfl⟩ | ⟨rfl, a, rfl⟩
        · exact absurd rfl h1
        · exact absurd rfl h2
        · have hn : inB n 1 8 = true ∧ s = [] := by unfold nodeB at hno; simp at hno; exact ⟨hno.1, hno.2⟩
          obtain ⟨hn, rfl⟩ := hn
          have hf : okL (d + 1) (.mk 3 n [] [a, b]) = (okL d a && okL d b) := by simp only [okL, hno]; simp
          rw [hf]
          exact rdl3 n d hd hn a b (ih a (by simp)) (ih b (by simp)) A c vs w hk
        · have hn : n = 0 ∧ s = [] := by unfold nodeB at hno; simp at hno; exact ⟨hno.1, hno.2⟩
          obtain ⟨rfl, rfl⟩ := hn
          have hf : okL (d + 1) (.mk 4 0 [] [a]) = okL d a := by simp only [okL, hno]; simp
          rw [hf]
          exact rdl4 d hd a (ih a (by simp)) A c vs w hk
theorem okL_iff (t : T) : ∀ d : Nat, okL d t = (decide (depT t ≤ d) && allT t) := by
  induction t using T.ind with
  | h k n s ks ih =>
    intro d
    match d with
    | 0 => rw [depT_mk]; simp [okL]
    | d + 1 =>
      rw [depT_mk, allT_mk]
      have hk : ks.all (okL d) = (decide (depK ks depT ≤ d) && ks.all allT) := by
        rw [Bool.eq_iff_iff]
        simp only [List.all_eq_true, Bool.and_eq_true, decide_eq_true_eq]
        constructor
        · intro h
          refine ⟨depK_bd ks depT d fun a ha => ?_, fun a ha => ?_⟩
          · have := h a ha; rw [ih a ha d] at this; simp at this; exact this.1
          · have := h a ha; rw [ih a ha d] at this; simp at this; exact this.2
        · rintro ⟨h1, h2⟩ a ha
          rw [ih a ha d]
          simp only [Bool.and_eq_true, decide_eq_true_eq]
          exact ⟨Nat.le_trans (depK_mem ha) h1, h2 a ha⟩
      simp only [okL, hk, Nat.add_le_add_iff_right]
      cases nodeB k n s ks.length <;> cases decide (depK ks depT ≤ d) <;> cases ks.all allT <;> rfl
open YtnmomlaimffonaaGreat.Os
theorem ta_cc (V : Value) (w : World) : (Instr.typeAssert (.iface 184 V) 172 184 true).run Tryz.prog w = .ok (.tuple #[V, .bool true]) w := by kernel_rfl
theorem ta_co (V : Value) (w : World) : (Instr.typeAssert (.iface 184 V) 172 189 true).run Tryz.prog w = .ok (.tuple #[.agg #[.int .i64 0, .nilIface, .nilIface], .bool false]) w := by kernel_rfl
theorem ta_cn (V : Value) (w : World) : (Instr.typeAssert (.iface 184 V) 172 192 true).run Tryz.prog w = .ok (.tuple #[.agg #[.nilIface], .bool false]) w := by kernel_rfl
theorem ta_vc (V : Value) (w : World) : (Instr.typeAssert (.iface 186 V) 172 184 true).run Tryz.prog w = .ok (.tuple #[.agg #[.int .i64 0], .bool false]) w := by kernel_rfl
theorem ta_vv (V : Value) (w : World) : (Instr.typeAssert (.iface 186 V) 172 186 true).run Tryz.prog w = .ok (.tuple #[V, .bool true]) w := by kernel_rfl
theorem ta_vo (V : Value) (w : World) : (Instr.typeAssert (.iface 186 V) 172 189 true).run Tryz.prog w = .ok (.tuple #[.agg #[.int .i64 0, .nilIface, .nilIface], .bool false]) w := by kernel_rfl
theorem ta_vn (V : Value) (w : World) : (Instr.typeAssert (.iface 186 V) 172 192 true).run Tryz.prog w = .ok (.tuple #[.agg #[.nilIface], .bool false]) w := by kernel_rfl
theorem ta_oc (V : Value) (w : World) : (Instr.typeAssert (.iface 189 V) 172 184 true).run Tryz.prog w = .ok (.tuple #[.agg #[.int .i64 0], .bool false]) w := by kernel_rfl
theorem ta_ov (V : Value) (w : World) : (Instr.typeAssert (.iface 189 V) 172 186 true).run Tryz.prog w = .ok (.tuple #[.agg #[.string ⟨#[]⟩], .bool false]) w := by kernel_rfl
theorem ta_oo (V : Value) (w : World) : (Instr.typeAssert (.iface 189 V) 172 189 true).run Tryz.prog w = .ok (.tuple #[V, .bool true]) w := by kernel_rfl
theorem ta_nc (V : Value) (w : World) : (Instr.typeAssert (.iface 192 V) 172 184 true).run Tryz.prog w = .ok (.tuple #[.agg #[.int .i64 0], .bool false]) w := by kernel_rfl
theorem ta_nv (V : Value) (w : World) : (Instr.typeAssert (.iface 192 V) 172 186 true).run Tryz.prog w = .ok (.tuple #[.agg #[.string ⟨#[]⟩], .bool false]) w := by kernel_rfl
theorem ta_no (V : Value) (w : World) : (Instr.typeAssert (.iface 192 V) 172 189 true).run Tryz.prog w = .ok (.tuple #[.agg #[.int .i64 0, .nilIface, .nilIface], .bool false]) w := by kernel_rfl
theorem ta_nn (V : Value) (w : World) : (Instr.typeAssert (.iface 192 V) 172 192 true).run Tryz.prog w = .ok (.tuple #[V, .bool true]) w := by kernel_rfl
def CnN (t : T) : Prop := ∀ w : World, allT t = true → cntT t ≤ 2000000 → Calls Tryz.prog 138 #[xv t] w fun e w' => e = .returned (.int .i64 (cntT t)) ∧ Below w.heap.size w w'
theorem cn1 (n : Int) (w : World) : Calls Tryz.prog 138 #[.iface 184 (.agg #[.int .i64 n])] w fun e w' => e = .returned (.int .i64 1) ∧ Below w.heap.size w w' := by
  have hb := hid (Below.refl w.heap.size w)
  have q1 := fun V w => ta_co V w
  have q2 := fun V w => ta_cn V w
  go_enter Tryz.func138, Tryz.ntmps138
  go_wp2_with fail
  go_ret
  exact ⟨rfl, hb.out⟩
theorem cn2 (s : List UInt8) (w : World) : Calls Tryz.prog 138 #[.iface 186 (.agg #[sv s])] w fun e w' => e = .returned (.int .i64 1) ∧ Below w.heap.size w w' := by
  have hb := hid (Below.refl w.heap.size w)
  have q1 := fun V w => ta_vo V w
  have q2 := fun V w => ta_vn V w
  go_enter Tryz.func138, Tryz.ntmps138
  go_wp2_with fail
  go_ret
  exact ⟨rfl, hb.out⟩
theorem cn4 (ta : TypeId) (ya : Value) (ca : Nat) (hca : ca ≤ 2000000) (hx : ∀ w : World, Calls Tryz.prog 138 #[.iface ta ya] w fun e w' => e = .returned (.int .i64 ca) ∧ Below w.heap.size w w') (w : World) :
    Calls Tryz.prog 138 #[.iface 192 (.agg #[.iface ta ya])] w fun e w' => e = .returned (.int .i64 (1 + (ca : Int))) ∧ Below w.heap.size w w' := by
  have hb := hid (box_below w (.cells #[.iface ta ya] 192))
  have e1 : IntKind.i64.wrap (1 + (ca : Int)) = 1 + (ca : Int) := IntWalk.i64_in _ (by omega)
  have hx := hid hx
  have q1 := fun V w => ta_no V w
  have q2 := fun V w => ta_nn V w
  go_enter Tryz.func138, Tryz.ntmps138
  go_wp2_with fail
  refine (hx.out _).mono ?_
  rintro e w' ⟨rfl, hb2⟩
  have hb2 := hid (hb.out.trans (hb2.mono hb.out.size))
  go_wp2_with fail
  go_ret
  exact ⟨rfl, hb2.out⟩
theorem cn3 (n : Int) (ta tb : TypeId) (ya yb : Value) (ca cb : Nat) (hca : ca ≤ 2000000) (hcb : cb ≤ 2000000) (hx : ∀ w : World, Calls Tryz.prog 138 #[.iface ta ya] w fun e w' => e = .returned (.int .i64 ca) ∧ Below w.heap.size w w')
    (hy : ∀ w : World, Calls Tryz.prog 138 #[.iface tb yb] w fun e w' => e = .returned (.int .i64 cb) ∧ Below w.heap.size w w') (w : World) :
    Calls Tryz.prog 138 #[.iface 189 (.agg #[.int .i64 n, .iface ta ya, .iface tb yb])] w fun e w' => e = .returned (.int .i64 (1 + (ca : Int) + (cb : Int))) ∧ Below w.heap.size w w' := by
  have hb := hid (box_below w (.cells #[.int .i64 n, .iface ta ya, .iface tb yb] 189))
  have hB := hid (Blk.new w 189 [.int .i64 n, .iface ta ya, .iface tb yb])
  have e1 : IntKind.i64.wrap (1 + (ca : Int)) = 1 + (ca : Int) := IntWalk.i64_in _ (by omega)
  have e2 : IntKind.i64.wrap (1 + (ca : Int) + (cb : Int)) = 1 + (ca : Int) + (cb : Int) := IntWalk.i64_in _ (by omega)
  have hx := hid hx
  have hy := hid hy
  have q1 := fun V w => ta_oo V w
  go_enter Tryz.func138, Tryz.ntmps138
  go_wp2_with fail
  generalize (w.alloc (.cells #[.int .i64 n, .iface ta ya, .iface tb yb] 189)) = W1 at *
  have cA := hid (fun d os => Calls.regrown_of (hx.out (grow (redrawn W1 d) os)))
  have cB := hid (fun d os => Calls.regrown_of (hy.out (grow (redrawn W1 d) os)))
  have k1 := cell_regrown (hB.out.cell 1)
  have k2 := cell_regrown (hB.out.cell 2)
  clear hx hy q1 hB
  refine wp_region_quiet_below (by kernel_rfl) (by kernel_rfl) ?_
  repeat (quiet_step (fail))
  quiet_step (exact cA.out _ _)
  repeat (quiet_step (fail))
  quiet_step (exact cB.out _ _)
  repeat (quiet_step (fail))
  refine wpQuiet_nil ?_
  rintro _ ⟨⟨dq, osq⟩, rfl⟩
  have hq := hid (hb.out.trans ((below_regrown W1 dq osq).mono hb.out.size))
  clear k1 k2 cA cB
  generalize grow (redrawn W1 dq) osq = wq at *
  go_wp2_with fail
  go_ret
  exact ⟨rfl, hq.out⟩
theorem xv_iface {t : T} (ha : allT t = true) : ∃ ty y, xv t = .iface ty y := by
  obtain ⟨k, n, s, ks⟩ := t
  rw [allT_mk] at ha
  have hno : nodeB k n s ks.length = true := by simp at ha; exact ha.2
  rcases node_cases hno with rfl | rfl | ⟨rfl, a, b, rfl⟩ | ⟨rfl, a, rfl⟩
  · exact ⟨_, _, xv_1 _ _ _⟩
  · exact ⟨_, _, xv_2 _ _ _⟩
  · exact ⟨_, _, xv_3 _ _ _ _⟩
  · exact ⟨_, _, xv_4 _ _ _⟩
theorem cnN (t : T) : CnN t := by
  induction t using T.ind with
  | h k n s ks ih =>
    intro w ha hc
    have hno := ha
    rw [allT_mk] at hno
    have hno : nodeB k n s ks.length = true := by simp at hno; exact hno.2
    have hleaf : k = 1 ∨ k = 2 → ks = [] := by
      intro h
      unfold nodeB at hno
      rcases h with rfl | rfl
      · simp at hno; exact hno.2.2
      · simp at hno; exact hno.2.2
    rcases node_cases hno with rfl | rfl | ⟨rfl, a, b, rfl⟩ | ⟨rfl, a, rfl⟩
    · rw [hleaf (Or.inl rfl), xv_1]
      have := cn1 n w
      simpa [cntT_mk, cntK] using this
    · rw [hleaf (Or.inr rfl), xv_2]
      have := cn2 s w
      simpa [cntT_mk, cntK] using this
    · obtain ⟨h1, h2⟩ := allT_2 ha
      have hk : cntT (.mk 3 n s [a, b]) = 1 + cntT a + cntT b := by simp [cntT_mk, cntK]; omega
      rw [hk] at hc ⊢
      rw [xv_3]
      have ia := fun w => ih a (by simp) w h1 (by omega)
      have ib := fun w => ih b (by simp) w h2 (by omega)
      obtain ⟨ta, ya, ea⟩ := xv_iface h1
      obtain ⟨tb, yb, eb⟩ := xv_iface h2
      rw [ea] at ia ⊢
      rw [eb] at ib ⊢
      have := cn3 n ta tb ya yb (cntT a) (cntT b) (by omega) (by omega) ia ib w
      simpa using this
    · have h1 := allT_1 ha
      have hk : cntT (.mk 4 n s [a]) = 1 + cntT a := by simp [cntT_mk, cntK]
      rw [hk] at hc ⊢
      rw [xv_4]
      have ia := fun w => ih a (by simp) w h1 (by omega)
      obtain ⟨ta, ya, ea⟩ := xv_iface h1
      rw [ea] at ia ⊢
      have := cn4 ta ya (cntT a) (by omega) ia w
      simpa using this
theorem dep5_cnt (t : T) (h : okL 5 t = true) : cntT t ≤ 1000 := by
  have key : ∀ d : Nat, ∀ t : T, okL d t = true → cntT t + 1 ≤ 2 ^ d := by
    intro d
    induction d with
    | zero => intro t h; cases t; cases h
    | succ d ih =>
      rintro ⟨k, n, s, ks⟩ h
      simp only [okL, Bool.and_eq_true, List.all_eq_true] at h
      obtain ⟨hno, hall⟩ := h
      have hleaf : k = 1 ∨ k = 2 → ks = [] := by
        intro h
        unfold nodeB at hno
        rcases h with rfl | rfl
        · simp at hno; exact hno.2.2
        · simp at hno; exact hno.2.2
      have h2 : 0 < 2 ^ d := Nat.pow_pos (by omega)
      rw [Nat.pow_succ]
      rcases node_cases hno with rfl | rfl | ⟨rfl, a, b, rfl⟩ | ⟨rfl, a, rfl⟩
      · rw [hleaf (Or.inl rfl), cntT_mk]; simp [cntK]; omega
      · rw [hleaf (Or.inr rfl), cntT_mk]; simp [cntK]; omega
      · have := ih a (hall a (by simp))
        have := ih b (hall b (by simp))
        rw [cntT_mk]; simp [cntK]; omega
      · have := ih a (hall a (by simp))
        rw [cntT_mk]; simp [cntK]; omega
  have := key 5 t h
  omega
theorem readE (t : T) (v : Value) (w : World) (hv : Ex w w.heap.size v t) :
    Calls Tryz.prog 125 #[v] w fun e w' => e = .returned (.tuple #[if okT t = true then xv t else .nilIface, .bool (okT t)]) ∧ Below w.heap.size w w' := by
  have h1 := dep5_cnt t
  have hi := okL_iff t 5
  obtain ⟨k, n, s, A, l, c, rfl⟩ := hv.form
  have hb1 := box_below w (.cells #[.int .i64 k, .int .i64 n, sv s, .slice A l c] 92)
  have hcl := rdl t 5 _ _ (Nat.le_refl 5) (hv.go hb1)
  have hb1 := hid hb1
  have hcn := cnN t
  clear hv
  cases ho : okL 5 t
  · have hf : okT t = false := by rw [ho] at hi; simp [okT, ← hi]
    rw [hf, if_neg (by simp)]
    rw [ho] at hcl
    have hcl := hid hcl
    clear hcn hf hi h1
    go_enter Tryz.func125, Tryz.ntmps125
    go_wp2_with fail
    refine hcl.out.mono ?_
    rintro e w2 ⟨X, rfl, _, _, hb2⟩
    have hb2 := hid (hb1.out.trans (hb2.mono hb1.out.size))
    go_wp2_with fail
    go_ret2
    exact ⟨rfl, hb2.out⟩
  · have hcb := h1 ho
    rw [ho] at hi
    have ha : allT t = true := by simp at hi; exact hi.2
    have hd : depT t ≤ 5 := by simp at hi; exact hi.1
    have hf : okT t = decide (cntT t ≤ 12) := by simp [okT, ha, hd]
    have hcn := hid (fun w => hcn w ha (by omega))
    rw [ho] at hcl
    have hcl := hid hcl
    clear hi h1 ha hd
    by_cases h12 : cntT t ≤ 12
    · rw [show okT t = true by rw [hf]; simpa using h12, if_pos rfl]
      have t12 : decide ((12 : Int) < (cntT t : Int)) = false := decide_eq_false (by omega)
      clear hf hcb
      generalize hX : xv t = X at *
      generalize cntT t = m at *
      go_enter Tryz.func125, Tryz.ntmps125
      go_wp2_with fail
      refine hcl.out.mono ?_
      rintro e w2 ⟨X', rfl, _, hX', hb2⟩
      obtain rfl : X' = X := (hX' rfl).trans hX
      have hb2 := hid (hb1.out.trans (hb2.mono hb1.out.size))
      clear hX hX'
      go_wp2_with fail
      refine (hcn.out _).mono ?_
      rintro e w3 ⟨rfl, hb3⟩
      have hb3 := hid (hb2.out.trans (hb3.mono hb2.out.size))
      go_wp2_with fail
      go_ret2
      exact ⟨rfl, hb3.out⟩
    · rw [show okT t = false by rw [hf]; simpa using h12, if_neg (by simp)]
      have t12 : decide ((12 : Int) < (cntT t : Int)) = true := decide_eq_true (by omega)
      clear hf hcb
      generalize hX : xv t = X at *
      generalize cntT t = m at *
      go_enter Tryz.func125, Tryz.ntmps125
      go_wp2_with fail
      refine hcl.out.mono ?_
      rintro e w2 ⟨X', rfl, _, hX', hb2⟩
      obtain rfl : X' = X := (hX' rfl).trans hX
      have hb2 := hid (hb1.out.trans (hb2.mono hb1.out.size))
      clear hX hX'
      go_wp2_with fail
      refine (hcn.out _).mono ?_
      rintro e w3 ⟨rfl, hb3⟩
      have hb3 := hid (hb2.out.trans (hb3.mono hb2.out.size))
      go_wp2_with fail
      go_ret2
      exact ⟨rfl, hb3.out⟩
theorem ivalidE (t : T) (v : Value) (w : World) (hv : Ex w w.heap.size v t) : Calls Tryz.prog 122 #[v] w fun e w' => e = .returned (.bool (okT t)) ∧ Below w.heap.size w w' := by
  obtain ⟨k, n, s, A, l, c, rfl⟩ := hv.form
  have hb1 := box_below w (.cells #[.int .i64 k, .int .i64 n, sv s, .slice A l c] 92)
  have hcl := hid (readE t _ _ (hv.go hb1))
  have hb1 := hid hb1
  clear hv
  generalize (if okT t = true then xv t else .nilIface) = X at *
  generalize okT t = o at *
  go_enter Tryz.func122, Tryz.ntmps122
  go_wp2_with fail
  refine hcl.out.mono ?_
  rintro e w2 ⟨rfl, hb2⟩
  have hb2 := hid (hb1.out.trans (hb2.mono hb1.out.size))
  go_wp2_with fail
  go_ret
  exact ⟨rfl, hb2.out⟩
end Go.Proofs.YtnmomlaimffonaaGreat.Tr
