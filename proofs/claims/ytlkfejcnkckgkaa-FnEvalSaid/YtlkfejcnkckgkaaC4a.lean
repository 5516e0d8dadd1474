/- Chapter 4: the program's reading of an expression, one level after the other. -/
import Derived.Test.YtlkfejcnkckgkaaTr7
import Derived.Test.YtlkfejcnkckgkaaEx4
import Derived.Lib.QuietBelow
import Derived.BigQuiet
set_option maxRecDepth 100000
namespace Go.Proofs.Ytlkfejcnkckgkaa.Tr
open Go.RowKit Go.Lib Go.Sort Go.Proofs.Ytlkfejcnkckgkaa.Com Go.Proofs.Ytlkfejcnkckgkaa.Mem Go.Proofs.Ytlkfejcnkckgkaa.C3 Go.Proofs.Ytlkfejcnkckgkaa.C2

/-- what the program reads a valid expression as -/
def xv : T → Value
  | .mk k n s ks =>
    if k = 1 then .iface 101 (.agg #[.int .i64 n]) else if k = 2 then .iface 103 (.agg #[sv s]) else
      match ks with
      | [a] => .iface 109 (.agg #[xv a])
      | [a, b] => .iface 106 (.agg #[.int .i64 n, xv a, xv b])
      | _ => .nilIface
termination_by t => SizeOf.sizeOf t
theorem xv_1 (n : Int) (s : List UInt8) (ks : List T) : xv (.mk 1 n s ks) = .iface 101 (.agg #[.int .i64 n]) := by unfold xv; rfl
theorem xv_2 (n : Int) (s : List UInt8) (ks : List T) : xv (.mk 2 n s ks) = .iface 103 (.agg #[sv s]) := by unfold xv; rfl
theorem xv_3 (n : Int) (s : List UInt8) (a b : T) : xv (.mk 3 n s [a, b]) = .iface 106 (.agg #[.int .i64 n, xv a, xv b]) := by rw [xv]; rfl
theorem xv_4 (n : Int) (s : List UInt8) (a : T) : xv (.mk 4 n s [a]) = .iface 109 (.agg #[xv a]) := by rw [xv]; rfl
/-- is every node right, and are there at most so many levels -/
def okL : Nat → T → Bool
  | 0, _ => false
  | d + 1, .mk k n s ks => nodeB k n s ks.length && ks.all (okL d)
/-- a value of one cell: nil, or something behind an interface -/
def OneI (X : Value) : Prop := X = .nilIface ∨ ∃ ty x, X = .iface ty x
/-- where o, the value X is what t is read as -/
def Rds (o : Bool) (X : Value) (t : T) : Prop := o = true → X = xv t
/-- the cells of an expression in a box -/
theorem box_at {w w' : World} {k n : Int} {s : List UInt8} {A : Option Addr} {l c : Nat} {ty : TypeId} (hb : Below (w.heap.size + 1) (w.alloc (.cells #[.int .i64 k, .int .i64 n, sv s, .slice A l c] ty)) w') :
    w'.cell? ⟨w.heap.size, 0, none⟩ = some (.int .i64 k) ∧ w'.cell? ⟨w.heap.size, 1, none⟩ = some (.int .i64 n) ∧ w'.cell? ⟨w.heap.size, 2, none⟩ = some (sv s) ∧ w'.cell? ⟨w.heap.size, 3, none⟩ = some (.slice A l c) :=
  four ((box_blk w k n s A l c ty).below hb (by omega))

/-- what readLevels promises -/
def RdL (t : T) : Prop := ∀ (d : Nat) (v : Value) (w : World), d ≤ 5 → Ex w w.heap.size v t → Calls Try.prog 68 #[v, .int .i64 d] w fun e w' => ∃ X, e = .returned (.tuple #[X, .bool (okL d t)]) ∧ OneI X ∧ Rds (okL d t) X t ∧ Below w.heap.size w w'
set_option maxHeartbeats 1000000 in
theorem rdl0 (t : T) (v : Value) (w : World) (hv : Ex w w.heap.size v t) : Calls Try.prog 68 #[v, .int .i64 0] w fun e w' => ∃ X, e = .returned (.tuple #[X, .bool false]) ∧ OneI X ∧ Below w.heap.size w w' := by
  obtain ⟨k, n, s, ks⟩ := t
  obtain ⟨A, c, vs, rfl, hs, hl, hk⟩ := hv.kids
  have hb := hid (box_below w (.cells #[.int .i64 k, .int .i64 n, sv s, .slice A ks.length c] 26))
  clear hk hv hs hl
  generalize ks.length = l at *
  go_enter Try.func68, Try.ntmps68
  go_wp2_with fail
  go_ret2
  exact ⟨_, rfl, Or.inl rfl, hb.out⟩
set_option maxHeartbeats 4000000 in
theorem rdl1 (n d : Int) (hd : (d == 0) = false) (s : List UInt8) (A : Option Addr) (l c : Nat) (w : World) :
    Calls Try.prog 68 #[nv 1 n s A l c, .int .i64 d] w fun e w' => e = .returned (.tuple #[.iface 101 (.agg #[.int .i64 n]), .bool (nodeB 1 n s l)]) ∧ Below w.heap.size w w' := by
  have hb := hid (box_below w (.cells #[.int .i64 1, .int .i64 n, sv s, .slice A l c] 26))
  have hv := hid (show nodeB 1 n s l = (isW n && ((s == []) && ((l : Int) == 0))) by simp [nodeB])
  have h1 := hid (fun w => isWord_any n w)
  cases t1 : isW n
  · rw [t1] at h1 hv
    go_enter Try.func68, Try.ntmps68
    go_wp2_with fail
    go_quiet ((go_at_call 83; refine Calls.quiet_of_same ((h1.out _).mono fun _ _ h => ⟨h.1, h.2.symm⟩)))
    go_wp2_with fail
    go_ret2
    exact ⟨by rw [hv.out]; rfl, bdr hb.out nq⟩
  · rw [t1] at h1 hv
    cases t2 : (s == [])
    · rw [t2] at hv
      go_enter Try.func68, Try.ntmps68
      go_wp2_with fail
      go_quiet ((go_at_call 83; refine Calls.quiet_of_same ((h1.out _).mono fun _ _ h => ⟨h.1, h.2.symm⟩)))
      go_wp2_with fail
      go_ret2
      exact ⟨by rw [hv.out]; rfl, bdr hb.out nq⟩
    · rw [t2] at hv
      go_enter Try.func68, Try.ntmps68
      go_wp2_with fail
      go_quiet ((go_at_call 83; refine Calls.quiet_of_same ((h1.out _).mono fun _ _ h => ⟨h.1, h.2.symm⟩)))
      go_wp2_with fail
      go_ret2
      exact ⟨by rw [hv.out]; rfl, bdr hb.out nq⟩
set_option maxHeartbeats 4000000 in
theorem rdl2 (n d : Int) (hd : (d == 0) = false) (s : List UInt8) (hsl : s.length ≤ 9223372036854775807) (A : Option Addr) (l c : Nat) (w : World) :
    Calls Try.prog 68 #[nv 2 n s A l c, .int .i64 d] w fun e w' => e = .returned (.tuple #[.iface 103 (.agg #[sv s]), .bool (nodeB 2 n s l)]) ∧ Below w.heap.size w w' := by
  have hb := hid (box_below w (.cells #[.int .i64 2, .int .i64 n, sv s, .slice A l c] 26))
  have hB := hid (box_blk w 2 n s A l c 26)
  have hv := hid (show nodeB 2 n s l = (validB s && ((n == 0) && ((l : Int) == 0))) by simp [nodeB])
  cases t2 : (n == 0)
  · rw [t2, Bool.false_and, Bool.and_false] at hv
    go_enter Try.func68, Try.ntmps68
    go_wp2_with fail
    go_quiet (fail)
    go_wp2_with fail
    go_ret2
    exact ⟨by rw [hv.out]; rfl, bdr hb.out nq⟩
  · rw [t2, Bool.true_and] at hv
    have cV := fun d os => Calls.regrown_of (valid_any s (grow (redrawn (w.alloc (.cells #[.int .i64 2, .int .i64 n, sv s, .slice A l c] 26)) d) os) hsl)
    cases t1 : validB s
    · rw [t1] at cV hv
      have cV := hid cV
      go_enter Try.func68, Try.ntmps68
      go_wp2_with fail
      obtain ⟨x0, x1, x2, x3⟩ := four hB.out
      have k1 := cell_regrown x1
      have k2 := cell_regrown x2
      have k3 := cell_regrown x3
      clear x0 x1 x2 x3
      refine wp_region_quiet_below (by kernel_rfl) (by kernel_rfl) ?_
      repeat (quiet_step (exact cV.out _ _))
      refine wpQuiet_nil ?_
      rintro _ ⟨⟨dq, osq⟩, rfl⟩
      have hq := hid (hb.out.trans ((below_regrown (w.alloc (.cells #[.int .i64 2, .int .i64 n, sv s, .slice A l c] 26)) dq osq).mono hb.out.size))
      clear k1 k2 k3 cV
      generalize grow (redrawn (w.alloc (.cells #[.int .i64 2, .int .i64 n, sv s, .slice A l c] 26)) dq) osq = wq at *
      go_wp2_with fail
      go_ret2
      exact ⟨by rw [hv.out]; rfl, hq.out⟩
    · rw [t1] at cV hv
      have cV := hid cV
      go_enter Try.func68, Try.ntmps68
      go_wp2_with fail
      obtain ⟨x0, x1, x2, x3⟩ := four hB.out
      have k1 := cell_regrown x1
      have k2 := cell_regrown x2
      have k3 := cell_regrown x3
      clear x0 x1 x2 x3
      refine wp_region_quiet_below (by kernel_rfl) (by kernel_rfl) ?_
      repeat (quiet_step (exact cV.out _ _))
      refine wpQuiet_nil ?_
      rintro _ ⟨⟨dq, osq⟩, rfl⟩
      have hq := hid (hb.out.trans ((below_regrown (w.alloc (.cells #[.int .i64 2, .int .i64 n, sv s, .slice A l c] 26)) dq osq).mono hb.out.size))
      clear k1 k2 k3 cV
      generalize grow (redrawn (w.alloc (.cells #[.int .i64 2, .int .i64 n, sv s, .slice A l c] 26)) dq) osq = wq at *
      go_wp2_with fail
      go_ret2
      exact ⟨by rw [hv.out]; rfl, hq.out⟩
set_option maxHeartbeats 1000000 in
theorem rdl_not (k n d : Int) (hd : (d == 0) = false) (s : List UInt8) (A : Option Addr) (l c : Nat) (w : World) (h1 : k ≠ 1) (h2 : k ≠ 2) (h3 : k ≠ 3) (h4 : k ≠ 4) :
    Calls Try.prog 68 #[nv k n s A l c, .int .i64 d] w fun e w' => ∃ X, e = .returned (.tuple #[X, .bool false]) ∧ OneI X ∧ Below w.heap.size w w' := by
  have hb := hid (box_below w (.cells #[.int .i64 k, .int .i64 n, sv s, .slice A l c] 26))
  have e1 : (k == 1) = false := beq_false_of_ne h1
  have e2 : (k == 2) = false := beq_false_of_ne h2
  have e3 : (k == 3) = false := beq_false_of_ne h3
  have e4 : (k == 4) = false := beq_false_of_ne h4
  clear h1 h2 h3 h4
  go_enter Try.func68, Try.ntmps68
  go_wp2_with fail
  go_ret2
  exact ⟨_, rfl, Or.inl rfl, hb.out⟩
set_option maxHeartbeats 4000000 in
/-- a wrong operator -/
theorem rdl3_not (n d : Int) (hd : (d == 0) = false) (s : List UInt8) (A : Option Addr) (l c : Nat) (w : World) (hno : nodeB 3 n s l = false) :
    Calls Try.prog 68 #[nv 3 n s A l c, .int .i64 d] w fun e w' => ∃ X, e = .returned (.tuple #[X, .bool false]) ∧ OneI X ∧ Below w.heap.size w w' := by
  have hb := hid (box_below w (.cells #[.int .i64 3, .int .i64 n, sv s, .slice A l c] 26))
  have hv : (inB n 1 8 && ((s == []) && ((l : Int) == 2))) = false := by rw [← hno]; simp [nodeB]
  have h1 := hid (fun w => isOp_any n w)
  cases t1 : inB n 1 8
  · rw [t1] at h1
    clear hv hno
    go_enter Try.func68, Try.ntmps68
    go_wp2_with fail
    refine (h1.out _).mono ?_
    rintro e w' ⟨rfl, rfl⟩
    go_wp2_with fail
    go_ret2
    exact ⟨_, rfl, Or.inl rfl, hb.out⟩
  · rw [t1] at h1 hv
    cases t2 : (s == [])
    · have t2' : (s != []) = true := by simp [bne, t2]
      clear hv hno
      go_enter Try.func68, Try.ntmps68
      go_wp2_with fail
      refine (h1.out _).mono ?_
      rintro e w' ⟨rfl, rfl⟩
      go_wp2_with fail
      go_ret2
      exact ⟨_, rfl, Or.inl rfl, hb.out⟩
    · rw [t2] at hv
      have t3 : ((l : Int) == 2) = false := by simpa using hv
      have t2' : (s != []) = false := by simp [bne, t2]
      have t3' : ((l : Int) != 2) = true := by simp [bne, t3]
      clear hv hno
      go_enter Try.func68, Try.ntmps68
      go_wp2_with fail
      refine (h1.out _).mono ?_
      rintro e w' ⟨rfl, rfl⟩
      go_wp2_with fail
      go_ret2
      exact ⟨_, rfl, Or.inl rfl, hb.out⟩
set_option maxHeartbeats 4000000 in
/-- a wrong negation -/
theorem rdl4_not (n d : Int) (hd : (d == 0) = false) (s : List UInt8) (A : Option Addr) (l c : Nat) (w : World) (hno : nodeB 4 n s l = false) :
    Calls Try.prog 68 #[nv 4 n s A l c, .int .i64 d] w fun e w' => ∃ X, e = .returned (.tuple #[X, .bool false]) ∧ OneI X ∧ Below w.heap.size w w' := by
  have hb := hid (box_below w (.cells #[.int .i64 4, .int .i64 n, sv s, .slice A l c] 26))
  have hv : ((n == 0) && ((s == []) && ((l : Int) == 1))) = false := by rw [← hno]; simp [nodeB]
  cases t1 : (n == 0)
  · have t1' : (n != 0) = true := by simp [bne, t1]
    clear hv hno
    go_enter Try.func68, Try.ntmps68
    go_wp2_with fail
    go_ret2
    exact ⟨_, rfl, Or.inl rfl, hb.out⟩
  · rw [t1] at hv
    have t1' : (n != 0) = false := by simp [bne, t1]
    cases t2 : (s == [])
    · have t2' : (s != []) = true := by simp [bne, t2]
      clear hv hno
      go_enter Try.func68, Try.ntmps68
      go_wp2_with fail
      go_ret2
      exact ⟨_, rfl, Or.inl rfl, hb.out⟩
    · rw [t2] at hv
      have t3 : ((l : Int) == 1) = false := by simpa using hv
      have t2' : (s != []) = false := by simp [bne, t2]
      have t3' : ((l : Int) != 1) = true := by simp [bne, t3]
      clear hv hno
      go_enter Try.func68, Try.ntmps68
      go_wp2_with fail
      go_ret2
      exact ⟨_, rfl, Or.inl rfl, hb.out⟩
end Go.Proofs.Ytlkfejcnkckgkaa.Tr
