/- Chapter 4: the program's count of a valid expression's nodes; readExpr, IsValidExpr. -/
import Derived.Test.YtlkfejcnkckgkaaC4b
set_option maxRecDepth 100000
namespace Go.Proofs.Ytlkfejcnkckgkaa.Tr
open Go.RowKit Go.Lib Go.Sort Go.Proofs.Ytlkfejcnkckgkaa.Com Go.Proofs.Ytlkfejcnkckgkaa.Mem Go.Proofs.Ytlkfejcnkckgkaa.C3 Go.Proofs.Ytlkfejcnkckgkaa.C2 Go.Proofs.Ytlkfejcnkckgkaa.Os

/-! type tests, reckoned -/
theorem ta_cc (V : Value) (w : World) : (Instr.typeAssert (.iface 101 V) 59 101 true).run Try.prog w = .ok (.tuple #[V, .bool true]) w := by kernel_rfl
theorem ta_cv (V : Value) (w : World) : (Instr.typeAssert (.iface 101 V) 59 103 true).run Try.prog w = .ok (.tuple #[.agg #[.string ⟨#[]⟩], .bool false]) w := by kernel_rfl
theorem ta_co (V : Value) (w : World) : (Instr.typeAssert (.iface 101 V) 59 106 true).run Try.prog w = .ok (.tuple #[.agg #[.int .i64 0, .nilIface, .nilIface], .bool false]) w := by kernel_rfl
theorem ta_cn (V : Value) (w : World) : (Instr.typeAssert (.iface 101 V) 59 109 true).run Try.prog w = .ok (.tuple #[.agg #[.nilIface], .bool false]) w := by kernel_rfl
theorem ta_vc (V : Value) (w : World) : (Instr.typeAssert (.iface 103 V) 59 101 true).run Try.prog w = .ok (.tuple #[.agg #[.int .i64 0], .bool false]) w := by kernel_rfl
theorem ta_vv (V : Value) (w : World) : (Instr.typeAssert (.iface 103 V) 59 103 true).run Try.prog w = .ok (.tuple #[V, .bool true]) w := by kernel_rfl
theorem ta_vo (V : Value) (w : World) : (Instr.typeAssert (.iface 103 V) 59 106 true).run Try.prog w = .ok (.tuple #[.agg #[.int .i64 0, .nilIface, .nilIface], .bool false]) w := by kernel_rfl
theorem ta_vn (V : Value) (w : World) : (Instr.typeAssert (.iface 103 V) 59 109 true).run Try.prog w = .ok (.tuple #[.agg #[.nilIface], .bool false]) w := by kernel_rfl
theorem ta_oc (V : Value) (w : World) : (Instr.typeAssert (.iface 106 V) 59 101 true).run Try.prog w = .ok (.tuple #[.agg #[.int .i64 0], .bool false]) w := by kernel_rfl
theorem ta_ov (V : Value) (w : World) : (Instr.typeAssert (.iface 106 V) 59 103 true).run Try.prog w = .ok (.tuple #[.agg #[.string ⟨#[]⟩], .bool false]) w := by kernel_rfl
theorem ta_oo (V : Value) (w : World) : (Instr.typeAssert (.iface 106 V) 59 106 true).run Try.prog w = .ok (.tuple #[V, .bool true]) w := by kernel_rfl
theorem ta_on (V : Value) (w : World) : (Instr.typeAssert (.iface 106 V) 59 109 true).run Try.prog w = .ok (.tuple #[.agg #[.nilIface], .bool false]) w := by kernel_rfl
theorem ta_nc (V : Value) (w : World) : (Instr.typeAssert (.iface 109 V) 59 101 true).run Try.prog w = .ok (.tuple #[.agg #[.int .i64 0], .bool false]) w := by kernel_rfl
theorem ta_nv (V : Value) (w : World) : (Instr.typeAssert (.iface 109 V) 59 103 true).run Try.prog w = .ok (.tuple #[.agg #[.string ⟨#[]⟩], .bool false]) w := by kernel_rfl
theorem ta_no (V : Value) (w : World) : (Instr.typeAssert (.iface 109 V) 59 106 true).run Try.prog w = .ok (.tuple #[.agg #[.int .i64 0, .nilIface, .nilIface], .bool false]) w := by kernel_rfl
theorem ta_nn (V : Value) (w : World) : (Instr.typeAssert (.iface 109 V) 59 109 true).run Try.prog w = .ok (.tuple #[V, .bool true]) w := by kernel_rfl
/-- what countNodes promises -/
def CnN (t : T) : Prop := ∀ w : World, allT t = true → cntT t ≤ 2000000 → Calls Try.prog 69 #[xv t] w fun e w' => e = .returned (.int .i64 (cntT t)) ∧ Below w.heap.size w w'
set_option maxHeartbeats 2000000 in
theorem cn1 (n : Int) (w : World) : Calls Try.prog 69 #[.iface 101 (.agg #[.int .i64 n])] w fun e w' => e = .returned (.int .i64 1) ∧ Below w.heap.size w w' := by
  have hb := hid (Below.refl w.heap.size w)
  have q1 := fun V w => ta_co V w
  have q2 := fun V w => ta_cn V w
  go_enter Try.func69, Try.ntmps69
  go_wp2_with fail
  go_ret
  exact ⟨rfl, hb.out⟩
set_option maxHeartbeats 2000000 in
theorem cn2 (s : List UInt8) (w : World) : Calls Try.prog 69 #[.iface 103 (.agg #[sv s])] w fun e w' => e = .returned (.int .i64 1) ∧ Below w.heap.size w w' := by
  have hb := hid (Below.refl w.heap.size w)
  have q1 := fun V w => ta_vo V w
  have q2 := fun V w => ta_vn V w
  go_enter Try.func69, Try.ntmps69
  go_wp2_with fail
  go_ret
  exact ⟨rfl, hb.out⟩
set_option maxHeartbeats 4000000 in
theorem cn4 (ta : TypeId) (ya : Value) (ca : Nat) (hca : ca ≤ 2000000) (hx : ∀ w : World, Calls Try.prog 69 #[.iface ta ya] w fun e w' => e = .returned (.int .i64 ca) ∧ Below w.heap.size w w') (w : World) :
    Calls Try.prog 69 #[.iface 109 (.agg #[.iface ta ya])] w fun e w' => e = .returned (.int .i64 (1 + (ca : Int))) ∧ Below w.heap.size w w' := by
  have hb := hid (box_below w (.cells #[.iface ta ya] 109))
  have e1 : IntKind.i64.wrap (1 + (ca : Int)) = 1 + (ca : Int) := IntWalk.i64_in _ (by omega)
  have hx := hid hx
  have q1 := fun V w => ta_no V w
  have q2 := fun V w => ta_nn V w
  go_enter Try.func69, Try.ntmps69
  go_wp2_with fail
  refine (hx.out _).mono ?_
  rintro e w' ⟨rfl, hb2⟩
  have hb2 := hid (hb.out.trans (hb2.mono hb.out.size))
  go_wp2_with fail
  go_ret
  exact ⟨rfl, hb2.out⟩
set_option maxHeartbeats 4000000 in
theorem cn3 (n : Int) (ta tb : TypeId) (ya yb : Value) (ca cb : Nat) (hca : ca ≤ 2000000) (hcb : cb ≤ 2000000) (hx : ∀ w : World, Calls Try.prog 69 #[.iface ta ya] w fun e w' => e = .returned (.int .i64 ca) ∧ Below w.heap.size w w')
    (hy : ∀ w : World, Calls Try.prog 69 #[.iface tb yb] w fun e w' => e = .returned (.int .i64 cb) ∧ Below w.heap.size w w') (w : World) :
    Calls Try.prog 69 #[.iface 106 (.agg #[.int .i64 n, .iface ta ya, .iface tb yb])] w fun e w' => e = .returned (.int .i64 (1 + (ca : Int) + (cb : Int))) ∧ Below w.heap.size w w' := by
  have hb := hid (box_below w (.cells #[.int .i64 n, .iface ta ya, .iface tb yb] 106))
  have hB := hid (Blk.new w 106 [.int .i64 n, .iface ta ya, .iface tb yb])
  have e1 : IntKind.i64.wrap (1 + (ca : Int)) = 1 + (ca : Int) := IntWalk.i64_in _ (by omega)
  have e2 : IntKind.i64.wrap (1 + (ca : Int) + (cb : Int)) = 1 + (ca : Int) + (cb : Int) := IntWalk.i64_in _ (by omega)
  have hx := hid hx
  have hy := hid hy
  have q1 := fun V w => ta_oo V w
  go_enter Try.func69, Try.ntmps69
  go_wp2_with fail
  generalize (w.alloc (.cells #[.int .i64 n, .iface ta ya, .iface tb yb] 106)) = W1 at *
  have cA := hid (fun d os => Calls.regrown_of (hx.out (grow (redrawn W1 d) os)))
  have cB := hid (fun d os => Calls.regrown_of (hy.out (grow (redrawn W1 d) os)))
  have k1 := cell_regrown (hB.out.cell 1)
  have k2 := cell_regrown (hB.out.cell 2)
  clear hx hy q1 hB
  refine wp_region_quiet_below (by kernel_rfl) (by kernel_rfl) ?_
  repeat (quiet_step (fail))
  quiet_step (exact cA.out _ _)
  repeat (quiet_step (fail))
  quiet_step (exact cB.out _ _)
  repeat (quiet_step (fail))
  refine wpQuiet_nil ?_
  rintro _ ⟨⟨dq, osq⟩, rfl⟩
  have hq := hid (hb.out.trans ((below_regrown W1 dq osq).mono hb.out.size))
  clear k1 k2 cA cB
  generalize grow (redrawn W1 dq) osq = wq at *
  go_wp2_with fail
  go_ret
  exact ⟨rfl, hq.out⟩
theorem xv_iface {t : T} (ha : allT t = true) : ∃ ty y, xv t = .iface ty y := by
  obtain ⟨k, n, s, ks⟩ := t
  rw [allT_mk] at ha
  have hno : nodeB k n s ks.length = true := by simp at ha; exact ha.2
  rcases node_cases hno with rfl | rfl | ⟨rfl, a, b, rfl⟩ | ⟨rfl, a, rfl⟩
  · exact ⟨_, _, xv_1 _ _ _⟩
  · exact ⟨_, _, xv_2 _ _ _⟩
  · exact ⟨_, _, xv_3 _ _ _ _⟩
  · exact ⟨_, _, xv_4 _ _ _⟩
theorem cnN (t : T) : CnN t := by
  induction t using T.ind with
  | h k n s ks ih =>
    intro w ha hc
    have hno := ha
    rw [allT_mk] at hno
    have hno : nodeB k n s ks.length = true := by simp at hno; exact hno.2
    have hleaf : k = 1 ∨ k = 2 → ks = [] := by
      intro h
      unfold nodeB at hno
      rcases h with rfl | rfl
      · simp at hno; exact hno.2.2
      · simp at hno; exact hno.2.2
    rcases node_cases hno with rfl | rfl | ⟨rfl, a, b, rfl⟩ | ⟨rfl, a, rfl⟩
    · rw [hleaf (Or.inl rfl), xv_1]
      have := cn1 n w
      simpa [cntT_mk, cntK] using this
    · rw [hleaf (Or.inr rfl), xv_2]
      have := cn2 s w
      simpa [cntT_mk, cntK] using this
    · obtain ⟨h1, h2⟩ := allT_2 ha
      have hk : cntT (.mk 3 n s [a, b]) = 1 + cntT a + cntT b := by simp [cntT_mk, cntK]; omega
      rw [hk] at hc ⊢
      rw [xv_3]
      have ia := fun w => ih a (by simp) w h1 (by omega)
      have ib := fun w => ih b (by simp) w h2 (by omega)
      obtain ⟨ta, ya, ea⟩ := xv_iface h1
      obtain ⟨tb, yb, eb⟩ := xv_iface h2
      rw [ea] at ia ⊢
      rw [eb] at ib ⊢
      have := cn3 n ta tb ya yb (cntT a) (cntT b) (by omega) (by omega) ia ib w
      simpa using this
    · have h1 := allT_1 ha
      have hk : cntT (.mk 4 n s [a]) = 1 + cntT a := by simp [cntT_mk, cntK]
      rw [hk] at hc ⊢
      rw [xv_4]
      have ia := fun w => ih a (by simp) w h1 (by omega)
      obtain ⟨ta, ya, ea⟩ := xv_iface h1
      rw [ea] at ia ⊢
      have := cn4 ta ya (cntT a) (by omega) ia w
      simpa using this
theorem dep5_cnt (t : T) (h : okL 5 t = true) : cntT t ≤ 1000 := by
  have key : ∀ d : Nat, ∀ t : T, okL d t = true → cntT t + 1 ≤ 2 ^ d := by
    intro d
    induction d with
    | zero => intro t h; cases t; cases h
    | succ d ih =>
      rintro ⟨k, n, s, ks⟩ h
      simp only [okL, Bool.and_eq_true, List.all_eq_true] at h
      obtain ⟨hno, hall⟩ := h
      have hleaf : k = 1 ∨ k = 2 → ks = [] := by
        intro h
        unfold nodeB at hno
        rcases h with rfl | rfl
        · simp at hno; exact hno.2.2
        · simp at hno; exact hno.2.2
      have h2 : 0 < 2 ^ d := Nat.pow_pos (by omega)
      rw [Nat.pow_succ]
      rcases node_cases hno with rfl | rfl | ⟨rfl, a, b, rfl⟩ | ⟨rfl, a, rfl⟩
      · rw [hleaf (Or.inl rfl), cntT_mk]; simp [cntK]; omega
      · rw [hleaf (Or.inr rfl), cntT_mk]; simp [cntK]; omega
      · have := ih a (hall a (by simp))
        have := ih b (hall b (by simp))
        rw [cntT_mk]; simp [cntK]; omega
      · have := ih a (hall a (by simp))
        rw [cntT_mk]; simp [cntK]; omega
  have := key 5 t h
  omega
set_option maxHeartbeats 4000000 in
theorem readE (t : T) (v : Value) (w : World) (hv : Ex w w.heap.size v t) :
    Calls Try.prog 43 #[v] w fun e w' => e = .returned (.tuple #[if okT t = true then xv t else .nilIface, .bool (okT t)]) ∧ Below w.heap.size w w' := by
  have h1 := dep5_cnt t
  have hi := okL_iff t 5
  obtain ⟨k, n, s, A, l, c, rfl⟩ := hv.form
  have hb1 := box_below w (.cells #[.int .i64 k, .int .i64 n, sv s, .slice A l c] 26)
  have hcl := rdl t 5 _ _ (Nat.le_refl 5) (hv.go hb1)
  have hb1 := hid hb1
  have hcn := cnN t
  clear hv
  cases ho : okL 5 t
  · have hf : okT t = false := by rw [ho] at hi; simp [okT, ← hi]
    rw [hf, if_neg (by simp)]
    rw [ho] at hcl
    have hcl := hid hcl
    clear hcn hf hi h1
    go_enter Try.func43, Try.ntmps43
    go_wp2_with fail
    refine hcl.out.mono ?_
    rintro e w2 ⟨X, rfl, _, _, hb2⟩
    have hb2 := hid (hb1.out.trans (hb2.mono hb1.out.size))
    go_wp2_with fail
    go_ret2
    exact ⟨rfl, hb2.out⟩
  · have hcb := h1 ho
    rw [ho] at hi
    have ha : allT t = true := by simp at hi; exact hi.2
    have hd : depT t ≤ 5 := by simp at hi; exact hi.1
    have hf : okT t = decide (cntT t ≤ 12) := by simp [okT, ha, hd]
    have hcn := hid (fun w => hcn w ha (by omega))
    rw [ho] at hcl
    have hcl := hid hcl
    clear hi h1 ha hd
    by_cases h12 : cntT t ≤ 12
    · rw [show okT t = true by rw [hf]; simpa using h12, if_pos rfl]
      have t12 : decide ((12 : Int) < (cntT t : Int)) = false := decide_eq_false (by omega)
      clear hf hcb
      generalize hX : xv t = X at *
      generalize cntT t = m at *
      go_enter Try.func43, Try.ntmps43
      go_wp2_with fail
      refine hcl.out.mono ?_
      rintro e w2 ⟨X', rfl, _, hX', hb2⟩
      obtain rfl : X' = X := (hX' rfl).trans hX
      have hb2 := hid (hb1.out.trans (hb2.mono hb1.out.size))
      clear hX hX'
      go_wp2_with fail
      refine (hcn.out _).mono ?_
      rintro e w3 ⟨rfl, hb3⟩
      have hb3 := hid (hb2.out.trans (hb3.mono hb2.out.size))
      go_wp2_with fail
      go_ret2
      exact ⟨rfl, hb3.out⟩
    · rw [show okT t = false by rw [hf]; simpa using h12, if_neg (by simp)]
      have t12 : decide ((12 : Int) < (cntT t : Int)) = true := decide_eq_true (by omega)
      clear hf hcb
      generalize hX : xv t = X at *
      generalize cntT t = m at *
      go_enter Try.func43, Try.ntmps43
      go_wp2_with fail
      refine hcl.out.mono ?_
      rintro e w2 ⟨X', rfl, _, hX', hb2⟩
      obtain rfl : X' = X := (hX' rfl).trans hX
      have hb2 := hid (hb1.out.trans (hb2.mono hb1.out.size))
      clear hX hX'
      go_wp2_with fail
      refine (hcn.out _).mono ?_
      rintro e w3 ⟨rfl, hb3⟩
      have hb3 := hid (hb2.out.trans (hb3.mono hb2.out.size))
      go_wp2_with fail
      go_ret2
      exact ⟨rfl, hb3.out⟩
set_option maxHeartbeats 2000000 in
theorem ivalidE (t : T) (v : Value) (w : World) (hv : Ex w w.heap.size v t) : Calls Try.prog 13 #[v] w fun e w' => e = .returned (.bool (okT t)) ∧ Below w.heap.size w w' := by
  obtain ⟨k, n, s, A, l, c, rfl⟩ := hv.form
  have hb1 := box_below w (.cells #[.int .i64 k, .int .i64 n, sv s, .slice A l c] 26)
  have hcl := hid (readE t _ _ (hv.go hb1))
  have hb1 := hid hb1
  clear hv
  generalize (if okT t = true then xv t else .nilIface) = X at *
  generalize okT t = o at *
  go_enter Try.func13, Try.ntmps13
  go_wp2_with fail
  refine hcl.out.mono ?_
  rintro e w2 ⟨rfl, hb2⟩
  have hb2 := hid (hb1.out.trans (hb2.mono hb1.out.size))
  go_wp2_with fail
  go_ret
  exact ⟨rfl, hb2.out⟩
theorem ivalid_own {lo hi : Nat} {v : Value} {t : T} (w : World) (h : OwnX lo hi w v t) (_ : szT t ≤ 1048576) : Calls Try.prog 13 #[v] w fun e w' => e = .returned (.bool (okT t)) ∧ Below w.heap.size w w' := ivalidE t v w h.ex
end Go.Proofs.Ytlkfejcnkckgkaa.Tr
