/- Expressions as trees: how many nodes, how deep; the model's side. -/
import Derived.Test.YtlkfejcnkckgkaaTr
set_option maxRecDepth 100000
namespace Go.Proofs.Ytlkfejcnkckgkaa.Tr
open Go.RowKit Go.Lib Go.Proofs.Ytlkfejcnkckgkaa.Com Go.Proofs.Ytlkfejcnkckgkaa.Mem

def cntT : T → Nat
  | .mk _ _ _ ks => 1 + (ks.attach.map fun ⟨a, _⟩ => cntT a).sum
termination_by t => SizeOf.sizeOf t
decreasing_by have := List.sizeOf_lt_of_mem ‹_›; simp only [T.mk.sizeOf_spec]; omega
def cntK (ks : List T) : Nat := (ks.map cntT).sum
theorem cntT_mk (k n : Int) (s : List UInt8) (ks : List T) : cntT (.mk k n s ks) = 1 + cntK ks := by
  rw [cntT]; simp [cntK]
theorem cntK_take {ks : List T} {m : Nat} (h : m < ks.length) : cntK (ks.take (m + 1)) = cntK (ks.take m) + cntT ks[m] := by
  unfold cntK
  rw [List.take_succ_eq_append_getElem h, List.map_append, List.sum_append]; rfl
theorem cntK_le (ks : List T) (m : Nat) : cntK (ks.take m) ≤ cntK ks := by
  unfold cntK
  conv => rhs; rw [← List.take_append_drop m ks]
  rw [List.map_append, List.sum_append]; omega
theorem cnt_sum (ks : List T) (h : ∀ a ∈ ks, cntT a ≤ 1 + szT a) : cntK ks ≤ ks.length + szK ks := by
  induction ks with
  | nil => simp [cntK, szK]
  | cons a r ih =>
    have h1 := ih fun x hx => h x (by simp [hx])
    have h2 := h a (by simp)
    simp only [cntK, szK, List.map_cons, List.sum_cons, List.length_cons] at *
    omega
theorem cnt_sz (t : T) : cntT t ≤ 1 + szT t := by
  induction t using T.ind with
  | h k n s ks ih =>
    have := cnt_sum ks ih
    rw [cntT_mk, szT_mk]
    unfold szK at this
    omega
theorem cnt_pos (t : T) : 1 ≤ cntT t := by cases t; rw [cntT_mk]; omega
def depK (ks : List T) (f : T → Nat) : Nat := ks.foldl (fun n a => max n (f a)) 0
def depT : T → Nat
  | .mk _ _ _ ks => (ks.attach.foldl (fun n ⟨a, _⟩ => max n (depT a)) 0) + 1
termination_by t => SizeOf.sizeOf t
decreasing_by have := List.sizeOf_lt_of_mem ‹_›; simp only [T.mk.sizeOf_spec]; omega
theorem depT_mk (k n : Int) (s : List UInt8) (ks : List T) : depT (.mk k n s ks) = depK ks depT + 1 := by
  rw [depT]; simp [depK]
theorem depK_take {ks : List T} {f : T → Nat} {m : Nat} (h : m < ks.length) : depK (ks.take (m + 1)) f = max (depK (ks.take m) f) (f ks[m]) := by
  unfold depK
  rw [List.take_succ_eq_append_getElem h, List.foldl_append]; rfl
theorem depK_bd (ks : List T) (f : T → Nat) (B : Nat) (h : ∀ a ∈ ks, f a ≤ B) : depK ks f ≤ B := by
  have : ∀ (ks : List T) (n : Nat), n ≤ B → (∀ a ∈ ks, f a ≤ B) → ks.foldl (fun n a => max n (f a)) n ≤ B := by
    intro ks
    induction ks with
    | nil => intro n hn _; simpa using hn
    | cons a r ih =>
      intro n hn h
      rw [List.foldl_cons]
      exact ih _ (Nat.max_le.2 ⟨hn, h a (by simp)⟩) fun x hx => h x (by simp [hx])
  exact this ks 0 (Nat.zero_le _) h
theorem cntK_mem {ks : List T} {a : T} (h : a ∈ ks) : cntT a ≤ cntK ks := by
  induction ks with
  | nil => cases h
  | cons b r ih =>
    simp only [cntK, List.map_cons, List.sum_cons]
    rcases List.mem_cons.1 h with rfl | h
    · omega
    · have := ih h; simp only [cntK] at this; omega
theorem dep_cnt (t : T) : depT t ≤ cntT t := by
  induction t using T.ind with
  | h k n s ks ih =>
    rw [depT_mk, cntT_mk]
    have := depK_bd ks depT (cntK ks) fun a ha => Nat.le_trans (ih a ha) (cntK_mem ha)
    omega

/-- the boxed parameter, as a block -/
theorem box_blk (w : World) (k n : Int) (s : List UInt8) (A : Option Addr) (l c : Nat) (ty : TypeId) : Blk (w.alloc (.cells #[.int .i64 k, .int .i64 n, sv s, .slice A l c] ty)) w.heap.size ty [.int .i64 k, .int .i64 n, sv s, .slice A l c] := Blk.new w ty _
theorem box_below (w : World) (o : Obj) : Below w.heap.size w (w.alloc o) := (Below.refl _ _).alloc (Nat.le_refl _) _

set_option maxHeartbeats 1000000 in
theorem scount (t : T) : ∀ (v : Value) (w : World), Ex w w.heap.size v t → cntT t ≤ 2000000 → Calls Try.prog 18 #[v] w fun e w' => e = .returned (.int .i64 (cntT t)) ∧ Below w.heap.size w w' := by
  induction t using T.ind with
  | h k n s ks ih =>
    intro v w hv hbd
    obtain ⟨A, c, vs, rfl, hs, hl, hk⟩ := hv.kids
    have hb1 := box_below w (.cells #[.int .i64 k, .int .i64 n, sv s, .slice A ks.length c] 26)
    have hblk := hid (box_blk w k n s A ks.length c 26)
    have hk1 := hid (hk.go hb1)
    have hmk := hid (cntT_mk k n s ks)
    rw [cntT_mk] at hbd
    have h0 := hid (show cntK (ks.take 0) = 0 by simp [cntK])
    have hb1 := hid hb1
    clear hk hv
    generalize hL : ks.length = N at *
    go_enter Try.func18, Try.ntmps18
    go_wp2_with fail
    generalize (w.alloc (.cells #[.int .i64 k, .int .i64 n, sv s, .slice A N c] 26)) = w1 at *
    go_loopw [3, 4] (fun a i wr => ∃ m : Nat, m ≤ N ∧ i = .int .i64 m ∧ a = .int .i64 (1 + (cntK (ks.take m) : Int)) ∧ Below w1.heap.size w1 wr) (fun _ i _ => N - (Go.RowKit.intOf i).toNat)
    case atStart => exact ⟨0, Nat.zero_le _, rfl, by rw [h0.out]; simp, Below.refl _ _⟩
    case round =>
      obtain ⟨m, hm, rfl, rfl, hb⟩ := hrel
      have b3 : wr.cell? ⟨w.heap.size, 3, none⟩ = some (.slice A N c) := (hblk.out.below hb hblk.out.lt).cell 3
      by_cases hlt : m < N
      · have hkr := hk1.out.go hb
        obtain ⟨ad, rfl, _, c0, c1, c2, c3, e, k0, k1, k2, k3⟩ := hkr.cell m (by omega)
        have hkid := hkr.kid m _ (List.getElem?_eq_getElem (by omega))
        have hst := hid (cntK_take (ks := ks) (m := m) (by omega))
        have hle := hid (cntK_le ks (m + 1))
        have hsum : cntK (ks.take m) + cntT ks[m] ≤ cntK ks := by have := hle.out; rw [hst.out] at this; exact this
        have hck := hid (ih ks[m] (List.getElem_mem _) _ wr hkid (by omega))
        rw [e] at hck
        have hb := hid hb
        clear hkid hkr e
        go_wp2_with fail
        refine hck.out.mono ?_
        rintro e w2 ⟨rfl, hb2⟩
        have hb2 := hid (hb.out.trans (hb2.mono hb.out.size))
        go_wp2_with fail
        exact ⟨⟨m + 1, hlt, by go_num, by rw [hst.out]; go_num, hb2.out⟩, by simp [Go.RowKit.intOf]; omega⟩
      · obtain rfl : m = N := by omega
        have hf := hid (show (cntT (.mk k n s ks) : Int) = 1 + (cntK (ks.take m) : Int) by
          rw [List.take_of_length_le (by omega), hmk.out]; omega)
        have hb := hid hb
        go_wp2_with fail
        go_ret
        exact ⟨by rw [hf.out]; rfl, hb1.out.trans (hb.out.mono hb1.out.size)⟩
theorem smax_any (p q : Nat) (w : World) : Calls Try.prog 60 #[.int .i64 p, .int .i64 q] w fun e w' => e = .returned (.int .i64 ((max p q : Nat) : Int)) ∧ w = w' := by
  by_cases h : q < p
  · have t1 : decide ((q : Int) < (p : Int)) = true := decide_eq_true (by omega)
    have hf := hid (show ((max p q : Nat) : Int) = p by omega)
    go_enter Try.func60, Try.ntmps60
    go_wp2_with fail
    go_ret
    exact ⟨by rw [hf.out]; rfl, rfl⟩
  · have t1 : decide ((q : Int) < (p : Int)) = false := decide_eq_false (by omega)
    have hf := hid (show ((max p q : Nat) : Int) = q by omega)
    go_enter Try.func60, Try.ntmps60
    go_wp2_with fail
    go_ret
    exact ⟨by rw [hf.out]; rfl, rfl⟩
set_option maxHeartbeats 1000000 in
theorem sdepth (t : T) : ∀ (v : Value) (w : World), Ex w w.heap.size v t → cntT t ≤ 2000000 → Calls Try.prog 31 #[v] w fun e w' => e = .returned (.int .i64 (depT t)) ∧ Below w.heap.size w w' := by
  induction t using T.ind with
  | h k n s ks ih =>
    intro v w hv hbd
    obtain ⟨A, c, vs, rfl, hs, hl, hk⟩ := hv.kids
    have hb1 := box_below w (.cells #[.int .i64 k, .int .i64 n, sv s, .slice A ks.length c] 26)
    have hblk := hid (box_blk w k n s A ks.length c 26)
    have hk1 := hid (hk.go hb1)
    have hmk := hid (depT_mk k n s ks)
    have hd := dep_cnt (.mk k n s ks)
    rw [hmk.out] at hd
    rw [cntT_mk] at hbd
    have h0 := hid (show depK (ks.take 0) depT = 0 by simp [depK])
    have hb1 := hid hb1
    clear hk hv hd
    generalize hL : ks.length = N at *
    go_enter Try.func31, Try.ntmps31
    go_wp2_with fail
    generalize (w.alloc (.cells #[.int .i64 k, .int .i64 n, sv s, .slice A N c] 26)) = w1 at *
    go_loopw [3, 4] (fun a i wr => ∃ m : Nat, m ≤ N ∧ i = .int .i64 m ∧ a = .int .i64 (depK (ks.take m) depT : Nat) ∧ Below w1.heap.size w1 wr) (fun _ i _ => N - (Go.RowKit.intOf i).toNat)
    case atStart => exact ⟨0, Nat.zero_le _, rfl, by rw [h0.out]; rfl, Below.refl _ _⟩
    case round =>
      obtain ⟨m, hm, rfl, rfl, hb⟩ := hrel
      have b3 : wr.cell? ⟨w.heap.size, 3, none⟩ = some (.slice A N c) := (hblk.out.below hb hblk.out.lt).cell 3
      by_cases hlt : m < N
      · have hkr := hk1.out.go hb
        obtain ⟨ad, rfl, _, c0, c1, c2, c3, e, k0, k1, k2, k3⟩ := hkr.cell m (by omega)
        have hkid := hkr.kid m _ (List.getElem?_eq_getElem (by omega))
        have hst := hid (depK_take (ks := ks) (f := depT) (m := m) (by omega))
        have hmem := cntK_mem (List.getElem_mem (l := ks) (n := m) (by omega))
        have hck := hid (ih ks[m] (List.getElem_mem _) _ wr hkid (by omega))
        rw [e] at hck
        have hmx := hid (smax_any (depK (ks.take m) depT) (depT ks[m]))
        have hb := hid hb
        clear hkid hkr e hmem
        go_wp2_with fail
        refine hck.out.mono ?_
        rintro e w2 ⟨rfl, hb2⟩
        have hb2 := hid (hb.out.trans (hb2.mono hb.out.size))
        go_wp2_with fail
        refine (hmx.out _).mono ?_
        rintro e w3 ⟨rfl, rfl⟩
        go_wp2_with fail
        exact ⟨⟨m + 1, hlt, by go_num, by rw [hst.out], hb2.out⟩, by simp [Go.RowKit.intOf]; omega⟩
      · obtain rfl : m = N := by omega
        have hd := dep_cnt (.mk k n s ks)
        rw [hmk.out, cntT_mk] at hd
        have hf := hid (show (depT (.mk k n s ks) : Int) = (depK (ks.take m) depT : Nat) + 1 by
          rw [List.take_of_length_le (by omega), hmk.out]; omega)
        have hbb : depK (ks.take m) depT ≤ 2000000 := by rw [List.take_of_length_le (by omega)]; omega
        have hb := hid hb
        clear hd
        go_wp2_with fail
        go_ret
        exact ⟨by rw [hf.out]; rfl, hb1.out.trans (hb.out.mono hb1.out.size)⟩
theorem left_next {p q tot : Nat} {left L : Int} (hLe : L = left - 1 - (p : Int)) (hle : p + q ≤ tot) : (0 ≤ szAns q L ∧ szAns q L = left - 1 - ((p + q : Nat) : Int)) ∨ (szAns q L = -1 ∧ left < 1 + (tot : Int)) := by
  unfold szAns
  by_cases hq : (q : Int) ≤ L
  · rw [if_pos hq]; left; omega
  · rw [if_neg hq]; right; omega
set_option maxHeartbeats 1000000 in
theorem sleft (t : T) : ∀ (left : Int) (v : Value) (w : World), Ex w w.heap.size v t → 0 ≤ left → left ≤ 1000000 → Calls Try.prog 44 #[v, .int .i64 left] w fun e w' => e = .returned (.int .i64 (szAns (cntT t) left)) ∧ Below w.heap.size w w' := by
  induction t using T.ind with
  | h k n s ks ih =>
    intro left v w hv h0 h1
    obtain ⟨A, c, vs, rfl, hs, hl, hk⟩ := hv.kids
    have hb1 := box_below w (.cells #[.int .i64 k, .int .i64 n, sv s, .slice A ks.length c] 26)
    have hblk := hid (box_blk w k n s A ks.length c 26)
    have hk1 := hid (hk.go hb1)
    have hmk := hid (cntT_mk k n s ks)
    have hz := hid (show cntK (ks.take 0) = 0 by simp [cntK])
    have hb1 := hid hb1
    clear hk hv
    generalize hL : ks.length = N at *
    go_enter Try.func44, Try.ntmps44
    go_wp2_with fail
    generalize (w.alloc (.cells #[.int .i64 k, .int .i64 n, sv s, .slice A N c] 26)) = w1 at *
    go_loopw [1, 5] (fun a i wr => ∃ (m : Nat) (L : Int), m ≤ N ∧ i = .int .i64 m ∧ a = .int .i64 L ∧ ((0 ≤ L ∧ L = left - 1 - (cntK (ks.take m) : Int)) ∨ (L = -1 ∧ left < 1 + (cntK ks : Int))) ∧ Below w1.heap.size w1 wr) (fun _ i _ => N - (Go.RowKit.intOf i).toNat)
    case atStart => exact ⟨0, left - 1, Nat.zero_le _, rfl, rfl, by rw [hz.out]; omega, Below.refl _ _⟩
    case round =>
      obtain ⟨m, L, hm, rfl, rfl, hcase, hb⟩ := hrel
      have b3 : wr.cell? ⟨w.heap.size, 3, none⟩ = some (.slice A N c) := (hblk.out.below hb hblk.out.lt).cell 3
      rcases hcase with ⟨hL0, hLe⟩ | ⟨hLe, hover⟩
      · have t2 : decide (0 ≤ L) = true := decide_eq_true hL0
        by_cases hlt : m < N
        · have hkr := hk1.out.go hb
          obtain ⟨ad, rfl, _, c0, c1, c2, c3, e, k0, k1, k2, k3⟩ := hkr.cell m (by omega)
          have hkid := hkr.kid m _ (List.getElem?_eq_getElem (by omega))
          have hst := hid (cntK_take (ks := ks) (m := m) (by omega))
          have hle := hid (cntK_le ks (m + 1))
          have hck := hid (ih ks[m] (List.getElem_mem _) L _ wr hkid hL0 (by omega))
          rw [e] at hck
          have hnext := hid (show (0 ≤ szAns (cntT ks[m]) L ∧ szAns (cntT ks[m]) L = left - 1 - (cntK (ks.take (m + 1)) : Int)) ∨ (szAns (cntT ks[m]) L = -1 ∧ left < 1 + (cntK ks : Int)) by
            have h2 := hle.out
            rw [hst.out] at h2 ⊢
            exact left_next hLe h2)
          have hb := hid hb
          replace hLe := hid hLe
          clear hkid hkr e hle
          generalize szAns (cntT ks[m]) L = L' at *
          go_wp2_with fail
          refine hck.out.mono ?_
          rintro e w2 ⟨rfl, hb2⟩
          have hb2 := hid (hb.out.trans (hb2.mono hb.out.size))
          go_wp2_with fail
          exact ⟨⟨m + 1, L', hlt, by go_num, rfl, hnext.out, hb2.out⟩, by simp [Go.RowKit.intOf]; omega⟩
        · obtain rfl : m = N := by omega
          have hf := hid (show szAns (cntT (.mk k n s ks)) left = L by
            rw [List.take_of_length_le (by omega)] at hLe
            rw [hmk.out]; unfold szAns; rw [if_pos (by omega)]; omega)
          have hb := hid hb
          replace hLe := hid hLe
          go_wp2_with fail
          go_ret
          exact ⟨by rw [hf.out]; rfl, hb1.out.trans (hb.out.mono hb1.out.size)⟩
      · subst hLe
        have hf := hid (show szAns (cntT (.mk k n s ks)) left = -1 by
          rw [hmk.out]; unfold szAns; rw [if_neg (by omega)])
        have hb := hid hb
        clear hover
        by_cases hlt : m < N
        · go_wp2_with fail
          go_ret
          exact ⟨by rw [hf.out]; rfl, hb1.out.trans (hb.out.mono hb1.out.size)⟩
        · obtain rfl : m = N := by omega
          go_wp2_with fail
          go_ret
          exact ⟨by rw [hf.out]; rfl, hb1.out.trans (hb.out.mono hb1.out.size)⟩
end Go.Proofs.Ytlkfejcnkckgkaa.Tr
