/- FormatTokens: the program's and the model's. -/
import Derived.Test.YtgjdccibdgedbaaDoorTz
import Derived.Test.YtgjdccibdgedbaaDoorC1j
import Derived.Test.YtgjdccibdgedbaaDoorL1b
set_option maxRecDepth 100000
namespace Go.Proofs.YtgjdccibdgedbaaDoor.Tk
open Go.RowKit Go.Lib Go.Sort Go.Proofs.YtgjdccibdgedbaaDoor.Num Go.Proofs.YtgjdccibdgedbaaDoor.Com Go.Proofs.YtgjdccibdgedbaaDoor.Mem Go.Proofs.YtgjdccibdgedbaaDoor.Os Go.Proofs.YtgjdccibdgedbaaDoor.Ow Go.Proofs.YtgjdccibdgedbaaDoor.L1b

/-- a token's text -/
def txtT (t : Tok) : List UInt8 := if t.k = 1 ∨ t.k = 3 then t.s else if t.k = 2 then itoa t.n else []
def fmtT (l : List Tok) : List UInt8 := Lib.join (l.map txtT) [32]
def FitT (t : Tok) : Prop := -9223372036854775808 ≤ t.n ∧ t.n ≤ 9223372036854775807
theorem txtT_len {t : Tok} (h : FitT t) : (txtT t).length ≤ t.s.length + 21 := by
  unfold txtT
  split
  · omega
  · split
    · have := itoa_size t.n h.1 h.2; omega
    · simp
theorem sum_txt : ∀ {l : List Tok}, (∀ t ∈ l, FitT t) → ((l.map txtT).map List.length).sum ≤ ((l.map Tok.s).map List.length).sum + l.length * 21
  | [], _ => by simp
  | t :: r, h => by
    have h1 := txtT_len (h t (by simp))
    have h2 := sum_txt (l := r) (fun x hx => h x (by simp [hx]))
    simp only [List.map_cons, List.sum_cons, List.length_cons]
    omega
theorem fmt_bound {l : List Tok} (h : ∀ t ∈ l, FitT t) (hz : szK l ≤ 1048576) : ∀ k, (C1j.jn [32] (l.map txtT) k).length + 1 ≤ 140737488355328 := by
  intro k
  have h1 := C1j.jl_len [32] ((l.map txtT).take k)
  have h2 := Lh.sum_le (l.map txtT) k
  have h3 := sum_txt h
  unfold szK Lh.szL at hz
  have h4 : ((l.map txtT).take k).length ≤ l.length := by rw [List.length_take, List.length_map]; omega
  rw [List.length_map] at hz
  unfold C1j.jn
  simp only [List.length_singleton, Nat.mul_one] at h1
  omega
theorem fmt_len {l : List Tok} (h : ∀ t ∈ l, FitT t) (hz : szK l ≤ 1048576) : (fmtT l).length ≤ 140737488355328 := by
  have := fmt_bound h hz l.length
  unfold C1j.jn at this
  rw [List.take_of_length_le (by simp)] at this
  unfold fmtT
  rw [C1j.join_jl]
  omega
/-- Join over a slice that the call has built -/
theorem join_grown {e : TypeId} {w0 w : World} {v : Value} {l : List (List UInt8)} (h : Grow e w0 w v (l.map sv)) (sep : List UInt8) (hj : (Lib.join l sep).length ≤ 140737488355328) (hl : l.length ≤ 140737488355328) :
    Calls Tryd.prog 43 #[v, .string ⟨sep.toArray⟩] w fun e w' => e = .returned (.string ⟨(Lib.join l sep).toArray⟩) ∧ Below w.heap.size w w' := by
  obtain ⟨A, c, hv, hc, hm, hrd, _⟩ := h.len
  rw [List.length_map] at hv hc
  subst hv
  by_cases h0 : l = []
  · subst h0
    refine (Tryd.strings_Join_none A c ⟨sep.toArray⟩ w).mono ?_
    rintro e w' ⟨rfl, rfl⟩
    exact ⟨rfl, Below.refl _ _⟩
  · obtain ⟨ad, rfl, hb, hcell⟩ := hrd (by simpa using h0)
    have hmap : (l.map fun x : List UInt8 => (⟨x.toArray⟩ : ByteArray)).map (·.data.toList) = l := by
      rw [List.map_map]; conv => rhs; rw [← List.map_id l]
      exact List.map_congr_left fun x _ => rfl
    obtain ⟨ad0, had⟩ : ∃ g, ad = ⟨g, 0, none⟩ := by
      obtain ⟨A', c', hv', _, _, _, hz⟩ := h.len
      injection hv' with e1
      subst e1
      exact ⟨_, (hz ad rfl).1⟩
    subst had
    have hcall := Tryd.strings_Join ad0 0 c (l.map fun x => ⟨x.toArray⟩) ⟨sep.toArray⟩ w (fun j x hx => by
      rw [Nat.zero_add]
      have := hcell j (.string x) (by
        rw [List.getElem?_map] at hx ⊢
        cases hq : l[j]? with
        | none => rw [hq] at hx; cases hx
        | some y => rw [hq] at hx; cases hx; rfl)
      rwa [add_zero] at this) hb (by simpa using hl) (by simpa using hc) (by rw [hmap]; exact hj)
    rw [hmap, List.length_map] at hcall
    exact hcall
set_option maxHeartbeats 400000 in
theorem ijoin_grown {e : TypeId} {w0 w : World} {v : Value} {l : List (List UInt8)} (h : Grow e w0 w v (l.map sv)) (sep : List UInt8) (hj : (Lib.join l sep).length ≤ 140737488355328) (hl : l.length ≤ 140737488355328) :
    Calls Tryd.prog 24 #[v, .string ⟨sep.toArray⟩] w fun e w' => e = .returned (.string ⟨(Lib.join l sep).toArray⟩) ∧ Below w.heap.size w w' := by
  have hcall := join_grown h sep hj hl
  obtain ⟨A, c, hv, _⟩ := h.len
  rw [List.length_map] at hv
  subst hv
  replace hcall := hid hcall
  clear h hj
  go_enter Tryd.func24, Tryd.ntmps24
  go_wp2_with fail
  refine hcall.out.mono ?_
  rintro e w' ⟨rfl, hb⟩
  go_wp2_with fail
  go_ret
  exact ⟨rfl, hb⟩
set_option maxHeartbeats 1000000 in
theorem ifmt1 (t : Tok) (hf : FitT t) (w : World) (hp : Pow w) : Calls Tryd.prog 23 #[tv t] w fun e w' => e = .returned (sv (txtT t)) ∧ Below w.heap.size w w' := by
  obtain ⟨k, n, p, x⟩ := t
  have hb0 := hid ((Below.refl w.heap.size w).alloc (Nat.le_refl _) (.cells (tcs ⟨k, n, p, x⟩).toArray TK))
  have hitoa := hid (implFormat n hf.1 hf.2 _ (hp.below hb0.out))
  clear hp hf
  by_cases h1 : k = 1
  · subst h1
    have hf := hid (show txtT ⟨1, n, p, x⟩ = x from rfl)
    go_enter Tryd.func23, Tryd.ntmps23
    go_wp2_with fail
    go_ret
    exact ⟨by rw [hf.out]; rfl, hb0.out⟩
  have e1 : (k == 1) = false := beq_false_of_ne h1
  by_cases h3 : k = 3
  · subst h3
    have hf := hid (show txtT ⟨3, n, p, x⟩ = x from rfl)
    clear e1 h1
    go_enter Tryd.func23, Tryd.ntmps23
    go_wp2_with fail
    go_ret
    exact ⟨by rw [hf.out]; rfl, hb0.out⟩
  have e3 : (k == 3) = false := beq_false_of_ne h3
  by_cases h2 : k = 2
  · subst h2
    have hf := hid (show txtT ⟨2, n, p, x⟩ = itoa n from rfl)
    clear e1 e3 h1 h3
    go_enter Tryd.func23, Tryd.ntmps23
    go_wp2_with fail
    refine hitoa.out.mono ?_
    rintro e w1 ⟨rfl, hb⟩
    go_wp2_with fail
    go_ret
    exact ⟨by rw [hf.out]; rfl, hb0.out.trans (hb.mono hb0.out.size)⟩
  · have e2 : (k == 2) = false := beq_false_of_ne h2
    have hf := hid (show txtT ⟨k, n, p, x⟩ = [] by unfold txtT; rw [if_neg (fun e => e.elim h1 h3), if_neg h2])
    clear h1 h2 h3
    go_enter Tryd.func23, Tryd.ntmps23
    go_wp2_with fail
    go_ret
    exact ⟨by rw [hf.out]; rfl, hb0.out⟩
theorem take_txt {l : List Tok} {m : Nat} (h : m < l.length) : ((l.take (m + 1)).map txtT).map sv = ((l.take m).map txtT).map sv ++ [sv (txtT l[m])] := by
  rw [List.take_succ_eq_append_getElem h, List.map_append, List.map_append]; rfl
set_option maxHeartbeats 2000000 in
theorem ifmt (A : Option Addr) (c : Nat) (l : List Tok) (w : World) (h : Rd w w.heap.size A (cellsT l)) (hf : ∀ t ∈ l, FitT t) (hz : szK l ≤ 1048576) (hp : Pow w) :
    Calls Tryd.prog 9 #[.slice A l.length c] w fun e w' => e = .returned (sv (fmtT l)) ∧ Below w.heap.size w w' := by
  have hll : l.length ≤ 1048576 := by unfold szK Lh.szL at hz; rw [List.length_map] at hz; omega
  have hG0 := hid (Grow.nil_ w 9 (Below.refl w.heap.size w))
  have hjb := fmt_len hf hz
  unfold fmtT at hjb
  have hjoin := hid (fun (w1 : World) (v : Value) (hG : Grow 9 w w1 v (((l.take l.length).map txtT).map sv)) => ijoin_grown (by rw [List.take_of_length_le (Nat.le_refl _)] at hG; exact hG) [32] hjb (by rw [List.length_map]; omega))
  clear hjb
  go_enter Tryd.func9, Tryd.ntmps9
  go_wp2_with fail
  go_loopw [3, 8] (fun o i wr => ∃ m : Nat, m ≤ l.length ∧ i = .int .i64 m ∧ Grow 9 w wr o (((l.take m).map txtT).map sv)) (fun _ i _ => l.length - (Go.RowKit.intOf i).toNat)
  case atStart => exact ⟨0, Nat.zero_le _, rfl, hG0.out⟩
  case round =>
    obtain ⟨m, hml, rfl, hG⟩ := hrel
    have hb := hid hG.2
    have hG := hid hG
    by_cases hlt : m < l.length
    · obtain ⟨ad, rfl, _, k0, k1, k2, k3⟩ := rd_tok (h.below hb.out) hlt
      have hst := hid (take_txt hlt)
      have hq : ((((l.take m).map txtT).map sv)).length < 1000000000000 := by simp; omega
      have hc1 := hid (fun (w1 : World) (hb1 : Below w.heap.size w w1) => ifmt1 l[m] (hf _ (List.getElem_mem _)) w1 (hp.below hb1))
      have hb1 := hid (hb.out.alloc hb.out.size (.cells (tcs l[m]).toArray TK))
      have hG1 := hid (hG.out.below (B := wr.heap.size) ((Below.refl wr.heap.size wr).alloc (Nat.le_refl _) (.cells (tcs l[m]).toArray TK)) (Nat.le_refl _))
      go_wp2_with fail
      refine (hc1.out _ hb1.out).mono ?_
      rintro e w2 ⟨rfl, hb2⟩
      have hG2 := hid (hG1.out.below hb2 (Nat.le_refl _))
      clear hb2
      go_wp2_with (at_builtin; refine hG2.out.append strT (sv (txtT l[m])) rfl hq rfl _ _ rfl rfl rfl ?_; intro v5 w5 hG5 _ _; replace hG5 := hid hG5)
      exact ⟨⟨m + 1, hlt, by go_num, by rw [hst.out]; exact hG5.out⟩, by simp [Go.RowKit.intOf]; omega⟩
    · obtain rfl : m = l.length := by omega
      have hend := hid (hjoin.out wr _ hG.out)
      go_wp2_with fail
      refine hend.out.mono ?_
      rintro e w2 ⟨rfl, hb2⟩
      go_wp2_with fail
      go_ret
      exact ⟨rfl, hb.out.trans (hb2.mono hb.out.size)⟩
set_option maxHeartbeats 4000000 in
theorem sfmt (A : Option Addr) (c : Nat) (l : List Tok) (w : World) (h : Rd w w.heap.size A (cellsT l)) (hf : ∀ t ∈ l, FitT t) (hz : szK l ≤ 1048576) :
    Calls Tryd.prog 12 #[.slice A l.length c] w fun e w' => e = .returned (sv (fmtT l)) ∧ Below w.heap.size w w' := by
  have hll : l.length ≤ 1048576 := by unfold szK Lh.szL at hz; rw [List.length_map] at hz; omega
  have hG0 := hid (Grow.lit0 9 w)
  have hjb := fmt_bound hf hz
  have hjoin := hid (fun (w1 : World) (v : Value) (hG : Grow 9 w w1 v (((l.take l.length).map txtT).map sv)) => show Calls Tryd.prog 27 #[v, .string ⟨#[32]⟩] w1 fun e w' => e = .returned (sv (fmtT l)) ∧ Below w1.heap.size w1 w' from by
    rw [List.take_of_length_le (Nat.le_refl _)] at hG
    obtain ⟨A', c', hv, hc', _, hrd, _⟩ := hG.len
    rw [List.length_map] at hv
    rw [hv]
    exact C1j.specJoin A' c' (l.map txtT) [32] w1 hrd (by rw [List.length_map]; exact hll) (fun k _ => hjb k))
  clear hjb
  go_enter Tryd.func12, Tryd.ntmps12
  go_wp2_with fail
  go_loopw [3, 4] (fun o i wr => ∃ m : Nat, m ≤ l.length ∧ i = .int .i64 m ∧ Grow 9 w wr o (((l.take m).map txtT).map sv)) (fun _ i _ => l.length - (Go.RowKit.intOf i).toNat)
  case atStart => exact ⟨0, Nat.zero_le _, rfl, hG0.out⟩
  case round =>
    obtain ⟨m, hml, rfl, hG⟩ := hrel
    have hb := hid hG.2
    have hG := hid hG
    by_cases hlt : m < l.length
    · obtain ⟨ad, rfl, _, k0, k1, k2, k3⟩ := rd_tok (h.below hb.out) hlt
      have hst := hid (take_txt hlt)
      have hq : ((((l.take m).map txtT).map sv)).length < 1000000000000 := by simp; omega
      have hfm := hf _ (List.getElem_mem hlt)
      have hit := hid (fun w1 => C1.fmt_any l[m].n hfm.1 hfm.2 w1)
      generalize l[m] = t at *
      obtain ⟨k, n, p, x⟩ := t
      by_cases h1 : k = 1
      · subst h1
        replace hst := hid (show ((l.take (m + 1)).map txtT).map sv = ((l.take m).map txtT).map sv ++ [sv x] from hst.out)
        clear hit hfm
        go_wp2_with (at_builtin; refine hG.out.append strT (sv x) rfl hq rfl _ _ rfl rfl rfl ?_; intro v5 w5 hG5 _ _; replace hG5 := hid hG5)
        exact ⟨⟨m + 1, hlt, by go_num, by rw [hst.out]; exact hG5.out⟩, by simp [Go.RowKit.intOf]; omega⟩
      have e1 : (k == 1) = false := beq_false_of_ne h1
      by_cases h3 : k = 3
      · subst h3
        replace hst := hid (show ((l.take (m + 1)).map txtT).map sv = ((l.take m).map txtT).map sv ++ [sv x] from hst.out)
        clear hit hfm e1 h1
        go_wp2_with (at_builtin; refine hG.out.append strT (sv x) rfl hq rfl _ _ rfl rfl rfl ?_; intro v5 w5 hG5 _ _; replace hG5 := hid hG5)
        exact ⟨⟨m + 1, hlt, by go_num, by rw [hst.out]; exact hG5.out⟩, by simp [Go.RowKit.intOf]; omega⟩
      have e3 : (k == 3) = false := beq_false_of_ne h3
      by_cases h2 : k = 2
      · subst h2
        replace hst := hid (show ((l.take (m + 1)).map txtT).map sv = ((l.take m).map txtT).map sv ++ [sv (itoa n)] from hst.out)
        clear hfm e1 h1 e3 h3
        go_wp2_with fail
        refine (hit.out _).mono ?_
        rintro e w2 ⟨rfl, hb2⟩
        have hG2 := hid (hG.out.below hb2 (Nat.le_refl _))
        clear hb2
        go_wp2_with (at_builtin; refine hG2.out.append strT (sv (itoa n)) rfl hq rfl _ _ rfl rfl rfl ?_; intro v5 w5 hG5 _ _; replace hG5 := hid hG5)
        exact ⟨⟨m + 1, hlt, by go_num, by rw [hst.out]; exact hG5.out⟩, by simp [Go.RowKit.intOf]; omega⟩
      · have e2 : (k == 2) = false := beq_false_of_ne h2
        replace hst := hid (show ((l.take (m + 1)).map txtT).map sv = ((l.take m).map txtT).map sv ++ [sv []] from by
          rw [hst.out]; unfold txtT; rw [if_neg (fun e => e.elim h1 h3), if_neg h2])
        clear hit hfm h1 h2 h3
        go_wp2_with (at_builtin; refine hG.out.append strT (sv []) rfl hq rfl _ _ rfl rfl rfl ?_; intro v5 w5 hG5 _ _; replace hG5 := hid hG5)
        exact ⟨⟨m + 1, hlt, by go_num, by rw [hst.out]; exact hG5.out⟩, by simp [Go.RowKit.intOf]; omega⟩
    · obtain rfl : m = l.length := by omega
      have hend := hid (hjoin.out wr _ hG.out)
      go_wp2_with fail
      refine hend.out.mono ?_
      rintro e w2 ⟨rfl, hb2⟩
      go_wp2_with fail
      go_ret
      exact ⟨rfl, hb.out.trans (hb2.mono hb.out.size)⟩
end Go.Proofs.YtgjdccibdgedbaaDoor.Tk
