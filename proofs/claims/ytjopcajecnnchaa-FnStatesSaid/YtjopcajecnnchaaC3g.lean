/- Chapter 3: the lists of states, on both sides. -/
import Derived.Test.YtjopcajecnnchaaC3f
namespace Go.Proofs.Ytjopcajecnnchaa.C3
open Go.RowKit Go.Lib Go.Sort Go.Proofs.Ytjopcajecnnchaa.Com Go.Proofs.Ytjopcajecnnchaa.Mem Go.Proofs.Ytjopcajecnnchaa.Ow Go.Proofs.Ytjopcajecnnchaa.Os

/-- each list, with each word behind it -/
def extF (f : Nat → List Int) (i : Nat) : List Int := f (i / 4) ++ [((i % 4 : Nat) : Int)]
theorem sl_one (A : Option Addr) (n c : Nat) : (Value.slice A n c).oneCell' = true := rfl
theorem own_slice {e lo hi : Nat} {w : World} {v : Value} {xs : List Value} (h : Own e lo hi w v xs) : v.oneCell' = true := by
  obtain ⟨A, c, _, rfl, _⟩ := h; rfl

theorem concatW (u : Value) (lo hi : Nat) (l : List Int) (x : Int) (w : World) (hu : OwnI lo hi w u l) (hl : l.length ≤ 1000) :
    Calls Try.prog 48 #[.slice (some ⟨w.heap.size + 1, 0, none⟩) 2 2] ((w.alloc (.cells #[.int .i64 x] 3)).alloc (.cells #[u, .slice (some ⟨w.heap.size, 0, none⟩) 1 1] 34)) fun e w' => ∃ v, e = .returned v ∧ OwnI w.heap.size w'.heap.size w' v (l ++ [x]) ∧ Below w.heap.size w w' := by
  have s1 := size_alloc' w (.cells #[.int .i64 x] 3)
  have hB := Blk.new (w.alloc (.cells #[.int .i64 x] 3)) 34 [u, .slice (some ⟨w.heap.size, 0, none⟩) 1 1]
  rw [s1] at hB
  have b1 : Below w.heap.size w (w.alloc (.cells #[.int .i64 x] 3)) := (Below.refl _ _).alloc (Nat.le_refl _) _
  have b2 : Below w.heap.size w ((w.alloc (.cells #[.int .i64 x] 3)).alloc (.cells #[u, .slice (some ⟨w.heap.size, 0, none⟩) 1 1] 34)) := b1.alloc (by omega) _
  have hx := Blk.new w 3 [.int .i64 x]
  have hx2 : Blk ((w.alloc (.cells #[.int .i64 x] 3)).alloc (.cells #[u, .slice (some ⟨w.heap.size, 0, none⟩) 1 1] 34)) w.heap.size 3 ([x].map iv) := hx.alloc _
  have hv2 := Own.of_blk (lo := 0) hx2 (Nat.zero_le _) (by simp [maxLen])
  refine (concat2 (w.heap.size + 1) 2 u _ lo hi 0 _ l [x] _ hB (below_same hu b2) hv2 (by simp) (by simp; omega)).mono ?_
  rintro e w' ⟨v, rfl, ho, hb⟩
  exact ⟨v, rfl, ho.mono b2.size (Nat.le_refl _), b2.trans (hb.mono b2.size)⟩

set_option maxHeartbeats 4000000 in
theorem extend_any (A : Option Addr) (c lo hi : Nat) (vs : List Value) (f : Nat → List Int) (w : World) (hr : Rd w w.heap.size A vs) (hin : Inn lo hi w vs f) (hn : vs.length ≤ 1000) (hf : ∀ i, i < vs.length → (f i).length ≤ 1000) :
    Calls Try.prog 33 #[.slice A vs.length c] w fun e w' => ∃ v' vs', e = .returned v' ∧ Bld w w' v' vs' (extF f) ∧ vs'.length = 4 * vs.length := by
  generalize hN : vs.length = n at *
  go_enter Try.func33, Try.ntmps33
  go_wp2_with fail
  go_loopw [3, 9] (fun o i wr => ∃ (k : Nat) (vs' : List Value), k ≤ n ∧ i = .int .i64 k ∧ Bld w wr o vs' (extF f) ∧ vs'.length = 4 * k) (fun _ i _ => n - (Go.RowKit.intOf i).toNat)
  case atStart => exact ⟨0, [], Nat.zero_le _, rfl, ⟨Grow.nil_ _ _ (Below.refl _ _), fun i v h => by simp at h, fun i j v v' g _ h => by simp at h⟩, rfl⟩
  case round =>
    obtain ⟨k, vs', hk, rfl, hb, hl⟩ := hrel
    by_cases hlt : k < n
    · obtain ⟨ad, u, rfl, _, hu, hc⟩ := rd_val (hr.below hb.1.2) (k := k) (by omega)
      obtain ⟨Au, cu, hus, hrest⟩ := (hin.at_ k u hu).read_
      clear hrest
      subst hus
      have hcat := hid (fun (x : Int) (w2 : World) (hb2 : Below w.heap.size w w2) => concatW _ lo hi (f k) x w2 (below_same (hin.at_ k _ hu) hb2) (hf k hlt))
      have hb := hid hb
      have hf := hid hf
      clear hu
      go_wp2_with fail
      go_loopw [3, 13] (fun o j wr2 => ∃ (m : Nat) (vs2 : List Value), m ≤ 4 ∧ j = .int .i64 m ∧ Bld w wr2 o vs2 (extF f) ∧ vs2.length = 4 * k + m) (fun _ j _ => 4 - (Go.RowKit.intOf j).toNat)
      case atStart => exact ⟨0, vs', Nat.zero_le _, rfl, hb.out, hl⟩
      case round =>
        clear hc hb
        obtain ⟨m, vs2, hm, rfl, hB, hl2⟩ := hrel
        by_cases hlt2 : m < 4
        · have t1 : decide ((m : Int) < 4) = true := decide_eq_true (by omega)
          have hck := hid (hcat.out (m : Int) _ hB.1.2)
          have hB := hid hB
          have e1 : extF f vs2.length = f k ++ [((m : Nat) : Int)] := by
            unfold extF
            rw [hl2, show (4 * k + m) / 4 = k by omega, show (4 * k + m) % 4 = m by omega]
          have e1 := hid e1
          go_wp2_with fail
          refine hck.out.mono ?_
          rintro e w3 ⟨v, rfl, ho, hb3⟩
          have hg3 := hid (hB.out.1.below hb3 (Nat.le_refl _))
          obtain ⟨Av, cv, hvs, hrest⟩ := ho.read_
          clear hrest
          rw [show (f k ++ [((m : Nat) : Int)]).length = (f k).length + 1 by simp] at hvs
          subst hvs
          have ho := hid ho
          have hb3 := hid hb3
          go_wp2_with (at_builtin; refine hg3.out.append sliT _ rfl (by omega) rfl _ _ rfl rfl rfl ?_; intro v4 w4 hg4 hgb4 _; have hg4 := hid hg4; have hgb4 := hid hgb4)
          exact ⟨⟨m + 1, vs2 ++ [_], hlt2, by go_num, hB.out.step hb3.out (by rw [e1.out]; exact ho.out) hg4.out hgb4.out, by rw [List.length_append, hl2]; simp; omega⟩, by simp [Go.RowKit.intOf]; omega⟩
        · obtain rfl : m = 4 := by omega
          have hB := hid hB
          go_wp2_with fail
          exact ⟨⟨k + 1, vs2, hlt, by go_num, hB.out, by omega⟩, by simp [Go.RowKit.intOf]; omega⟩
    · obtain rfl : k = n := by omega
      go_wp2_with fail
      go_ret
      exact ⟨_, vs', rfl, hb, hl⟩
theorem extend_own {lo hi n : Nat} {v : Value} {f : Nat → List Int} (w : World) (h : OwnF lo hi w v n f) (hn : n ≤ 1000) (hf : ∀ i, i < n → (f i).length ≤ 1000) :
    Calls Try.prog 33 #[v] w fun e w' => ∃ v', e = .returned v' ∧ OwnF w.heap.size w'.heap.size w' v' (4 * n) (extF f) ∧ Below w.heap.size w w' := by
  obtain ⟨vs, rfl, o, i⟩ := h
  obtain ⟨A, c, rfl, hr, _⟩ := o.read
  refine (extend_any A c lo hi vs f w hr i hn hf).mono ?_
  rintro e w' ⟨v', vs', rfl, hb, hl⟩
  rw [← hl]
  exact ⟨v', rfl, hb.own, hb.1.2⟩

/-- all lists of n words -/
def statesL (n : Int) : List (List Int) :=
  if n = 0 then [[]] else if n = 1 then [[0], [1], [2], [3]]
  else if n = 2 then [[0, 0], [0, 1], [0, 2], [0, 3], [1, 0], [1, 1], [1, 2], [1, 3], [2, 0], [2, 1], [2, 2], [2, 3], [3, 0], [3, 1], [3, 2], [3, 3]] else []
theorem states_not {n : Int} (h : n < 0 ∨ 2 < n) : statesL n = [] := by unfold statesL; repeat (rw [if_neg (by omega)])
theorem states_tot (n : Int) : totL (statesL n) ≤ 1048576 := by
  by_cases h : 0 ≤ n ∧ n ≤ 2
  · have : n = 0 ∨ n = 1 ∨ n = 2 := by omega
    rcases this with rfl | rfl | rfl <;> decide
  · rw [states_not (by omega)]; decide
/-- the one list of no words -/
theorem one_own {w w' : World} {g g' : Nat} (h1 : Blk w' g 3 []) (h2 : Blk w' g' 34 [.slice (some ⟨g, 0, none⟩) 0 0]) (l1 : w.heap.size ≤ g) (l2 : w.heap.size ≤ g') :
    OwnF w.heap.size w'.heap.size w' (.slice (some ⟨g', 0, none⟩) 1 1) 1 (fun _ => []) := by
  refine ⟨[.slice (some ⟨g, 0, none⟩) 0 0], rfl, Own.of_blk h2 l2 (by simp [maxLen]), fun i v hv => ?_, fun i j v v' k hij hv hv' => ?_⟩
  · have : i = 0 := by
      rcases Nat.eq_zero_or_pos i with h | h
      · exact h
      · rw [List.getElem?_eq_none (by simp; omega)] at hv; cases hv
    subst this
    cases hv
    exact Own.of_blk (xs := []) h1 l1 (by simp [maxLen])
  · have : i = 0 ∧ j = 0 := by
      constructor
      · rcases Nat.eq_zero_or_pos i with h | h
        · exact h
        · rw [List.getElem?_eq_none (by simp; omega)] at hv; cases hv
      · rcases Nat.eq_zero_or_pos j with h | h
        · exact h
        · rw [List.getElem?_eq_none (by simp; omega)] at hv'; cases hv'
    omega
set_option maxHeartbeats 1000000 in
theorem all_not (n : Int) (h : n < 0 ∨ 2 < n) (w : World) :
    Calls Try.prog 19 #[.int .i64 n] w fun e w' => e = .returned (.slice none 0 0) ∧ w = w' := by
  by_cases h0 : n < 0
  · have t1 : decide (n < 0) = true := decide_eq_true h0
    go_enter Try.func19, Try.ntmps19
    go_wp2_with fail
    go_ret
    exact ⟨rfl, rfl⟩
  · have t1 : decide (n < 0) = false := decide_eq_false h0
    have t2 : decide (2 < n) = true := decide_eq_true (by omega)
    go_enter Try.func19, Try.ntmps19
    go_wp2_with fail
    go_ret
    exact ⟨rfl, rfl⟩
theorem start_own (w : World) : OwnF w.heap.size ((w.alloc (Obj.cells #[] 3)).alloc (Obj.cells #[Value.slice (some ⟨w.heap.size, 0, none⟩) 0 0] 34)).heap.size ((w.alloc (Obj.cells #[] 3)).alloc (Obj.cells #[Value.slice (some ⟨w.heap.size, 0, none⟩) 0 0] 34)) (.slice (some ⟨w.heap.size + 1, 0, none⟩) 1 1) 1 (fun _ => []) := by
  have s1 := size_alloc' w (.cells #[] 3)
  have hB := Blk.new (w.alloc (.cells #[] 3)) 34 [Value.slice (some ⟨w.heap.size, 0, none⟩) 0 0]
  rw [s1] at hB
  exact one_own ((Blk.new w 3 []).alloc _) hB (Nat.le_refl _) (by omega)
theorem start_below (w : World) : Below w.heap.size w ((w.alloc (Obj.cells #[] 3)).alloc (Obj.cells #[Value.slice (some ⟨w.heap.size, 0, none⟩) 0 0] 34)) :=
  ((Below.refl _ _).alloc (Nat.le_refl _) _).alloc (by rw [size_alloc']; omega) _
set_option maxHeartbeats 1000000 in
theorem all_0 (w : World) :
    Calls Try.prog 19 #[.int .i64 0] w fun e w' => ∃ v, e = .returned v ∧ OwnF w.heap.size w'.heap.size w' v 1 (fun _ => []) ∧ Below w.heap.size w w' := by
  have h1 := hid (start_own w)
  have h2 := hid (start_below w)
  go_enter Try.func19, Try.ntmps19
  go_wp2_with fail
  refine wp_loop_rounds 1 ?_; rw [rounds_succ]
  go_wp2_with fail
  go_ret
  exact ⟨_, rfl, h1.out, h2.out⟩
set_option maxHeartbeats 1000000 in
theorem all_1 (w : World) :
    Calls Try.prog 19 #[.int .i64 1] w fun e w' => ∃ v, e = .returned v ∧ OwnF w.heap.size w'.heap.size w' v (4 * 1) (extF fun _ => []) ∧ Below w.heap.size w w' := by
  have h2 := hid (start_below w)
  have h3 := hid (extend_own _ (start_own w) (by decide) (fun _ _ => by simp))
  go_enter Try.func19, Try.ntmps19
  go_wp2_with fail
  refine wp_loop_rounds 2 ?_; rw [rounds_succ]
  go_wp2_with fail
  refine h3.out.mono ?_
  rintro e w2 ⟨v, rfl, ho, hb⟩
  have ho := hid ho
  have hb := hid (h2.out.trans (hb.mono h2.out.size))
  go_wp2_with fail
  rw [rounds_succ]
  go_wp2_with fail
  go_ret
  exact ⟨_, rfl, ho.out.mono h2.out.size (Nat.le_refl _), hb.out⟩
theorem ext_len (f : Nat → List Int) (i : Nat) : (extF f i).length = (f (i / 4)).length + 1 := by simp [extF]
set_option maxHeartbeats 1000000 in
theorem all_2 (w : World) :
    Calls Try.prog 19 #[.int .i64 2] w fun e w' => ∃ v, e = .returned v ∧ OwnF w.heap.size w'.heap.size w' v (4 * (4 * 1)) (extF (extF fun _ => [])) ∧ Below w.heap.size w w' := by
  have h2 := hid (start_below w)
  have h3 := hid (extend_own _ (start_own w) (by decide) (fun _ _ => by simp))
  go_enter Try.func19, Try.ntmps19
  go_wp2_with fail
  refine wp_loop_rounds 3 ?_; rw [rounds_succ]
  go_wp2_with fail
  refine h3.out.mono ?_
  rintro e w2 ⟨v, rfl, ho, hb⟩
  have h4 := hid (extend_own _ ho (by decide) (fun _ _ => by rw [ext_len]; simp))
  have hb := hid (h2.out.trans (hb.mono h2.out.size))
  clear ho
  go_wp2_with fail
  rw [rounds_succ]
  go_wp2_with fail
  refine h4.out.mono ?_
  rintro e w3 ⟨v, rfl, ho, hb2⟩
  have ho := hid ho
  have hb2 := hid (hb.out.trans (hb2.mono hb.out.size))
  go_wp2_with fail
  rw [rounds_succ]
  go_wp2_with fail
  go_ret
  exact ⟨_, rfl, ho.out.mono hb.out.size (Nat.le_refl _), hb2.out⟩
theorem nil_own (w : World) : OwnII w.heap.size w.heap.size w (.slice none 0 0) [] :=
  ⟨[], rfl, ⟨none, 0, [], rfl, Nat.le_refl _, by unfold maxLen; omega, fun _ => ⟨rfl, rfl⟩, (fun ad h => by cases h), rfl⟩, fun i v hv => by simp at hv, fun i j v v' g _ hv => by simp at hv⟩
theorem states_own {n : Int} (w : World) :
    Calls Try.prog 19 #[.int .i64 n] w fun e w' => ∃ v, e = .returned v ∧ OwnII w.heap.size w'.heap.size w' v (statesL n) ∧ Below w.heap.size w w' := by
  by_cases h : 0 ≤ n ∧ n ≤ 2
  · have : n = 0 ∨ n = 1 ∨ n = 2 := by omega
    rcases this with rfl | rfl | rfl
    · refine (all_0 w).mono ?_
      rintro e w' ⟨v, rfl, ho, hb⟩
      exact ⟨v, rfl, ho.congr (by decide), hb⟩
    · refine (all_1 w).mono ?_
      rintro e w' ⟨v, rfl, ho, hb⟩
      exact ⟨v, rfl, ho.congr (by decide), hb⟩
    · refine (all_2 w).mono ?_
      rintro e w' ⟨v, rfl, ho, hb⟩
      exact ⟨v, rfl, ho.congr (by decide), hb⟩
  · rw [states_not (by omega)]
    refine (all_not n (by omega) w).mono ?_
    rintro e w' ⟨rfl, rfl⟩
    exact ⟨_, rfl, nil_own w, Below.refl _ _⟩
end Go.Proofs.Ytjopcajecnnchaa.C3
