/- Chapter 5's draws: tokens, lists of tokens, bent texts. -/
import Derived.Test.YtgjdccibdgedbaaDoorC5f
import Derived.Test.YtgjdccibdgedbaaDoorDr0
set_option maxRecDepth 100000
namespace Go.Proofs.YtgjdccibdgedbaaDoor.Dr
open Go.RowKit Go.Lib Go.Proofs.YtgjdccibdgedbaaDoor.Com Go.Proofs.YtgjdccibdgedbaaDoor.Mem Go.Proofs.YtgjdccibdgedbaaDoor.Cur Go.Proofs.YtgjdccibdgedbaaDoor.Os Go.Proofs.YtgjdccibdgedbaaDoor.Ow Go.Proofs.YtgjdccibdgedbaaDoor.Tk

section
variable {w w1 w2 : World} {g c : Nat} {A : Option Addr} {xs : List UInt8}
theorem dr_then (h : Drew w g A c xs w1) (k : Drew w1 g A c xs w2) : Drew w g A c xs w2 := ⟨k.1, gb_trans h.2 k.2⟩
theorem dr_below (h : Drew w g A c xs w1) (hb : Below w1.heap.size w1 w2) : Drew w g A c xs w2 := ⟨cur_below h.1 (hb.mono (cur_lt h.1)), gb_below h.2 hb⟩
theorem dr_set (h : Drew w g A c xs w1) {b : Nat} (hb : w.heap.size ≤ b) (hg : g < b) (i : Nat) (u : Value) : Drew w g A c xs (w1.setCell ⟨b, i, none⟩ u) := by
  refine ⟨?_, ?_⟩
  · exact cur_below h.1 ((Below.refl (g + 1) w1).setCell (p := ⟨b, i, none⟩) hg u)
  · have := h.2
    exact ⟨this.os, this.tape, this.output, by simpa [World.setCell] using this.size, fun k hk hr => (heap_setCell_other w1 _ k u (by show k ≠ b; omega)).trans (this.block k hk hr)⟩
theorem dr_put (h : Drew w g A c xs w1) {b : Nat} (hb : w.heap.size ≤ b) (hg : g < b) (m : Nat) (t : Tok) : Drew w g A c xs (putK w1 b m t) := dr_set (dr_set (dr_set (dr_set h hb hg _ _) hb hg _ _) hb hg _ _) hb hg _ _
theorem row_gb {base : Nat} {v : Value} {l : List Tok} (h : RowT w1 base v l) (hd : w1.grownBy w2 (some g)) (hg : g < base) : RowT w2 base v l :=
  h.kept hd (by
    cases hv : v.ownBlock with
    | none => exact Or.inl rfl
    | some b => exact Or.inr (fun e => by have := (h.lt b hv).1; have := Option.some.inj e; omega))
theorem dr_row {v : Value} {l : List Tok} (h : Drew w g A c xs w1) (hr : RowT w1 w.heap.size v l) (hg : w1.grownBy w2 v.ownBlock) (hcl : g < w.heap.size) : Drew w g A c xs w2 := by
  have hbl : ∀ b, v.ownBlock = some b → w.heap.size ≤ b := fun b hb => (hr.lt b hb).1
  have hws := h.2.size
  refine ⟨?_, ?_⟩
  · exact cur_below h.1 ((Below.refl (g + 1) w1).grown hg (by have := cur_lt h.1; omega) (fun b hb => by have := hbl b hb; omega))
  · exact ⟨hg.os.trans h.2.os, hg.tape.trans h.2.tape, hg.output.trans h.2.output, Nat.le_trans hws hg.size, fun b hb hne => (hg.block b (by omega) (fun e => by have := hbl b e.symm; omega)).trans (h.2.block b hb hne)⟩
end
def SmallT (t : Tok) : Prop := FitT t ∧ t.s.length ≤ 8
def nameW : List (List UInt8) := [[120], [121, 49], [105, 102], [119, 104, 105, 108, 101], [97, 98, 99, 100, 101, 102, 103, 104]]
def symW : List (List UInt8) := [[40], [41], [123], [125], [59], [43], [45], [42], [47], [60], [38], [124], [33], [61, 61], [58, 61]]
set_option maxHeartbeats 2000000 in
theorem token_any (g : Nat) (A : Option Addr) (c : Nat) (xs : List UInt8) (w : World) (hc : CurAt w g A c xs) :
    Calls Tryd.prog 31 #[.pointer (some ⟨g, 0, none⟩)] w fun e w' => (∃ t : Tok, e = .returned (tv t) ∧ SmallT t) ∧ Drew w g A c xs w' := by
  have hcl := cur_lt hc
  have R0 := hid (Blk.new w TK (tcs ⟨0, 0, 0, []⟩))
  have hb1 := hid (below_any g A c xs 3 (w.alloc (.cells (tcs ⟨0, 0, 0, []⟩).toArray TK)) (cur_alloc hc _) (by omega) (by omega))
  clear hc
  go_enter Tryd.func31, Tryd.ntmps31
  go_wp2_with fail
  refine hb1.out.mono ?_
  rintro e w1 ⟨⟨q, rfl, hq, _⟩, hd⟩
  have R1 := hid (R0.out.gb hd.2 (by omega))
  have D1 := hid (drew_alloc hd)
  clear hd hb1 R0
  have fin : ∀ (w2 : World) (t : Tok), Drew w1 g A c xs w2 → (Blk w2 w.heap.size TK (tcs ⟨0, 0, 0, []⟩) ∧ Hid (Blk (putK w2 w.heap.size 0 t) w.heap.size TK (tcs t)) ∧ Hid (Drew w g A c xs (putK w2 w.heap.size 0 t))) := fun w2 t hd => by
    have R2 := R1.out.gb hd.2 (by omega)
    exact ⟨R2, hid (putK_blk R2 t), hid (dr_put (dr_then D1.out hd) (Nat.le_refl _) hcl 0 t)⟩
  have hq2 : q = 0 ∨ q = 1 ∨ q = 2 := by omega
  rcases hq2 with rfl | rfl | rfl
  · go_wp2_with fail
    refine (pick_lit g A c xs nameW w1 D1.out.1 (by decide) (by decide)).mono ?_
    rintro e w2 ⟨⟨s, hs, rfl⟩, hd⟩
    obtain ⟨R2, F2, D2⟩ := fin w2 ⟨1, 0, 0, s⟩ hd
    obtain ⟨c0, c1, c2, c3⟩ := four R2
    have f0 := R2.frozen 0
    have f1 := R2.frozen 1
    have f2 := R2.frozen 2
    have f3 := R2.frozen 3
    have hs8 : s.length ≤ 8 := (show ∀ s ∈ nameW, s.length ≤ 8 by decide) s hs
    clear hd R2 fin
    go_wp2_with fail
    refine bodyPost_ret (results_cell_row Tryd.results31 _ _ w.heap.size 30 _ (0, 0) _ rfl F2.out Tryd.underlying30 rfl (by kernel_rfl)) rfl ?_
    exact ⟨⟨⟨1, 0, 0, s⟩, rfl, ⟨show (-9223372036854775808 : Int) ≤ 0 by decide, show (0 : Int) ≤ 9223372036854775807 by decide⟩, hs8⟩, D2.out⟩
  · go_wp2_with fail
    refine (below_any g A c xs 4 w1 D1.out.1 (by omega) (by omega)).mono ?_
    rintro e w2 ⟨⟨m, rfl, hm, _⟩, hd⟩
    obtain ⟨R2, F2, D2⟩ := fin w2 ⟨2, m, 0, []⟩ hd
    obtain ⟨c0, c1, c2, c3⟩ := four R2
    have f0 := R2.frozen 0
    have f1 := R2.frozen 1
    have f2 := R2.frozen 2
    have f3 := R2.frozen 3
    clear hd R2 fin
    go_wp2_with fail
    refine bodyPost_ret (results_cell_row Tryd.results31 _ _ w.heap.size 30 _ (0, 0) _ rfl F2.out Tryd.underlying30 rfl (by kernel_rfl)) rfl ?_
    exact ⟨⟨⟨2, m, 0, []⟩, rfl, ⟨show -9223372036854775808 ≤ (m : Int) by omega, show (m : Int) ≤ 9223372036854775807 by omega⟩, Nat.zero_le _⟩, D2.out⟩
  · go_wp2_with fail
    refine (pick_lit g A c xs symW w1 D1.out.1 (by decide) (by decide)).mono ?_
    rintro e w2 ⟨⟨s, hs, rfl⟩, hd⟩
    obtain ⟨R2, F2, D2⟩ := fin w2 ⟨3, 0, 0, s⟩ hd
    obtain ⟨c0, c1, c2, c3⟩ := four R2
    have f0 := R2.frozen 0
    have f1 := R2.frozen 1
    have f2 := R2.frozen 2
    have f3 := R2.frozen 3
    have hs8 : s.length ≤ 8 := (show ∀ s ∈ symW, s.length ≤ 8 by decide) s hs
    clear hd R2 fin
    go_wp2_with fail
    refine bodyPost_ret (results_cell_row Tryd.results31 _ _ w.heap.size 30 _ (0, 0) _ rfl F2.out Tryd.underlying30 rfl (by kernel_rfl)) rfl ?_
    exact ⟨⟨⟨3, 0, 0, s⟩, rfl, ⟨show (-9223372036854775808 : Int) ≤ 0 by decide, show (0 : Int) ≤ 9223372036854775807 by decide⟩, hs8⟩, D2.out⟩
set_option maxHeartbeats 4000000 in
theorem tokens_any (g : Nat) (A : Option Addr) (c : Nat) (xs : List UInt8) (w : World) (hc : CurAt w g A c xs) :
    Calls Tryd.prog 16 #[.pointer (some ⟨g, 0, none⟩)] w fun e w' => (∃ (v : Value) (l : List Tok), e = .returned v ∧ RowT w' w.heap.size v l ∧ l.length ≤ 152 ∧ ∀ t ∈ l, SmallT t) ∧ Drew w g A c xs w' := by
  have hcl := cur_lt hc
  have hb := hid (fun (o : Obj) => below_any g A c xs 9 (w.alloc o) (cur_alloc hc o) (by omega) (by omega))
  have hr := hid (row_lit0 w)
  clear hc
  go_enter Tryd.func16, Tryd.ntmps16
  go_wp2_with fail
  refine (hb.out _).mono ?_
  rintro e w1 ⟨⟨q, rfl, hq, _⟩, hd⟩
  have r1 := hid (row_gb hr.out hd.2 hcl)
  have d1 := hid (drew_alloc hd)
  clear hd hb hr
  have hq8 : q ≤ 8 := by omega
  go_wp2_with fail
  refine (once_any g A c xs 20 w1 d1.out.1 (by omega) (by omega)).mono ?_
  rintro e w2 ⟨⟨b, rfl⟩, hd⟩
  have r2 := hid (row_gb r1.out hd.2 hcl)
  have d2 := hid (dr_then d1.out hd)
  clear hd r1 d1
  cases b with
  | false =>
    have t20 : decide (20 < (q : Int)) = false := decide_eq_false (by omega)
    have r0 := r2
    have d0 := d2
    go_wp2_with fail
    go_loopw [3, 5] (fun o i wr => ∃ (k : Nat) (l : List Tok) (v : Value), k ≤ q ∧ i = .int .i64 k ∧ o = v ∧ l.length = k ∧ (∀ t ∈ l, SmallT t) ∧ RowT wr w.heap.size v l ∧ Drew w g A c xs wr) (fun _ i _ => q - (Go.RowKit.intOf i).toNat)
    case atStart => exact ⟨0, [], _, Nat.zero_le _, rfl, rfl, rfl, by simp, r0.out, d0.out⟩
    case round =>
      obtain ⟨k, l, v, hk, rfl, rfl, rfl, hm, hown, hd⟩ := hrel
      have hown := hid hown
      have hd := hid hd
      have hm := hid hm
      by_cases hlt : l.length < q
      · have t1 : decide ((l.length : Int) < (q : Int)) = true := decide_eq_true (by omega)
        go_wp2_with fail
        refine (token_any g A c xs _ hd.out.1).mono ?_
        rintro e w2 ⟨⟨t, rfl, ht⟩, hd2⟩
        have r2 := hid (row_gb hown.out hd2.2 hcl)
        have d2 := hid (dr_then hd.out hd2)
        have hws := d2.out.2.size
        have hq : l.length < 1000000 := by omega
        clear hd2
        go_wp2_with (at_builtin; refine app_tok r2.out hws t hq rfl _ _ rfl rfl _ rfl rfl ?_; intro v3 w3 r3 hg3; have d3 := hid (dr_row d2.out r2.out hg3 hcl); clear hg3; replace r3 := hid r3)
        refine ⟨⟨l.length + 1, l ++ [t], v3, hlt, by go_num, rfl, by simp, ?_, r3.out, d3.out⟩, by simp [Go.RowKit.intOf]; omega⟩
        intro x hx
        rcases List.mem_append.1 hx with hx | hx
        · exact hm.out x hx
        · rw [List.mem_singleton] at hx; subst hx; exact ht
      · have t1 : decide ((l.length : Int) < (q : Int)) = false := decide_eq_false (by omega)
        go_wp2_with fail
        go_ret
        exact ⟨⟨_, l, rfl, hown.out, by omega, hm.out⟩, hd.out⟩
  | true =>
    go_wp2_with fail
    refine (below_any g A c xs 4 w2 d2.out.1 (by omega) (by omega)).mono ?_
    rintro e w3 ⟨⟨m, rfl, hm4, _⟩, hd⟩
    have r0 := hid (row_gb r2.out hd.2 hcl)
    have d0 := hid (dr_then d2.out hd)
    clear hd r2 d2
    obtain ⟨n, hn⟩ : ∃ n : Nat, 148 + m = n := ⟨_, rfl⟩
    have en : (148 : Int) + (m : Int) = (n : Int) := by omega
    have hn1 : 148 ≤ n := by omega
    have hn2 : n ≤ 151 := by omega
    have t20 : decide (20 < (n : Int)) = true := decide_eq_true (by omega)
    clear hn hm4
    go_wp2_with fail
    go_loopw [3, 5] (fun o i wr => ∃ (k : Nat) (l : List Tok) (v : Value), k ≤ n ∧ i = .int .i64 k ∧ o = v ∧ l.length = k ∧ (∀ t ∈ l, SmallT t) ∧ RowT wr w.heap.size v l ∧ Drew w g A c xs wr) (fun _ i _ => n - (Go.RowKit.intOf i).toNat)
    case atStart => exact ⟨0, [], _, Nat.zero_le _, rfl, rfl, rfl, by simp, r0.out, d0.out⟩
    case round =>
      obtain ⟨k, l, v, hk, rfl, rfl, rfl, hm, hown, hd⟩ := hrel
      have hown := hid hown
      have hd := hid hd
      have hm := hid hm
      by_cases hlt : l.length < n
      · have t1 : decide ((l.length : Int) < (n : Int)) = true := decide_eq_true (by omega)
        go_wp2_with fail
        refine (token_any g A c xs _ hd.out.1).mono ?_
        rintro e w2 ⟨⟨t, rfl, ht⟩, hd2⟩
        have r2 := hid (row_gb hown.out hd2.2 hcl)
        have d2 := hid (dr_then hd.out hd2)
        have hws := d2.out.2.size
        have hq : l.length < 1000000 := by omega
        clear hd2
        go_wp2_with (at_builtin; refine app_tok r2.out hws t hq rfl _ _ rfl rfl _ rfl rfl ?_; intro v3 w3 r3 hg3; have d3 := hid (dr_row d2.out r2.out hg3 hcl); clear hg3; obtain ⟨g', cap, rfl, hgb, p0, p1, p2, p3, hfr, hput⟩ := row_last r3; have f0 := hfr (l.length * 4); have f1 := hfr (l.length * 4 + 1); have f2 := hfr (l.length * 4 + 2); have f3 := hfr (l.length * 4 + 3); have r4 := hid (hput ⟨3, 0, 0, [59]⟩); have d4 := hid (dr_put d3.out hgb (Nat.lt_of_lt_of_le hcl hgb) l.length ⟨3, 0, 0, [59]⟩); clear hput hfr hgb r3)
        refine ⟨⟨l.length + 1, l ++ [(⟨3, 0, 0, [59]⟩ : Tok)], _, hlt, by go_num, rfl, by simp, ?_, r4.out, d4.out⟩, by simp [Go.RowKit.intOf]; omega⟩
        intro x hx
        rcases List.mem_append.1 hx with hx | hx
        · exact hm.out x hx
        · rw [List.mem_singleton] at hx; subst hx; exact ⟨⟨show (-9223372036854775808 : Int) ≤ 0 by decide, show (0 : Int) ≤ 9223372036854775807 by decide⟩, show 1 ≤ 8 by decide⟩
      · have t1 : decide ((l.length : Int) < (n : Int)) = false := decide_eq_false (by omega)
        go_wp2_with fail
        go_ret
        exact ⟨⟨_, l, rfl, hown.out, by omega, hm.out⟩, hd.out⟩
end Go.Proofs.YtgjdccibdgedbaaDoor.Dr
