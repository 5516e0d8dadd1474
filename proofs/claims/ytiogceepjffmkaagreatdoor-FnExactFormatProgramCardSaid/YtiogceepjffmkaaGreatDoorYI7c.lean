/- Chapter 7: the program's formatters of the kinds; FormatExpr. -/
import Derived.Test.YtiogceepjffmkaaGreatDoorYI7b
import Derived.Test.YtiogceepjffmkaaGreatDoorYC4a
import Derived.Test.YtiogceepjffmkaaGreatDoorYMes
import Derived.Deep.Slices
set_option maxHeartbeats 4000000
set_option maxRecDepth 100000
namespace Go.Proofs.YtiogceepjffmkaaGreatDoor.Tk
open Go.RowKit Go.Lib Go.Sort Num Com Mem YtiogceepjffmkaaGreatDoor.Os Tr Ik
def FvS (t : T) : Prop := ∀ (v : Value) (w : World), L1b.Pow w → allT t = true → (txtT7 t).length ≤ 1000000 → Ex w w.heap.size v t → Calls Tryz.prog 144 #[v] w fun e w' => e = .returned (sv (txtT7 t)) ∧ Below w.heap.size w w'
def FoS (t : T) (least : Nat) : Prop := ∀ (v : Value) (w : World), L1b.Pow w → allT t = true → (txtT7 t).length ≤ 1000000 → Ex w w.heap.size v t → Calls Tryz.prog 218 #[v, .int .i64 least] w fun e w' => e = .returned (sv (paren (txtT7 t) (decide (lvlT t < least)))) ∧ Below w.heap.size w w'
theorem operand_any (t : T) (h : FvS t) (least : Nat) : FoS t least := by
  intro v w hp hall hlen hv
  obtain ⟨k, n, s, ks⟩ := t
  obtain ⟨A, c, vs, rfl, hs, hl, hk⟩ := hv.kids
  have hb1 := box_below w (.cells #[.int .i64 k, .int .i64 n, sv s, .slice A ks.length c] 58)
  have hblk := hid (box_blk w k n s A ks.length c 58)
  have hcl := hid (h _ _ (hp.below hb1) hall hlen (hv.go hb1))
  replace hb1 := hid hb1
  have hlv := hid (fun w => ilevel_any k n s A ks.length c w)
  have hlt : decide (lvl k n < least) = decide (lvlT (.mk k n s ks) < least) := rfl
  generalize decide (lvlT (.mk k n s ks) < least) = q at *
  generalize txtT7 (.mk k n s ks) = x at *
  generalize ks.length = L at *
  clear hk hv hall h hl hp
  generalize lvl k n = lv at *
  have hbp := hid (bapp [40] x)
  have hbq := hid (bapp (40 :: x) [41])
  go_enter Tryz.func218, Tryz.ntmps218
  obtain ⟨k0, k1, k2, k3⟩ := four hblk.out
  go_wp2_with fail
  generalize (w.alloc (.cells #[.int .i64 k, .int .i64 n, sv s, .slice A L c] 58)) = w1 at *
  refine hcl.out.mono ?_
  rintro e w2 ⟨rfl, hb⟩
  have hblk2 := hblk.out.below hb hblk.out.lt
  replace hb := hid (hb1.out.trans (hb.mono hb1.out.size))
  clear k0 k1 k2 k3
  obtain ⟨k0, k1, k2, k3⟩ := four hblk2
  clear hcl hblk2
  go_wp2_with fail
  refine (hlv.out w2).mono ?_
  rintro e w3 ⟨rfl, hb3⟩
  replace hb3 := hid (hb.out.trans (hb3.mono hb.out.size))
  clear k0 k1 k2 k3
  cases q
  · go_wp2_with fail
    go_ret
    exact ⟨rfl, hb3.out⟩
  · go_wp2_with fail
    go_ret
    refine ⟨?_, hb3.out⟩
    show Ending.returned (.string (_ ++ _ ++ _)) = _
    rw [hbp.out]
    show Ending.returned (.string (⟨(40 :: x).toArray⟩ ++ _)) = _
    rw [hbq.out]; rfl
theorem fconst (n : Int) (s : List UInt8) (A : Option Addr) (l c : Nat) (w : World) (hp : L1b.Pow w) (hn : 0 ≤ n ∧ n < 4) : Calls Tryz.prog 199 #[nv 1 n s A l c] w fun e w' => e = .returned (sv (itoa n)) ∧ Below w.heap.size w w' := by
  have hb1 := box_below w (.cells #[.int .i64 1, .int .i64 n, sv s, .slice A l c] 58)
  have hf := hid (L1b.implFormat n (by omega) (by omega) _ (hp.below hb1))
  replace hb1 := hid hb1
  clear hp
  go_enter Tryz.func199, Tryz.ntmps199
  go_wp2_with fail
  refine hf.out.mono ?_
  rintro e w2 ⟨rfl, hb⟩
  replace hb := hid (hb1.out.trans (hb.mono hb1.out.size))
  go_wp2_with fail
  go_ret
  exact ⟨rfl, hb.out⟩
theorem fvar (n : Int) (s : List UInt8) (A : Option Addr) (l c : Nat) (w : World) : Calls Tryz.prog 200 #[nv 2 n s A l c] w fun e w' => e = .returned (sv s) ∧ Below w.heap.size w w' := by
  have hb1 := hid (box_below w (.cells #[.int .i64 2, .int .i64 n, sv s, .slice A l c] 58))
  go_enter Tryz.func200, Tryz.ntmps200
  go_wp2_with fail
  go_ret
  exact ⟨rfl, hb1.out⟩
theorem fnot (n : Int) (s : List UInt8) (a : T) (iha : FoS a 6) (ha : allT a = true) (hlen : (txtT7 (.mk 4 n s [a])).length ≤ 1000000) (A : Option Addr) (c : Nat) (vs : Nat → Value) (w : World) (hp : L1b.Pow w) (hk : Tr.Kids w w.heap.size A [a] vs) : Calls Tryz.prog 204 #[nv 4 n s A 1 c] w fun e w' => e = .returned (sv (txtT7 (.mk 4 n s [a]))) ∧ Below w.heap.size w w' := by
  have hb1 := box_below w (.cells #[.int .i64 4, .int .i64 n, sv s, .slice A 1 c] 58)
  have hk1 := hk.go hb1
  have hp1 := hp.below hb1
  replace hb1 := hid hb1
  obtain ⟨ad, hA, _, c0, c1, c2, c3, e0, k0, k1, k2, k3⟩ := hk1.cell 0 (by simp)
  subst hA
  have x0 := hk1.kid 0 a rfl
  rw [e0] at x0
  have p0 : (w.alloc (.cells #[.int .i64 4, .int .i64 n, sv s, .slice (some ad) 1 c] 58)).cell? ad = some c0 := k0
  have p1 : (w.alloc (.cells #[.int .i64 4, .int .i64 n, sv s, .slice (some ad) 1 c] 58)).cell? ⟨ad.block, ad.off + 1, none⟩ = some c1 := k1
  have p2 : (w.alloc (.cells #[.int .i64 4, .int .i64 n, sv s, .slice (some ad) 1 c] 58)).cell? ⟨ad.block, ad.off + 2, none⟩ = some c2 := k2
  have p3 : (w.alloc (.cells #[.int .i64 4, .int .i64 n, sv s, .slice (some ad) 1 c] 58)).cell? ⟨ad.block, ad.off + 3, none⟩ = some c3 := k3
  rw [txt7_4] at hlen ⊢
  have hpl := paren_len (txtT7 a) (decide (lvlT a < 6))
  rw [List.length_cons] at hlen
  have hcl := hid (iha _ _ hp1 ha (by omega) x0)
  replace hpl := hid hpl
  generalize paren (txtT7 a) (decide (lvlT a < 6)) = x at *
  have hbp := hid (bapp [33] x)
  clear hk e0 x0 k0 k1 k2 k3 hk1 hp hp1
  go_enter Tryz.func204, Tryz.ntmps204
  go_wp2_with fail
  refine hcl.out.mono ?_
  rintro e w2 ⟨rfl, hb2⟩
  replace hb2 := hid (hb1.out.trans (hb2.mono hb1.out.size))
  clear hcl p0 p1 p2 p3
  go_wp2_with fail
  go_ret
  refine ⟨?_, hb2.out⟩
  show Ending.returned (.string (_ ++ _)) = _
  rw [hbp.out]; rfl
end Go.Proofs.YtiogceepjffmkaaGreatDoor.Tk
set_option maxRecDepth 100000
namespace Go.Proofs.YtiogceepjffmkaaGreatDoor.Gs
open Go.RowKit Go.Lib Go.Sort Com Mem Tr Im Ag Pl Kd Ow
abbrev NR := List Value × Gd.St
theorem la_mono {w W : World} {l : LN Gd.St} (h : LA (pln w) w.heap.size l) (hb : Below w.heap.size w W) : LA (pln W) W.heap.size l := by
  obtain ⟨rows, h⟩ := h
  refine ⟨rows, fun j hj => ?_, fun j t ht => ?_, h.len⟩
  · obtain ⟨ad, e, hB, hl⟩ := h.cell j hj
    exact ⟨ad, e, Nat.lt_of_lt_of_le hB hb.size, ldC_keep hl fun p hp => (pln_below hb).cell (by rw [hp, add_block]; exact hB)⟩
  · have := h.kid j t ht
    unfold RdN at this ⊢
    exact (this.blw (pln_below hb)).more hb.size
end Go.Proofs.YtiogceepjffmkaaGreatDoor.Gs
set_option maxRecDepth 100000
namespace Go.Proofs.YtiogceepjffmkaaGreatDoor.Gd
open Go.RowKit Go.Lib Go.Sort Com Mem YtiogceepjffmkaaGreatDoor.Os Tr Pl Kd Gs
end Go.Proofs.YtiogceepjffmkaaGreatDoor.Gd
set_option maxRecDepth 100000
namespace Go.Proofs.YtiogceepjffmkaaGreatDoor.Tr
open Go.ChangeShapes Go.WideShapes Go.ChangeAt Go.RowKit Close Mem
instance : Inhabited T := ⟨.mk 0 0 [] []⟩
theorem add_off (a : Addr) (i : Nat) (h : 0 < i) : a.add i = ⟨a.block, a.off + i, none⟩ := by unfold Addr.add; rw [if_neg (by omega)]
section
variable {H : Type} {enc : TypeId × Value → H} {P : Program} {W : World} {base : Nat} {sp : Nat → Bool} {held : Bool}
structure Four (P : Program) (t sl ti ts : TypeId) (f0 f1 f2 f3 : Field) : Prop where
  und : P.underlying t = some (.struct #[f0, f1, f2, f3])
  cells : P.cellsOf t = 4
  t0 : f0.type = ti
  t1 : f1.type = ti
  t2 : f2.type = ts
  t3 : f3.type = sl
  o0 : f0.offset = 0
  o1 : f1.offset = 1
  o2 : f2.offset = 2
  o3 : f3.offset = 3
  ui : P.underlying ti = some (.int .i64)
  us : P.underlying ts = some .string
  ul : P.underlying sl = some (.slice t)
  ci : P.cellsOf ti = 1
  cs : P.cellsOf ts = 1
  cl : P.cellsOf sl = 1
theorem ld4_of {w : World} {a : Addr} {cs : List Value} (h : w.cells? base a 4 = some cs) : Ld4 w a (.agg cs.toArray) ∧ a.block < w.heap.size := by
  obtain ⟨_, hl, hc⟩ := World.cells?_some h
  match cs, hl with
  | [c0, c1, c2, c3], _ =>
    have e0 := hc 0 (by omega)
    have e1 := hc 1 (by omega)
    have e2 := hc 2 (by omega)
    have e3 := hc 3 (by omega)
    rw [add_off a 1 (by omega)] at e1
    rw [add_off a 2 (by omega)] at e2
    rw [add_off a 3 (by omega)] at e3
    have e0' : w.cell? a = some c0 := e0
    exact ⟨⟨c0, c1, c2, c3, rfl, e0', e1, e2, e3⟩, lt_cell e0'⟩
theorem open_exF {t sl ti ts : TypeId} {f0 f1 f2 f3 : Field} (F : Four P t sl ti ts f0 f1 f2 f3) (fuel : Nat) : ∀ (cs : List Value) (x : DataW H × List MemPlace), DataW.trod enc P W base sp held fuel t cs = some x → ∃ e, Ex W W.heap.size (.agg cs.toArray) e := by
  induction fuel using Nat.strongRecOn with
  | ind fuel ih =>
    intro cs x h
    obtain ⟨xs, n, hfuel, hx, hl, hlen, hf⟩ := DataW.trod_struct F.und h
    rw [F.cells] at hl
    have hlen4 : xs.length = 4 := hlen
    match cs, hl, xs, hlen4 with
    | [v0, v1, v2, v3], _, [y0, y1, y2, y3], _ =>
      have q0 := hf 0 f0 rfl
      have q1 := hf 1 f1 rfl
      have q2 := hf 2 f2 rfl
      have q3 := hf 3 f3 rfl
      rw [F.t0, F.o0, F.ci] at q0
      rw [F.t1, F.o1, F.ci] at q1
      rw [F.t2, F.o2, F.cs] at q2
      rw [F.t3, F.o3, F.cl] at q3
      have q0' : DataW.trod enc P W base sp held n ti [v0] = some y0 := q0
      have q1' : DataW.trod enc P W base sp held n ti [v1] = some y1 := q1
      have q2' : DataW.trod enc P W base sp held n ts [v2] = some y2 := q2
      have q3' : DataW.trod enc P W base sp held n sl [v3] = some y3 := q3
      obtain ⟨k, ek, _, _⟩ := DataW.trod_int F.ui q0'
      obtain ⟨m, em, _, _⟩ := DataW.trod_int F.ui q1'
      obtain ⟨s, es, _, hs⟩ := DataW.trod_string F.us q2'
      cases ek
      cases em
      cases es
      have hsl : s.data.toList.length ≤ 9223372036854775807 := str_len hs
      have hsv : Value.string s = sv s.data.toList := congrArg Value.string (str_eta s).symm
      rcases DataW.trod_slice F.ul q3' with ⟨e3, _⟩ | ⟨a, len, cap, elems, rest, n', hn', e3, _, _, hlc, hcm, hel, hget, _, _⟩
      · cases e3
        refine ⟨.mk k m s.data.toList [], ?_⟩
        have := Ex.mk (w := W) (B := W.heap.size) (k := k) (n := m) (s := s.data.toList) (ks := []) none 0 (fun _ => .agg #[]) hsl (by simp) (fun j hj => by simp at hj) (fun j a ha => by simp at ha)
        unfold nv at this
        rw [← hsv] at this
        exact this
      · cases e3
        rw [F.cells] at hget
        have hfam : ∀ i, i < len → ∃ z : List Value × T, (∃ y, W.cells? base (a.add (i * 4)) 4 = some z.1 ∧ DataW.trod enc P W base sp held n' t z.1 = some y) ∧ Ex W W.heap.size (.agg z.1.toArray) z.2 := fun i hi => by
          have hg := hget i hi
          rw [List.getElem?_eq_getElem (by omega)] at hg
          obtain ⟨cs', h1, h2⟩ := Option.bind_eq_some_iff.1 hg
          obtain ⟨e, he⟩ := ih n' (by omega) cs' _ h2
          exact ⟨(cs', e), ⟨_, h1, h2⟩, he⟩
        obtain ⟨fam, hfm⟩ := Go.Deep.choose_lt hfam
        have hcl : len ≤ 9223372036854775807 := by unfold maxLen at hcm; omega
        have hlr : ((List.range len).map fun i => (fam i).2).length = len := by simp
        refine ⟨.mk k m s.data.toList ((List.range len).map fun i => (fam i).2), ?_⟩
        have := Ex.mk (w := W) (B := W.heap.size) (k := k) (n := m) (s := s.data.toList) (ks := (List.range len).map fun i => (fam i).2) (some a) cap (fun i => .agg (fam i).1.toArray) hsl (by rw [hlr]; exact hcl)
          (fun j hj => by
            rw [hlr] at hj
            obtain ⟨⟨y, h1, _⟩, _⟩ := hfm j hj
            obtain ⟨h2, h3⟩ := ld4_of h1
            rw [add_block] at h3
            exact ⟨a, rfl, h3, h2⟩)
          (fun j e he => by
            have hj : j < len := by
              rcases Nat.lt_or_ge j len with h | h
              · exact h
              · rw [List.getElem?_eq_none (by rw [hlr]; exact h)] at he; cases he
            rw [List.getElem?_map, List.getElem?_range hj] at he
            cases he
            exact (hfm j hj).2)
        rw [hlr] at this
        unfold nv at this
        rw [← hsv] at this
        exact this
end
set_option maxRecDepth 100000 in
theorem fourL : ∃ f0 f1 f2 f3, Four Tryz.prog 124 122 3 9 f0 f1 f2 f3 :=
  ⟨_, _, _, _, Tryz.underlying124, by kernel_rfl, rfl, rfl, rfl, rfl, rfl, rfl, rfl, rfl, Tryz.underlying3, Tryz.underlying9, Tryz.underlying122, by kernel_rfl, by kernel_rfl, by kernel_rfl⟩
end Go.Proofs.YtiogceepjffmkaaGreatDoor.Tr
