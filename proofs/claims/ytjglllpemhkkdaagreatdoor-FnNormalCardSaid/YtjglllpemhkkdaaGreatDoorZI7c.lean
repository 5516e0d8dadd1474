/- Chapter 7: the program's formatters of the kinds; FormatExpr. -/
import Derived.Test.YtjglllpemhkkdaaGreatDoorZI7b
import Derived.Test.YtjglllpemhkkdaaGreatDoorZI7a
import Derived.Test.YtjglllpemhkkdaaGreatDoorZC4a
import Derived.Test.YtjglllpemhkkdaaGreatDoorZTr
import Derived.Deep.Slices
import Derived.Test.YtjglllpemhkkdaaGreatDoorZGd
set_option maxRecDepth 100000
namespace Go.Proofs.YtjglllpemhkkdaaGreatDoor.Tk
open Go.RowKit Go.Lib Go.Sort Num Com Mem YtjglllpemhkkdaaGreatDoor.Os Tr Ik

def FvS (t : T) : Prop := ∀ (v : Value) (w : World), L1b.Pow w → allT t = true → (txtT7 t).length ≤ 1000000 → Ex w w.heap.size v t → Calls Tryz.prog 89 #[v] w fun e w' => e = .returned (sv (txtT7 t)) ∧ Below w.heap.size w w'
def FoS (t : T) (least : Nat) : Prop := ∀ (v : Value) (w : World), L1b.Pow w → allT t = true → (txtT7 t).length ≤ 1000000 → Ex w w.heap.size v t → Calls Tryz.prog 229 #[v, .int .i64 least] w fun e w' => e = .returned (sv (paren (txtT7 t) (decide (lvlT t < least)))) ∧ Below w.heap.size w w'
set_option maxHeartbeats 1000000 in
theorem operand_any (t : T) (h : FvS t) (least : Nat) : FoS t least := by
  intro v w hp hall hlen hv
  obtain ⟨k, n, s, ks⟩ := t
  obtain ⟨A, c, vs, rfl, hs, hl, hk⟩ := hv.kids
  have hb1 := box_below w (.cells #[.int .i64 k, .int .i64 n, sv s, .slice A ks.length c] 29)
  have hblk := hid (box_blk w k n s A ks.length c 29)
  have hcl := hid (h _ _ (hp.below hb1) hall hlen (hv.go hb1))
  replace hb1 := hid hb1
  have hlv := hid (fun w => ilevel_any k n s A ks.length c w)
  have hlt : decide (lvl k n < least) = decide (lvlT (.mk k n s ks) < least) := rfl
  generalize decide (lvlT (.mk k n s ks) < least) = q at *
  generalize txtT7 (.mk k n s ks) = x at *
  generalize ks.length = L at *
  clear hk hv hall h hl hp
  generalize lvl k n = lv at *
  have hbp := hid (bapp [40] x)
  have hbq := hid (bapp (40 :: x) [41])
  go_enter Tryz.func229, Tryz.ntmps229
  obtain ⟨k0, k1, k2, k3⟩ := four hblk.out
  go_wp2_with fail
  generalize (w.alloc (.cells #[.int .i64 k, .int .i64 n, sv s, .slice A L c] 29)) = w1 at *
  refine hcl.out.mono ?_
  rintro e w2 ⟨rfl, hb⟩
  have hblk2 := hblk.out.below hb hblk.out.lt
  replace hb := hid (hb1.out.trans (hb.mono hb1.out.size))
  clear k0 k1 k2 k3
  obtain ⟨k0, k1, k2, k3⟩ := four hblk2
  clear hcl hblk2
  go_wp2_with fail
  refine (hlv.out w2).mono ?_
  rintro e w3 ⟨rfl, hb3⟩
  replace hb3 := hid (hb.out.trans (hb3.mono hb.out.size))
  clear k0 k1 k2 k3
  cases q
  · go_wp2_with fail
    go_ret
    exact ⟨rfl, hb3.out⟩
  · go_wp2_with fail
    go_ret
    refine ⟨?_, hb3.out⟩
    show Ending.returned (.string (_ ++ _ ++ _)) = _
    rw [hbp.out]
    show Ending.returned (.string (⟨(40 :: x).toArray⟩ ++ _)) = _
    rw [hbq.out]; rfl
set_option maxHeartbeats 1000000 in
theorem fconst (n : Int) (s : List UInt8) (A : Option Addr) (l c : Nat) (w : World) (hp : L1b.Pow w) (hn : 0 ≤ n ∧ n < 4) : Calls Tryz.prog 189 #[nv 1 n s A l c] w fun e w' => e = .returned (sv (itoa n)) ∧ Below w.heap.size w w' := by
  have hb1 := box_below w (.cells #[.int .i64 1, .int .i64 n, sv s, .slice A l c] 29)
  have hf := hid (L1b.implFormat n (by omega) (by omega) _ (hp.below hb1))
  replace hb1 := hid hb1
  clear hp
  go_enter Tryz.func189, Tryz.ntmps189
  go_wp2_with fail
  refine hf.out.mono ?_
  rintro e w2 ⟨rfl, hb⟩
  replace hb := hid (hb1.out.trans (hb.mono hb1.out.size))
  go_wp2_with fail
  go_ret
  exact ⟨rfl, hb.out⟩
set_option maxHeartbeats 1000000 in
theorem fvar (n : Int) (s : List UInt8) (A : Option Addr) (l c : Nat) (w : World) : Calls Tryz.prog 190 #[nv 2 n s A l c] w fun e w' => e = .returned (sv s) ∧ Below w.heap.size w w' := by
  have hb1 := hid (box_below w (.cells #[.int .i64 2, .int .i64 n, sv s, .slice A l c] 29))
  go_enter Tryz.func190, Tryz.ntmps190
  go_wp2_with fail
  go_ret
  exact ⟨rfl, hb1.out⟩
set_option maxHeartbeats 4000000 in
theorem fnot (n : Int) (s : List UInt8) (a : T) (iha : FoS a 6) (ha : allT a = true) (hlen : (txtT7 (.mk 4 n s [a])).length ≤ 1000000) (A : Option Addr) (c : Nat) (vs : Nat → Value) (w : World) (hp : L1b.Pow w) (hk : Tr.Kids w w.heap.size A [a] vs) : Calls Tryz.prog 194 #[nv 4 n s A 1 c] w fun e w' => e = .returned (sv (txtT7 (.mk 4 n s [a]))) ∧ Below w.heap.size w w' := by
  have hb1 := box_below w (.cells #[.int .i64 4, .int .i64 n, sv s, .slice A 1 c] 29)
  have hk1 := hk.go hb1
  have hp1 := hp.below hb1
  replace hb1 := hid hb1
  obtain ⟨ad, hA, _, c0, c1, c2, c3, e0, k0, k1, k2, k3⟩ := hk1.cell 0 (by simp)
  subst hA
  have x0 := hk1.kid 0 a rfl
  rw [e0] at x0
  have p0 : (w.alloc (.cells #[.int .i64 4, .int .i64 n, sv s, .slice (some ad) 1 c] 29)).cell? ad = some c0 := k0
  have p1 : (w.alloc (.cells #[.int .i64 4, .int .i64 n, sv s, .slice (some ad) 1 c] 29)).cell? ⟨ad.block, ad.off + 1, none⟩ = some c1 := k1
  have p2 : (w.alloc (.cells #[.int .i64 4, .int .i64 n, sv s, .slice (some ad) 1 c] 29)).cell? ⟨ad.block, ad.off + 2, none⟩ = some c2 := k2
  have p3 : (w.alloc (.cells #[.int .i64 4, .int .i64 n, sv s, .slice (some ad) 1 c] 29)).cell? ⟨ad.block, ad.off + 3, none⟩ = some c3 := k3
  rw [txt7_4] at hlen ⊢
  have hpl := paren_len (txtT7 a) (decide (lvlT a < 6))
  rw [List.length_cons] at hlen
  have hcl := hid (iha _ _ hp1 ha (by omega) x0)
  replace hpl := hid hpl
  generalize paren (txtT7 a) (decide (lvlT a < 6)) = x at *
  have hbp := hid (bapp [33] x)
  clear hk e0 x0 k0 k1 k2 k3 hk1 hp hp1
  go_enter Tryz.func194, Tryz.ntmps194
  go_wp2_with fail
  refine hcl.out.mono ?_
  rintro e w2 ⟨rfl, hb2⟩
  replace hb2 := hid (hb1.out.trans (hb2.mono hb1.out.size))
  clear hcl p0 p1 p2 p3
  go_wp2_with fail
  go_ret
  refine ⟨?_, hb2.out⟩
  show Ending.returned (.string (_ ++ _)) = _
  rw [hbp.out]; rfl
end Go.Proofs.YtjglllpemhkkdaaGreatDoor.Tk

/- An argument that is an expression, read as a tree. -/
set_option maxRecDepth 100000
namespace Go.Proofs.YtjglllpemhkkdaaGreatDoor.Tr
open Go.ChangeShapes Go.WideShapes Go.ChangeAt Go.RowKit Close Mem
instance : Inhabited T := ⟨.mk 0 0 [] []⟩
theorem add_off (a : Addr) (i : Nat) (h : 0 < i) : a.add i = ⟨a.block, a.off + i, none⟩ := by unfold Addr.add; rw [if_neg (by omega)]
section
variable {H : Type} {enc : TypeId × Value → H} {P : Program} {W : World} {base : Nat} {sp : Nat → Bool} {held : Bool}
structure Four (P : Program) (t sl ti ts : TypeId) (f0 f1 f2 f3 : Field) : Prop where
  und : P.underlying t = some (.struct #[f0, f1, f2, f3])
  cells : P.cellsOf t = 4
  t0 : f0.type = ti
  t1 : f1.type = ti
  t2 : f2.type = ts
  t3 : f3.type = sl
  o0 : f0.offset = 0
  o1 : f1.offset = 1
  o2 : f2.offset = 2
  o3 : f3.offset = 3
  ui : P.underlying ti = some (.int .i64)
  us : P.underlying ts = some .string
  ul : P.underlying sl = some (.slice t)
  ci : P.cellsOf ti = 1
  cs : P.cellsOf ts = 1
  cl : P.cellsOf sl = 1
theorem ld4_of {w : World} {a : Addr} {cs : List Value} (h : w.cells? base a 4 = some cs) : Ld4 w a (.agg cs.toArray) ∧ a.block < w.heap.size := by
  obtain ⟨_, hl, hc⟩ := World.cells?_some h
  match cs, hl with
  | [c0, c1, c2, c3], _ =>
    have e0 := hc 0 (by omega)
    have e1 := hc 1 (by omega)
    have e2 := hc 2 (by omega)
    have e3 := hc 3 (by omega)
    rw [add_off a 1 (by omega)] at e1
    rw [add_off a 2 (by omega)] at e2
    rw [add_off a 3 (by omega)] at e3
    have e0' : w.cell? a = some c0 := e0
    exact ⟨⟨c0, c1, c2, c3, rfl, e0', e1, e2, e3⟩, lt_cell e0'⟩
theorem open_exF {t sl ti ts : TypeId} {f0 f1 f2 f3 : Field} (F : Four P t sl ti ts f0 f1 f2 f3) (fuel : Nat) : ∀ (cs : List Value) (x : DataW H × List MemPlace), DataW.trod enc P W base sp held fuel t cs = some x → ∃ e, Ex W W.heap.size (.agg cs.toArray) e := by
  induction fuel using Nat.strongRecOn with
  | ind fuel ih =>
    intro cs x h
    obtain ⟨xs, n, hfuel, hx, hl, hlen, hf⟩ := DataW.trod_struct F.und h
    rw [F.cells] at hl
    have hlen4 : xs.length = 4 := hlen
    match cs, hl, xs, hlen4 with
    | [v0, v1, v2, v3], _, [y0, y1, y2, y3], _ =>
      have q0 := hf 0 f0 rfl
      have q1 := hf 1 f1 rfl
      have q2 := hf 2 f2 rfl
      have q3 := hf 3 f3 rfl
      rw [F.t0, F.o0, F.ci] at q0
      rw [F.t1, F.o1, F.ci] at q1
      rw [F.t2, F.o2, F.cs] at q2
      rw [F.t3, F.o3, F.cl] at q3
      have q0' : DataW.trod enc P W base sp held n ti [v0] = some y0 := q0
      have q1' : DataW.trod enc P W base sp held n ti [v1] = some y1 := q1
      have q2' : DataW.trod enc P W base sp held n ts [v2] = some y2 := q2
      have q3' : DataW.trod enc P W base sp held n sl [v3] = some y3 := q3
      obtain ⟨k, ek, _, _⟩ := DataW.trod_int F.ui q0'
      obtain ⟨m, em, _, _⟩ := DataW.trod_int F.ui q1'
      obtain ⟨s, es, _, hs⟩ := DataW.trod_string F.us q2'
      cases ek
      cases em
      cases es
      have hsl : s.data.toList.length ≤ 9223372036854775807 := str_len hs
      have hsv : Value.string s = sv s.data.toList := congrArg Value.string (str_eta s).symm
      rcases DataW.trod_slice F.ul q3' with ⟨e3, _⟩ | ⟨a, len, cap, elems, rest, n', hn', e3, _, _, hlc, hcm, hel, hget, _, _⟩
      · cases e3
        refine ⟨.mk k m s.data.toList [], ?_⟩
        have := Ex.mk (w := W) (B := W.heap.size) (k := k) (n := m) (s := s.data.toList) (ks := []) none 0 (fun _ => .agg #[]) hsl (by simp) (fun j hj => by simp at hj) (fun j a ha => by simp at ha)
        unfold nv at this
        rw [← hsv] at this
        exact this
      · cases e3
        rw [F.cells] at hget
        have hfam : ∀ i, i < len → ∃ z : List Value × T, (∃ y, W.cells? base (a.add (i * 4)) 4 = some z.1 ∧ DataW.trod enc P W base sp held n' t z.1 = some y) ∧ Ex W W.heap.size (.agg z.1.toArray) z.2 := fun i hi => by
          have hg := hget i hi
          rw [List.getElem?_eq_getElem (by omega)] at hg
          obtain ⟨cs', h1, h2⟩ := Option.bind_eq_some_iff.1 hg
          obtain ⟨e, he⟩ := ih n' (by omega) cs' _ h2
          exact ⟨(cs', e), ⟨_, h1, h2⟩, he⟩
        obtain ⟨fam, hfm⟩ := Go.Deep.choose_lt hfam
        have hcl : len ≤ 9223372036854775807 := by unfold maxLen at hcm; omega
        have hlr : ((List.range len).map fun i => (fam i).2).length = len := by simp
        refine ⟨.mk k m s.data.toList ((List.range len).map fun i => (fam i).2), ?_⟩
        have := Ex.mk (w := W) (B := W.heap.size) (k := k) (n := m) (s := s.data.toList) (ks := (List.range len).map fun i => (fam i).2) (some a) cap (fun i => .agg (fam i).1.toArray) hsl (by rw [hlr]; exact hcl)
          (fun j hj => by
            rw [hlr] at hj
            obtain ⟨⟨y, h1, _⟩, _⟩ := hfm j hj
            obtain ⟨h2, h3⟩ := ld4_of h1
            rw [add_block] at h3
            exact ⟨a, rfl, h3, h2⟩)
          (fun j e he => by
            have hj : j < len := by
              rcases Nat.lt_or_ge j len with h | h
              · exact h
              · rw [List.getElem?_eq_none (by rw [hlr]; exact h)] at he; cases he
            rw [List.getElem?_map, List.getElem?_range hj] at he
            cases he
            exact (hfm j hj).2)
        rw [hlr] at this
        unfold nv at this
        rw [← hsv] at this
        exact this
end
set_option maxRecDepth 100000 in
theorem fourL : ∃ f0 f1 f2 f3, Four Tryz.prog 107 105 3 9 f0 f1 f2 f3 :=
  ⟨_, _, _, _, Tryz.underlying107, by kernel_rfl, rfl, rfl, rfl, rfl, rfl, rfl, rfl, rfl, Tryz.underlying3, Tryz.underlying9, Tryz.underlying105, by kernel_rfl, by kernel_rfl, by kernel_rfl⟩
end Go.Proofs.YtjglllpemhkkdaaGreatDoor.Tr

/- Arguments that are structs or rows of structs, read as data, whatever their fields. -/
set_option maxRecDepth 100000
namespace Go.Proofs.YtjglllpemhkkdaaGreatDoor.Gd
open Go.ChangeShapes Go.WideShapes Go.ChangeAt Go.RowKit Close Mem Tr
instance : Inhabited D := ⟨.i 0⟩

inductive K where
  | i | b | s | x | ss | is | sl (n : Nat)
def kw : K → Nat
  | .x => 4 | _ => 1
def kws : List K → Nat
  | [] => 0
  | k :: r => kw k + kws r
def sh : Nat → List K
  | 1 => [.i, .s, .x, .sl 1, .sl 1] | 2 => [.i, .s, .x, .i, .i] | 3 => [.i, .i, .i, .i] | 4 => [.i, .i, .is, .is, .i] | 5 => [.i, .i, .sl 3] | 6 => [.i, .i, .i] | 7 => [.s, .s, .s, .s, .s] | _ => [.i]
theorem sh_wd : ∀ n : Nat, kws (sh n) = wd n
  | 0 => rfl | 1 => rfl | 2 => rfl | 3 => rfl | 4 => rfl | 5 => rfl | 6 => rfl | 7 => rfl | _ + 8 => rfl
inductive Ty : List K → List D → Prop where
  | nil : Ty [] []
  | i {n : Int} {ks : List K} {ds : List D} (r : Ty ks ds) : Ty (.i :: ks) (.i n :: ds)
  | b {q : Bool} {ks : List K} {ds : List D} (r : Ty ks ds) : Ty (.b :: ks) (.b q :: ds)
  | s {x : List UInt8} {ks : List K} {ds : List D} (r : Ty ks ds) : Ty (.s :: ks) (.s x :: ds)
  | x {t : T} {ks : List K} {ds : List D} (r : Ty ks ds) : Ty (.x :: ks) (.x t :: ds)
  | ss {l : List (List UInt8)} {ks : List K} {ds : List D} (r : Ty ks ds) : Ty (.ss :: ks) (.ss l :: ds)
  | is {l : List Int} {ks : List K} {ds : List D} (r : Ty ks ds) : Ty (.is :: ks) (.is l :: ds)
  | sl {n : Nat} {l : List (List D)} {ks : List K} {ds : List D} (h : ∀ e ∈ l, Ty (sh n) e) (r : Ty ks ds) : Ty (.sl n :: ks) (.sl n l :: ds)
section
variable {H : Type} {enc : TypeId × Value → H} {P : Program} {W : World} {base : Nat} {sp : Nat → Bool} {held : Bool} {U : Nat → Prop} {tyL : Nat → TypeId}
def KindAt (P : Program) (U : Nat → Prop) (tyL : Nat → TypeId) (ty : TypeId) : K → Prop
  | .i => P.underlying ty = some (.int .i64) ∧ P.cellsOf ty = 1
  | .b => P.underlying ty = some .bool ∧ P.cellsOf ty = 1
  | .s => P.underlying ty = some .string ∧ P.cellsOf ty = 1
  | .x => ∃ sl ti ts f0 f1 f2 f3, Four P ty sl ti ts f0 f1 f2 f3
  | .ss => ∃ te, P.underlying ty = some (.slice te) ∧ P.underlying te = some .string ∧ P.cellsOf te = 1 ∧ P.cellsOf ty = 1
  | .is => ∃ te, P.underlying ty = some (.slice te) ∧ P.underlying te = some (.int .i64) ∧ P.cellsOf te = 1 ∧ P.cellsOf ty = 1
  | .sl n => U n ∧ P.underlying ty = some (.slice (tyL n)) ∧ P.cellsOf (tyL n) = wd n ∧ P.cellsOf ty = 1
def FA (P : Program) (U : Nat → Prop) (tyL : Nat → TypeId) : List Field → List K → Nat → Prop
  | [], [], _ => True
  | f :: fs, k :: ks, o => f.offset = o ∧ KindAt P U tyL f.type k ∧ FA P U tyL fs ks (o + kw k)
  | _, _, _ => False
def StructAt (P : Program) (U : Nat → Prop) (tyL : Nat → TypeId) (t : TypeId) (ks : List K) : Prop := ∃ fs : List Field, P.underlying t = some (.struct fs.toArray) ∧ FA P U tyL fs ks 0 ∧ P.cellsOf t = kws ks
theorem ldN_of {w : World} {a : Addr} {cs : List Value} {n : Nat} (h : w.cells? base a n = some cs) (hn : 0 < n) : LdN w a cs ∧ a.block < w.heap.size ∧ cs.length = n := by
  obtain ⟨_, hl, hc⟩ := World.cells?_some h
  have g : LdN w a cs := fun i u hu => by
    have hi : i < cs.length := by
      rcases Nat.lt_or_ge i cs.length with h' | h'
      · exact h'
      · rw [List.getElem?_eq_none h'] at hu; cases hu
    rw [hc i (by omega)]; exact hu
  refine ⟨g, ?_, hl⟩
  have h0 := g 0 cs[0] (List.getElem?_eq_getElem (by omega))
  exact lt_cell (a := a) h0
theorem take1 {cs : List Value} {o : Nat} (h : o < cs.length) : (cs.drop o).take 1 = [cs[o]] ∧ cs.drop o = cs[o] :: cs.drop (o + 1) := by
  rw [List.drop_eq_getElem_cons h]; exact ⟨rfl, rfl⟩
theorem kw_pos (k : K) : 0 < kw k := by cases k <;> simp [kw]
def Sub (enc : TypeId × Value → H) (P : Program) (W : World) (base : Nat) (sp : Nat → Bool) (held : Bool) (U : Nat → Prop) (tyL : Nat → TypeId) (fuel : Nat) : Prop :=
  ∀ n, U n → ∀ (cs : List Value) (x : DataW H × List MemPlace), DataW.trod enc P W base sp held fuel (tyL n) cs = some x → ∃ ds, Ty (sh n) ds ∧ Rd8 W W.heap.size cs ds ∧ cs.length = wd n
theorem open_row {fuel : Nat} (ih : ∀ m, m < fuel → Sub enc P W base sp held U tyL m) {ty : TypeId} {n : Nat} (hk : KindAt P U tyL ty (.sl n)) {v : Value} {x : DataW H × List MemPlace} (h : DataW.trod enc P W base sp held fuel ty [v] = some x) :
    ∃ l, (∀ e ∈ l, Ty (sh n) e) ∧ ∀ cs ds, Rd8 W W.heap.size cs ds → Rd8 W W.heap.size (v :: cs) (.sl n l :: ds) := by
  obtain ⟨hU, hu, hw, h1⟩ := hk
  rcases DataW.trod_slice hu h with ⟨e3, _⟩ | ⟨a, len, cap, elems, rest, n', hn', e3, _, _, hlc, hcm, hel, hget, _, _⟩
  · cases e3
    exact ⟨[], by simp, fun cs ds r => .sl (l := []) (fun _ => []) ⟨by simp, by simp⟩ (fun j hj => by simp at hj) (fun j e he => by simp at he) r⟩
  · cases e3
    rw [hw] at hget
    have hfam : ∀ i, i < len → ∃ z : List Value × List D, W.cells? base (a.add (i * wd n)) (wd n) = some z.1 ∧ Ty (sh n) z.2 ∧ Rd8 W W.heap.size z.1 z.2 := fun i hi => by
      have hg := hget i hi
      rw [List.getElem?_eq_getElem (by omega)] at hg
      obtain ⟨cs', h1, h2⟩ := Option.bind_eq_some_iff.1 hg
      obtain ⟨ds, hd, hr, _⟩ := ih n' (by omega) n hU cs' _ h2
      exact ⟨(cs', ds), h1, hd, hr⟩
    obtain ⟨fam, hfm⟩ := Go.Deep.choose_lt hfam
    have hlr : ((List.range len).map fun i => (fam i).2).length = len := by simp
    refine ⟨(List.range len).map fun i => (fam i).2, fun e he => ?_, fun cs ds r => ?_⟩
    · obtain ⟨i, hi, rfl⟩ := List.mem_map.1 he
      exact (hfm i (List.mem_range.1 hi)).2.1
    · have := Rd8.sl (w := W) (B := W.heap.size) (n := n) (A := some a) (c := cap) (l := (List.range len).map fun i => (fam i).2) (fun i => (fam i).1) (by rw [hlr]; unfold maxLen at hcm; exact ⟨by unfold maxI; omega, hlc⟩)
        (fun j hj => by
          rw [hlr] at hj
          obtain ⟨h2, h3, h4⟩ := ldN_of (hfm j hj).1 (wd_pos n)
          rw [add_block] at h3
          exact ⟨h4, a, rfl, h3, h2⟩)
        (fun j e he => by
          have hj : j < len := by
            rcases Nat.lt_or_ge j len with h | h
            · exact h
            · rw [List.getElem?_eq_none (by rw [hlr]; exact h)] at he; cases he
          rw [List.getElem?_map, List.getElem?_range hj] at he
          cases he
          exact (hfm j hj).2.2) r
      rw [hlr] at this
      exact this
theorem ex_cells {cs : List Value} {e : T} (h : Ex W W.heap.size (.agg cs.toArray) e) : ∃ k n s A l c, cs = [.int .i64 k, .int .i64 n, sv s, .slice A l c] ∧ Ex W W.heap.size (nv k n s A l c) e := by
  obtain ⟨k, n, s, A, l, c, hf⟩ := h.form
  injection hf with h1
  have h2 := congrArg Array.toList h1
  simp only at h2
  subst h2
  exact ⟨k, n, s, A, l, c, rfl, h⟩
theorem open_leaf {fuel : Nat} {α : Type} {f : α → Value} {Q : α → Prop} {ty te : TypeId} (hu : P.underlying ty = some (.slice te)) (h1 : P.cellsOf te = 1) (hleaf : ∀ (n : Nat) (v : Value) (y : DataW H × List MemPlace), DataW.trod enc P W base sp held n te [v] = some y → ∃ a, v = f a ∧ Q a)
    {v : Value} {x : DataW H × List MemPlace} (h : DataW.trod enc P W base sp held fuel ty [v] = some x) :
    ∃ (A : Option Addr) (c : Nat) (l : List α), v = .slice A l.length c ∧ Rd W W.heap.size A (l.map f) ∧ (∀ a ∈ l, Q a) ∧ (l.length ≤ maxI ∧ l.length ≤ c) := by
  rcases DataW.trod_slice hu h with ⟨e3, _⟩ | ⟨a, len, cap, elems, rest, n', hn', e3, _, _, hlc, hcm, hel, hget, _, _⟩
  · cases e3
    exact ⟨none, 0, [], rfl, Rd.nil_, by simp, by simp, by simp⟩
  · cases e3
    rw [h1] at hget
    have hfam : ∀ i, i < len → ∃ z : α, (W.cell? (a.add i) = some (f z) ∧ a.block < W.heap.size) ∧ Q z := fun i hi => by
      have hg := hget i hi
      rw [List.getElem?_eq_getElem (by omega), Nat.mul_one] at hg
      obtain ⟨cs', h1, h2⟩ := Option.bind_eq_some_iff.1 hg
      obtain ⟨hld, hb, hlen⟩ := ldN_of h1 (by omega)
      match cs', hlen with
      | [v], _ =>
        obtain ⟨z, rfl, hq⟩ := hleaf n' v _ h2
        rw [add_block] at hb
        exact ⟨z, ⟨hld 0 _ rfl, hb⟩, hq⟩
    by_cases h0 : len = 0
    · subst h0
      exact ⟨some a, cap, [], rfl, Rd.nil_, by simp, by simp, by simp⟩
    obtain ⟨z0, _⟩ := hfam 0 (by omega)
    haveI : Inhabited α := ⟨z0⟩
    obtain ⟨fam, hfm⟩ := Go.Deep.choose_lt hfam
    have hlr : ((List.range len).map fam).length = len := by simp
    refine ⟨some a, cap, (List.range len).map fam, by rw [hlr], fun _ => ⟨a, rfl, (hfm 0 (by omega)).1.2, fun j u hu => ?_⟩, fun e he => ?_, ?_, ?_⟩
    · rw [List.map_map, List.getElem?_map] at hu
      cases hq : (List.range len)[j]? with
      | none => rw [hq] at hu; cases hu
      | some i =>
        rw [hq] at hu
        obtain ⟨hj, hy⟩ := List.getElem?_eq_some_iff.1 hq
        rw [List.getElem_range] at hy
        subst hy
        cases hu
        exact (hfm j (by simpa using hj)).1.1
    · obtain ⟨i, hi, rfl⟩ := List.mem_map.1 he
      exact (hfm i (List.mem_range.1 hi)).2
    · rw [hlr]; unfold maxLen at hcm; unfold maxI; omega
    · rw [hlr]; exact hlc
theorem open_FA {n : Nat} (ih : ∀ m, m < n + 1 → Sub enc P W base sp held U tyL m) (cs : List Value) : ∀ (fs : List Field) (ks : List K) (o : Nat), FA P U tyL fs ks o → cs.length = o + kws ks →
    (∀ f ∈ fs, ∃ y, DataW.trod enc P W base sp held n f.type ((cs.drop f.offset).take (P.cellsOf f.type)) = some y) → ∃ ds, Ty ks ds ∧ Rd8 W W.heap.size (cs.drop o) ds
  | [], [], o, _, hl, _ => ⟨[], .nil, by rw [List.drop_of_length_le (by simp [kws] at hl; omega)]; exact .nil⟩
  | f :: fs, k :: ks, o, hFA, hl, hf => by
    obtain ⟨ho, hk, hr⟩ := hFA
    have hkp := kw_pos k
    rw [kws] at hl
    obtain ⟨ds, ht, hrd⟩ := open_FA ih cs fs ks (o + kw k) hr (by omega) fun g hg => hf g (by simp [hg])
    obtain ⟨y, hy⟩ := hf f (by simp)
    rw [ho] at hy
    have ho' : o < cs.length := by omega
    obtain ⟨e1, e2⟩ := take1 ho'
    cases k with
    | i =>
      rw [hk.2, e1] at hy
      obtain ⟨m, ek, _, _⟩ := DataW.trod_int hk.1 hy
      injection ek with e3
      rw [e2, e3]
      exact ⟨.i m :: ds, .i ht, .i hrd⟩
    | b =>
      rw [hk.2, e1] at hy
      obtain ⟨m, ek, _⟩ := DataW.trod_bool hk.1 hy
      injection ek with e3
      rw [e2, e3]
      exact ⟨.b m :: ds, .b ht, .b hrd⟩
    | s =>
      rw [hk.2, e1] at hy
      obtain ⟨m, ek, _, hs⟩ := DataW.trod_string hk.1 hy
      injection ek with e3
      have hsv : Value.string m = sv m.data.toList := congrArg Value.string (str_eta m).symm
      rw [e2, e3, hsv]
      exact ⟨.s m.data.toList :: ds, .s ht, .s (str_len hs) hrd⟩
    | x =>
      obtain ⟨sl, ti, ts, f0, f1, f2, f3, F⟩ := hk
      rw [F.cells] at hy
      obtain ⟨e, he⟩ := open_exF F n _ _ hy
      obtain ⟨k, m, s, A, l, c, hc, hx⟩ := ex_cells he
      have hsplit : cs.drop o = (cs.drop o).take 4 ++ cs.drop (o + 4) := by rw [← List.drop_drop]; exact (List.take_append_drop 4 _).symm
      rw [hsplit, hc]
      exact ⟨.x e :: ds, .x ht, .x hx hrd⟩
    | ss =>
      obtain ⟨te, hu, hs, h1, h2⟩ := hk
      rw [h2, e1] at hy
      obtain ⟨A, c, l, hv, hr2, hq, hl2⟩ := open_leaf (f := sv) (Q := fun x => x.length ≤ maxI) hu h1 (fun n v y h => by
        obtain ⟨m, ek, _, hs'⟩ := DataW.trod_string hs h
        injection ek with e3
        exact ⟨m.data.toList, by rw [e3], str_len hs'⟩) hy
      rw [e2, hv]
      exact ⟨.ss l :: ds, .ss ht, .ss hr2 hq hl2 hrd⟩
    | is =>
      obtain ⟨te, hu, hs, h1, h2⟩ := hk
      rw [h2, e1] at hy
      obtain ⟨A, c, l, hv, hr2, hq, hl2⟩ := open_leaf (f := Value.int .i64) (Q := fun _ => True) hu h1 (fun n v y h => by
        obtain ⟨m, ek, _, _⟩ := DataW.trod_int hs h
        injection ek with e3
        exact ⟨m, e3, trivial⟩) hy
      rw [e2, hv]
      exact ⟨.is l :: ds, .is ht, .is hr2 hl2 hrd⟩
    | sl q =>
      have h2 := hk.2.2.2
      rw [h2, e1] at hy
      obtain ⟨l, hl2, hr2⟩ := open_row (fun m hm => ih m (by omega)) hk hy
      rw [e2]
      exact ⟨.sl q l :: ds, .sl hl2 ht, hr2 _ _ hrd⟩
theorem open_struct {fuel : Nat} (ih : ∀ m, m < fuel → Sub enc P W base sp held U tyL m) {t : TypeId} {ks : List K} (hS : StructAt P U tyL t ks) {cs : List Value} {x : DataW H × List MemPlace} (h : DataW.trod enc P W base sp held fuel t cs = some x) :
    ∃ ds, Ty ks ds ∧ Rd8 W W.heap.size cs ds ∧ cs.length = kws ks := by
  obtain ⟨fs, hu, hFA, hc⟩ := hS
  obtain ⟨xs, n, hfuel, hx, hl, hlen, hf⟩ := DataW.trod_struct hu h
  subst hfuel
  rw [hc] at hl
  obtain ⟨ds, h1, h2⟩ := open_FA ih cs fs ks 0 hFA (by omega) fun f hfm => by
    obtain ⟨i, hi, rfl⟩ := List.getElem_of_mem hfm
    have hg := hf i fs[i] (by simp [hi])
    have hix : i < xs.length := by rw [hlen]; simpa using hi
    rw [List.getElem?_eq_getElem hix] at hg
    exact ⟨_, hg⟩
  rw [List.drop_zero] at h2
  exact ⟨ds, h1, h2, hl⟩
theorem open_sub (HS : ∀ n, U n → StructAt P U tyL (tyL n) (sh n)) (fuel : Nat) : Sub enc P W base sp held U tyL fuel := by
  induction fuel using Nat.strongRecOn with
  | ind fuel ih =>
    intro n hU cs x h
    obtain ⟨ds, h1, h2, h3⟩ := open_struct ih (HS n hU) h
    exact ⟨ds, h1, h2, by rw [h3, sh_wd]⟩
end
end Go.Proofs.YtjglllpemhkkdaaGreatDoor.Gd
