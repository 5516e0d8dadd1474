/- Arguments that are structs or rows of structs, read as data, whatever their fields. -/
import Derived.Test.YtnmomlaimffonaaGreatZGd
import Derived.Test.YtnmomlaimffonaaGreatZExOpen
set_option maxRecDepth 100000
namespace Go.Proofs.YtnmomlaimffonaaGreat.Gd
open Go.ChangeShapes Go.WideShapes Go.ChangeAt Go.RowKit Close Mem Tr
instance : Inhabited D := ⟨.i 0⟩
inductive K where
  | i | b | s | x | ss | is | sl (n : Nat)
def kw : K → Nat
  | .x => 4 | _ => 1
def kws : List K → Nat
  | [] => 0
  | k :: r => kw k + kws r
def sh : Nat → List K
  | 1 => [.i, .s, .x, .sl 1, .sl 1] | 2 => [.i, .s, .x, .i, .i] | 3 => [.i, .i, .i, .i] | 4 => [.i, .i, .is, .is, .i] | 5 => [.i, .i, .sl 3] | 6 => [.i, .i, .i] | 7 => [.s, .s, .s, .s, .s] | _ => [.i]
theorem sh_wd : ∀ n : Nat, kws (sh n) = wd n
  | 0 => rfl | 1 => rfl | 2 => rfl | 3 => rfl | 4 => rfl | 5 => rfl | 6 => rfl | 7 => rfl | _ + 8 => rfl
inductive Ty : List K → List D → Prop where
  | nil : Ty [] []
  | i {n : Int} {ks : List K} {ds : List D} (r : Ty ks ds) : Ty (.i :: ks) (.i n :: ds)
  | b {q : Bool} {ks : List K} {ds : List D} (r : Ty ks ds) : Ty (.b :: ks) (.b q :: ds)
  | s {x : List UInt8} {ks : List K} {ds : List D} (r : Ty ks ds) : Ty (.s :: ks) (.s x :: ds)
  | x {t : T} {ks : List K} {ds : List D} (r : Ty ks ds) : Ty (.x :: ks) (.x t :: ds)
  | ss {l : List (List UInt8)} {ks : List K} {ds : List D} (r : Ty ks ds) : Ty (.ss :: ks) (.ss l :: ds)
  | is {l : List Int} {ks : List K} {ds : List D} (r : Ty ks ds) : Ty (.is :: ks) (.is l :: ds)
  | sl {n : Nat} {l : List (List D)} {ks : List K} {ds : List D} (h : ∀ e ∈ l, Ty (sh n) e) (r : Ty ks ds) : Ty (.sl n :: ks) (.sl n l :: ds)
section
variable {H : Type} {enc : TypeId × Value → H} {P : Program} {W : World} {base : Nat} {sp : Nat → Bool} {held : Bool} {U : Nat → Prop} {tyL : Nat → TypeId}
def KindAt (P : Program) (U : Nat → Prop) (tyL : Nat → TypeId) (ty : TypeId) : K → Prop
  | .i => P.underlying ty = some (.int .i64) ∧ P.cellsOf ty = 1
  | .b => P.underlying ty = some .bool ∧ P.cellsOf ty = 1
  | .s => P.underlying ty = some .string ∧ P.cellsOf ty = 1
  | .x => ∃ sl ti ts f0 f1 f2 f3, Four P ty sl ti ts f0 f1 f2 f3
  | .ss => ∃ te, P.underlying ty = some (.slice te) ∧ P.underlying te = some .string ∧ P.cellsOf te = 1 ∧ P.cellsOf ty = 1
  | .is => ∃ te, P.underlying ty = some (.slice te) ∧ P.underlying te = some (.int .i64) ∧ P.cellsOf te = 1 ∧ P.cellsOf ty = 1
  | .sl n => U n ∧ P.underlying ty = some (.slice (tyL n)) ∧ P.cellsOf (tyL n) = wd n ∧ P.cellsOf ty = 1
def FA (P : Program) (U : Nat → Prop) (tyL : Nat → TypeId) : List Field → List K → Nat → Prop
  | [], [], _ => True
  | f :: fs, k :: ks, o => f.offset = o ∧ KindAt P U tyL f.type k ∧ FA P U tyL fs ks (o + kw k)
  | _, _, _ => False
def StructAt (P : Program) (U : Nat → Prop) (tyL : Nat → TypeId) (t : TypeId) (ks : List K) : Prop := ∃ fs : List Field, P.underlying t = some (.struct fs.toArray) ∧ FA P U tyL fs ks 0 ∧ P.cellsOf t = kws ks
theorem ldN_of {w : World} {a : Addr} {cs : List Value} {n : Nat} (h : w.cells? base a n = some cs) (hn : 0 < n) : LdN w a cs ∧ a.block < w.heap.size ∧ cs.length = n := by
  obtain ⟨_, hl, hc⟩ := World.cells?_some h
  have g : LdN w a cs := fun i u hu => by
    have hi : i < cs.length := by
      rcases Nat.lt_or_ge i cs.length with h' | h'
      · exact h'
      · rw [List.getElem?_eq_none h'] at hu; cases hu
    rw [hc i (by omega)]; exact hu
  refine ⟨g, ?_, hl⟩
  have h0 := g 0 cs[0] (List.getElem?_eq_getElem (by omega))
  exact lt_cell (a := a) h0
theorem take1 {cs : List Value} {o : Nat} (h : o < cs.length) : (cs.drop o).take 1 = [cs[o]] ∧ cs.drop o = cs[o] :: cs.drop (o + 1) := by
  rw [List.drop_eq_getElem_cons h]; exact ⟨rfl, rfl⟩
theorem kw_pos (k : K) : 0 < kw k := by cases k <;> simp [kw]
def Sub (enc : TypeId × Value → H) (P : Program) (W : World) (base : Nat) (sp : Nat → Bool) (held : Bool) (U : Nat → Prop) (tyL : Nat → TypeId) (fuel : Nat) : Prop :=
  ∀ n, U n → ∀ (cs : List Value) (x : DataW H × List MemPlace), DataW.trod enc P W base sp held fuel (tyL n) cs = some x → ∃ ds, Ty (sh n) ds ∧ Rd8 W W.heap.size cs ds ∧ cs.length = wd n
theorem open_row {fuel : Nat} (ih : ∀ m, m < fuel → Sub enc P W base sp held U tyL m) {ty : TypeId} {n : Nat} (hk : KindAt P U tyL ty (.sl n)) {v : Value} {x : DataW H × List MemPlace} (h : DataW.trod enc P W base sp held fuel ty [v] = some x) :
    ∃ l, (∀ e ∈ l, Ty (sh n) e) ∧ ∀ cs ds, Rd8 W W.heap.size cs ds → Rd8 W W.heap.size (v :: cs) (.sl n l :: ds) := by
  obtain ⟨hU, hu, hw, h1⟩ := hk
  rcases DataW.trod_slice hu h with ⟨e3, _⟩ | ⟨a, len, cap, elems, rest, n', hn', e3, _, _, hlc, hcm, hel, hget, _, _⟩
  · cases e3
    exact ⟨[], by simp, fun cs ds r => .sl (l := []) (fun _ => []) ⟨by simp, by simp⟩ (fun j hj => by simp at hj) (fun j e he => by simp at he) r⟩
  · cases e3
    rw [hw] at hget
    have hfam : ∀ i, i < len → ∃ z : List Value × List D, W.cells? base (a.add (i * wd n)) (wd n) = some z.1 ∧ Ty (sh n) z.2 ∧ Rd8 W W.heap.size z.1 z.2 := fun i hi => by
      have hg := hget i hi
      rw [List.getElem?_eq_getElem (by omega)] at hg
      obtain ⟨cs', h1, h2⟩ := Option.bind_eq_some_iff.1 hg
      obtain ⟨ds, hd, hr, _⟩ := ih n' (by omega) n hU cs' _ h2
      exact ⟨(cs', ds), h1, hd, hr⟩
    obtain ⟨fam, hfm⟩ := Go.Deep.choose_lt hfam
    have hlr : ((List.range len).map fun i => (fam i).2).length = len := by simp
    refine ⟨(List.range len).map fun i => (fam i).2, fun e he => ?_, fun cs ds r => ?_⟩
    · obtain ⟨i, hi, rfl⟩ := List.mem_map.1 he
      exact (hfm i (List.mem_range.1 hi)).2.1
    · have := Rd8.sl (w := W) (B := W.heap.size) (n := n) (A := some a) (c := cap) (l := (List.range len).map fun i => (fam i).2) (fun i => (fam i).1) (by rw [hlr]; unfold maxLen at hcm; exact ⟨by unfold maxI; omega, hlc⟩)
        (fun j hj => by
          rw [hlr] at hj
          obtain ⟨h2, h3, h4⟩ := ldN_of (hfm j hj).1 (wd_pos n)
          rw [add_block] at h3
          exact ⟨h4, a, rfl, h3, h2⟩)
        (fun j e he => by
          have hj : j < len := by
            rcases Nat.lt_or_ge j len with h | h
            · exact h
            · rw [List.getElem?_eq_none (by rw [hlr]; exact h)] at he; cases he
          rw [List.getElem?_map, List.getElem?_range hj] at he
          cases he
          exact (hfm j hj).2.2) r
      rw [hlr] at this
      exact this
theorem ex_cells {cs : List Value} {e : T} (h : Ex W W.heap.size (.agg cs.toArray) e) : ∃ k n s A l c, cs = [.int .i64 k, .int .i64 n, sv s, .slice A l c] ∧ Ex W W.heap.size (nv k n s A l c) e := by
  obtain ⟨k, n, s, A, l, c, hf⟩ := h.form
  injection hf with h1
  have h2 := congrArg Array.toList h1
  simp only at h2
  subst h2
  exact ⟨k, n, s, A, l, c, rfl, h⟩
theorem open_leaf {fuel : Nat} {α : Type} {f : α → Value} {Q : α → Prop} {ty te : TypeId} (hu : P.underlying ty = some (.slice te)) (h1 : P.cellsOf te = 1) (hleaf : ∀ (n : Nat) (v : Value) (y : DataW H × List MemPlace), DataW.trod enc P W base sp held n te [v] = some y → ∃ a, v = f a ∧ Q a)
    {v : Value} {x : DataW H × List MemPlace} (h : DataW.trod enc P W base sp held fuel ty [v] = some x) :
    ∃ (A : Option Addr) (c : Nat) (l : List α), v = .slice A l.length c ∧ Rd W W.heap.size A (l.map f) ∧ (∀ a ∈ l, Q a) ∧ (l.length ≤ maxI ∧ l.length ≤ c) := by
  rcases DataW.trod_slice hu h with ⟨e3, _⟩ | ⟨a, len, cap, elems, rest, n', hn', e3, _, _, hlc, hcm, hel, hget, _, _⟩
  · cases e3
    exact ⟨none, 0, [], rfl, Rd.nil_, by simp, by simp, by simp⟩
  · cases e3
    rw [h1] at hget
    have hfam : ∀ i, i < len → ∃ z : α, (W.cell? (a.add i) = some (f z) ∧ a.block < W.heap.size) ∧ Q z := fun i hi => by
      have hg := hget i hi
      rw [List.getElem?_eq_getElem (by omega), Nat.mul_one] at hg
      obtain ⟨cs', h1, h2⟩ := Option.bind_eq_some_iff.1 hg
      obtain ⟨hld, hb, hlen⟩ := ldN_of h1 (by omega)
      match cs', hlen with
      | [v], _ =>
        obtain ⟨z, rfl, hq⟩ := hleaf n' v _ h2
        rw [add_block] at hb
        exact ⟨z, ⟨hld 0 _ rfl, hb⟩, hq⟩
    by_cases h0 : len = 0
    · subst h0
      exact ⟨some a, cap, [], rfl, Rd.nil_, by simp, by simp, by simp⟩
    obtain ⟨z0, _⟩ := hfam 0 (by omega)
    haveI : Inhabited α := ⟨z0⟩
    obtain ⟨fam, hfm⟩ := Go.Deep.choose_lt hfam
    have hlr : ((List.range len).map fam).length = len := by simp
    refine ⟨some a, cap, (List.range len).map fam, by rw [hlr], fun _ => ⟨a, rfl, (hfm 0 (by omega)).1.2, fun j u hu => ?_⟩, fun e he => ?_, ?_, ?_⟩
    · rw [List.map_map, List.getElem?_map] at hu
      cases hq : (List.range len)[j]? with
      | none => rw [hq] at hu; cases hu
      | some i =>
        rw [hq] at hu
        obtain ⟨hj, hy⟩ := List.getElem?_eq_some_iff.1 hq
        rw [List.getElem_range] at hy
        subst hy
        cases hu
        exact (hfm j (by simpa using hj)).1.1
    · obtain ⟨i, hi, rfl⟩ := List.mem_map.1 he
      exact (hfm i (List.mem_range.1 hi)).2
    · rw [hlr]; unfold maxLen at hcm; unfold maxI; omega
    · rw [hlr]; exact hlc
theorem open_FA {n : Nat} (ih : ∀ m, m < n + 1 → Sub enc P W base sp held U tyL m) (cs : List Value) : ∀ (fs : List Field) (ks : List K) (o : Nat), FA P U tyL fs ks o → cs.length = o + kws ks →
    (∀ f ∈ fs, ∃ y, DataW.trod enc P W base sp held n f.type ((cs.drop f.offset).take (P.cellsOf f.type)) = some y) → ∃ ds, Ty ks ds ∧ Rd8 W W.heap.size (cs.drop o) ds
  | [], [], o, _, hl, _ => ⟨[], .nil, by rw [List.drop_of_length_le (by simp [kws] at hl; omega)]; exact .nil⟩
  | f :: fs, k :: ks, o, hFA, hl, hf => by
    obtain ⟨ho, hk, hr⟩ := hFA
    have hkp := kw_pos k
    rw [kws] at hl
    obtain ⟨ds, ht, hrd⟩ := open_FA ih cs fs ks (o + kw k) hr (by omega) fun g hg => hf g (by simp [hg])
    obtain ⟨y, hy⟩ := hf f (by simp)
    rw [ho] at hy
    have ho' : o < cs.length := by omega
    obtain ⟨e1, e2⟩ := take1 ho'
    cases k with
    | i =>
      rw [hk.2, e1] at hy
      obtain ⟨m, ek, _, _⟩ := DataW.trod_int hk.1 hy
      injection ek with e3
      rw [e2, e3]
      exact ⟨.i m :: ds, .i ht, .i hrd⟩
    | b =>
      rw [hk.2, e1] at hy
      obtain ⟨m, ek, _⟩ := DataW.trod_bool hk.1 hy
      injection ek with e3
      rw [e2, e3]
      exact ⟨.b m :: ds, .b ht, .b hrd⟩
    | s =>
      rw [hk.2, e1] at hy
      obtain ⟨m, ek, _, hs⟩ := DataW.trod_string hk.1 hy
      injection ek with e3
      have hsv : Value.string m = sv m.data.toList := congrArg Value.string (str_eta m).symm
      rw [e2, e3, hsv]
      exact ⟨.s m.data.toList :: ds, .s ht, .s (str_len hs) hrd⟩
    | x =>
      obtain ⟨sl, ti, ts, f0, f1, f2, f3, F⟩ := hk
      rw [F.cells] at hy
      obtain ⟨e, he⟩ := open_exF F n _ _ hy
      obtain ⟨k, m, s, A, l, c, hc, hx⟩ := ex_cells he
      have hsplit : cs.drop o = (cs.drop o).take 4 ++ cs.drop (o + 4) := by rw [← List.drop_drop]; exact (List.take_append_drop 4 _).symm
      rw [hsplit, hc]
      exact ⟨.x e :: ds, .x ht, .x hx hrd⟩
    | ss =>
      obtain ⟨te, hu, hs, h1, h2⟩ := hk
      rw [h2, e1] at hy
      obtain ⟨A, c, l, hv, hr2, hq, hl2⟩ := open_leaf (f := sv) (Q := fun x => x.length ≤ maxI) hu h1 (fun n v y h => by
        obtain ⟨m, ek, _, hs'⟩ := DataW.trod_string hs h
        injection ek with e3
        exact ⟨m.data.toList, by rw [e3], str_len hs'⟩) hy
      rw [e2, hv]
      exact ⟨.ss l :: ds, .ss ht, .ss hr2 hq hl2 hrd⟩
    | is =>
      obtain ⟨te, hu, hs, h1, h2⟩ := hk
      rw [h2, e1] at hy
      obtain ⟨A, c, l, hv, hr2, hq, hl2⟩ := open_leaf (f := Value.int .i64) (Q := fun _ => True) hu h1 (fun n v y h => by
        obtain ⟨m, ek, _, _⟩ := DataW.trod_int hs h
        injection ek with e3
        exact ⟨m, e3, trivial⟩) hy
      rw [e2, hv]
      exact ⟨.is l :: ds, .is ht, .is hr2 hl2 hrd⟩
    | sl q =>
      have h2 := hk.2.2.2
      rw [h2, e1] at hy
      obtain ⟨l, hl2, hr2⟩ := open_row (fun m hm => ih m (by omega)) hk hy
      rw [e2]
      exact ⟨.sl q l :: ds, .sl hl2 ht, hr2 _ _ hrd⟩
theorem open_struct {fuel : Nat} (ih : ∀ m, m < fuel → Sub enc P W base sp held U tyL m) {t : TypeId} {ks : List K} (hS : StructAt P U tyL t ks) {cs : List Value} {x : DataW H × List MemPlace} (h : DataW.trod enc P W base sp held fuel t cs = some x) :
    ∃ ds, Ty ks ds ∧ Rd8 W W.heap.size cs ds ∧ cs.length = kws ks := by
  obtain ⟨fs, hu, hFA, hc⟩ := hS
  obtain ⟨xs, n, hfuel, hx, hl, hlen, hf⟩ := DataW.trod_struct hu h
  subst hfuel
  rw [hc] at hl
  obtain ⟨ds, h1, h2⟩ := open_FA ih cs fs ks 0 hFA (by omega) fun f hfm => by
    obtain ⟨i, hi, rfl⟩ := List.getElem_of_mem hfm
    have hg := hf i fs[i] (by simp [hi])
    have hix : i < xs.length := by rw [hlen]; simpa using hi
    rw [List.getElem?_eq_getElem hix] at hg
    exact ⟨_, hg⟩
  rw [List.drop_zero] at h2
  exact ⟨ds, h1, h2, hl⟩
theorem open_sub (HS : ∀ n, U n → StructAt P U tyL (tyL n) (sh n)) (fuel : Nat) : Sub enc P W base sp held U tyL fuel := by
  induction fuel using Nat.strongRecOn with
  | ind fuel ih =>
    intro n hU cs x h
    obtain ⟨ds, h1, h2, h3⟩ := open_struct ih (HS n hU) h
    exact ⟨ds, h1, h2, by rw [h3, sh_wd]⟩
end
end Go.Proofs.YtnmomlaimffonaaGreat.Gd
