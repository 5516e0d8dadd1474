/- How a law's row is closed: shared steps. -/
import Derived.Test.YtjglllpemhkkdaaGreatDoorRows
import Derived.WalkKit
import Derived.ProofKit
import Derived.OpenShut
import Derived.Deep.Strs
import Derived.Carry
import Derived.Test.YtjglllpemhkkdaaGreatDoorZCom
import Derived.Below
import Derived.ChangeSame
import Derived.Test.YtjglllpemhkkdaaGreatDoorZE8
import Derived.LaidHandle
import Derived.LaidLaws
import Derived.Stop.LaidErr
import Derived.RowKitTokens
import Derived.Deep.DeepHandedRow
set_option maxRecDepth 100000
namespace Go.Proofs.YtjglllpemhkkdaaGreatDoor.Close
open Mem
open Go.ChangeShapes Go.WideShapes Go.ChangeAt Go.RowKit

theorem own : ownKnob Tryz.prog.godebug = none := by kernel_rfl

theorem cellsStr : Tryz.prog.cellsOf 9 = 1 := by kernel_rfl
theorem laidOut : laidOutB Tryz.prog = true := by kernel_rfl
section
variable {H : Type} {enc : TypeId × Value → H} {P : Program}

theorem trodAll_below (hl : laidOutB P = true) {W W' : World} (hb : Below W.heap.size W W') : ∀ {ts : List TypeId} {vs : List Value} {ds : List (DataW H)} {ps : List MemPlace}, (∀ t ∈ ts, P.readableRec t = true ∧ t < P.types.size) →
    DataW.TrodAll enc P W 0 (fun _ => true) true ts vs ds ps → (∀ x ∈ ps, x.block < W.heap.size) → DataW.TrodAll enc P W' 0 (fun b => decide (b < W.heap.size)) true ts vs ds ps
  | [], [], [], _, _, h, _ => h
  | t :: ts, v :: vs, d :: ds, ps, hr, h, hlt => by
    obtain ⟨p, q, h1, h2, rfl⟩ := h
    exact ⟨p, q, Below.trod hl (hr t List.mem_cons_self).1 (hr t List.mem_cons_self).2 h1 hb (fun x hx => hlt x (List.mem_append_left _ hx)),
      trodAll_below hl hb (fun t ht => hr t (List.mem_cons_of_mem _ ht)) h2 (fun x hx => hlt x (List.mem_append_right _ hx)), rfl⟩
  | [], _ :: _, _, _, _, h, _ => h.elim
  | [], [], _ :: _, _, _, h, _ => h.elim
  | _ :: _, [], _, _, _, h, _ => h.elim
  | _ :: _, _ :: _, [], _, _, h, _ => h.elim

end

theorem lt_cell {w : World} {a : Addr} {v : Value} (h : w.cell? a = some v) : a.block < w.heap.size := by
  rcases Nat.lt_or_ge a.block w.heap.size with hlt | hge
  · exact hlt
  · unfold World.cell? at h; rw [Array.getElem?_eq_none hge] at h; cases h

theorem open_intL {H : Type} {enc : TypeId × Value → H} {P : Program} {W : World} {base : Nat} {sp : Nat → Bool} {v : Value} {d : DataW H} {p : List MemPlace} {t e : TypeId} {k : IntKind}
    (ht : P.underlying t = some (.slice e)) (he : P.underlying e = some (.int k)) (hce : P.cellsOf e = 1)
    (hv : Value.okWide P W .any base t v) (h : DataW.Trod enc P W 0 sp true t v d p) :
    ∃ (A : Option Addr) (c : Nat) (l : List Int), v = .slice A l.length c ∧ Rd W W.heap.size A (l.map (Value.int k)) ∧ (∀ x ∈ l, (Lit.int k x).wf = true) ∧ l.length ≤ 9223372036854775807 := by
  obtain ⟨a0, len, cap, rfl⟩ := okWide_slice ht hv
  obtain ⟨n, hn⟩ := h
  rcases open_ints ht he hce hn with ⟨hcs, hx⟩ | ⟨a, len', cap', ss, hcs, _, hl, hm, hz, hx, hcell, hws⟩
  · simp [Value.cells] at hcs
    obtain ⟨rfl, rfl, rfl⟩ := hcs
    exact ⟨none, 0, [], rfl, Rd.nil_, by simp, by simp⟩
  · simp [Value.cells] at hcs
    obtain ⟨rfl, rfl, rfl⟩ := hcs
    have hlen : (ss.take len).length = len := by rw [List.length_take, hz]; split <;> omega
    refine ⟨some a, cap, ss.take len, by rw [hlen], fun _ => ⟨a, rfl, ?_, ?_⟩, fun x hx => hws x (List.mem_of_mem_take hx), by rw [hlen]; unfold maxLen at hm; omega⟩
    · by_cases h0 : len = 0
      · rename_i hne; subst h0; simp at hne
      · have := lt_cell (hcell 0 (by rw [List.length_take] at hlen; omega))
        rwa [add_block] at this
    · intro j u hu
      rw [List.getElem?_map] at hu
      cases hq : (ss.take len)[j]? with
      | none => rw [hq] at hu; cases hu
      | some y =>
        rw [hq] at hu
        obtain ⟨hj, hy⟩ := List.getElem?_eq_some_iff.1 hq
        have hjl : j < ss.length := by rw [List.length_take] at hj; omega
        rw [hcell j hjl, ← Option.some.inj hu]
        rw [List.getElem_take] at hy
        rw [List.getD_eq_getElem?_getD, List.getElem?_eq_getElem hjl, Option.getD_some, hy]

theorem cellsU8 : Tryz.prog.cellsOf 5 = 1 := by kernel_rfl
set_option maxRecDepth 100000 in
theorem open_bytesL {H : Type} {enc : TypeId × Value → H} {W : World} {base : Nat} {sp : Nat → Bool} {v : Value} {d : DataW H} {p : List MemPlace}
    (hv : Value.okWide Tryz.prog W .any base 22 v) (h : DataW.Trod enc Tryz.prog W 0 sp true 22 v d p) :
    ∃ (A : Option Addr) (c : Nat) (l : List UInt8), v = .slice A l.length c ∧ Rd W W.heap.size A (l.map bv) ∧ l.length ≤ 9223372036854775807 := by
  obtain ⟨A, c, l, rfl, hr, hw, hl⟩ := open_intL Tryz.underlying22 Tryz.underlying5 cellsU8 hv h
  have e : (l.map fun x => UInt8.ofNat x.toNat).map bv = l.map (Value.int .u8) := by
    rw [List.map_map]
    refine List.map_congr_left fun x hx => ?_
    have hwx := hw x hx
    have hb : 0 ≤ x ∧ x ≤ 255 := by simpa [Lit.wf, IntKind.min, IntKind.max, IntKind.signed, IntKind.bits] using hwx
    show Value.int .u8 ((UInt8.ofNat x.toNat).toNat : Int) = Value.int .u8 x
    have e2 : ((UInt8.ofNat x.toNat).toNat : Int) = x := by rw [UInt8.toNat_ofNat']; omega
    rw [e2]
  exact ⟨A, c, l.map fun x => UInt8.ofNat x.toNat, by rw [List.length_map], by rw [e]; exact hr, by rw [List.length_map]; exact hl⟩
end Go.Proofs.YtjglllpemhkkdaaGreatDoor.Close

/- What the listed variables hold, out of the rows' condition; a world in which they hold it. -/
set_option maxRecDepth 100000
namespace Go.Proofs.YtjglllpemhkkdaaGreatDoor.La
open Go.ChangeShapes Go.WideShapes Go.ChangeAt Go.RowKit Go.Proofs.YtjglllpemhkkdaaGreatDoor Close

abbrev NVN : String := "loop.example/g00514/impl.errNotValid"
abbrev L6 : List (String × DataW Unit) := [("errors.errorType", Rows.laid_errors_errorType), (NVN, Rows.laid_loop_example_g00514_impl_errNotValid)]
theorem et : Tryz.prog.globalNamed "errors.errorType" = some 1 := by kernel_rfl
theorem nvg : Tryz.prog.globalNamed NVN = some 0 := by kernel_rfl
theorem nvType : (Tryz.prog.globals[0]?).map (·.type) = some 118 := by kernel_rfl
theorem rt : (Tryz.prog.cutTypes.find? (·.1 == "internal/reflectlite.rtype")).map (·.2) = some As.RT := by kernel_rfl
theorem oneRow : ((List.range 484).filter fun t => Tryz.prog.rowNamed t [101, 114, 114, 111, 114]) = [118] := by kernel_rfl
theorem size : Tryz.prog.types.size ≤ 484 := of_decide_eq_true (by kernel_rfl)
theorem cellsES : Tryz.prog.cellsOf 374 = 1 := by kernel_rfl
theorem star : "*" ++ "errors.errorString" = "*errors.errorString" := by decide
theorem rowES (u : TypeId) (h : Tryz.prog.typeName? 3 u = some "*errors.errorString") : u = 355 :=
  typeName_ptr_named (nm := "errors.errorString") (by rw [star]; kernel_rfl) (by kernel_rfl) (by decide) u (by rw [star]; exact h)
theorem split {W : World} (h : laidMetH Tryz.prog L6 W) : laidMet Tryz.prog [(NVN, Rows.laid_loop_example_g00514_impl_errNotValid)] W ∧ handlesMet Tryz.prog [("errors.errorType", Rows.laid_errors_errorType)] W := h
theorem handle_of_laid {W : World} (h : laidMetH Tryz.prog L6 W) : As.Handle W := by
  obtain ⟨name, u, ty, e1, e2, e3, e4, e5⟩ := (split h).2 _ (List.mem_singleton.2 rfl)
  have en : name = [101, 114, 114, 111, 114] := (Option.some.inj e1).symm
  subst en
  obtain rfl := Option.some.inj (rt.symm.trans e2)
  have hm : ty ∈ (List.range 484).filter fun t => Tryz.prog.rowNamed t [101, 114, 114, 111, 114] := List.mem_filter.2 ⟨List.mem_range.2 (Nat.lt_of_lt_of_le e3 size), e4⟩
  rw [oneRow] at hm
  obtain rfl := List.mem_singleton.1 hm
  have hh : typeHandle Tryz.prog 118 = .pointer (some ⟨As.HB, As.ERR, none⟩) := by kernel_rfl
  rw [hh] at e5
  unfold As.Handle
  simpa using World.var?_cell et e5 0
theorem var_of_laid {W : World} (h : laidMetH Tryz.prog L6 W) : ∃ a : Addr, W.var? Tryz.prog NVN = some #[.iface 355 (.pointer (some a))] := by
  obtain ⟨a, s, hv, _, _, _⟩ := laid_sentinel (split h).1 nvg nvType Tryz.underlying118 rowES Tryz.underlying355 Tryz.underlying374 rfl rfl Tryz.underlying9 cellsES cellsStr
  exact ⟨a, hv⟩
theorem notv_of_var {W : World} {a : Addr} (h : W.var? Tryz.prog NVN = some #[.iface 355 (.pointer (some a))]) : Tk.NotV W := ⟨some a, by simpa using World.var?_cell nvg h 0⟩
theorem var_below {W W' : World} {n : String} {cs : Array Value} (h : W.var? Tryz.prog n = some cs) (hb : Below W.heap.size W W') : W'.var? Tryz.prog n = some cs := by
  unfold World.var? at h ⊢
  cases hg : Tryz.prog.globalNamed n with
  | none => simp [hg] at h
  | some g =>
    simp only [hg, Option.bind_some] at h ⊢
    have hlt : g < W.heap.size := by
      rcases Nat.lt_or_ge g W.heap.size with h' | h'
      · exact h'
      · simp [Array.getElem?_eq_none h'] at h
    rw [hb.block g hlt]
    exact h
theorem law_post1 {H : Type} {enc : TypeId × Value → H} {f : Func} {s : ChangeSpec} {W W' : World} {args : Array Value} {ds : List (DataW H)} {before : List MemPlace} {tb : TypeId} {x : Value}
    (hr : ∀ t ∈ f.params.toList, Tryz.prog.readableRec t = true ∧ t < Tryz.prog.types.size)
    (hW : DataW.Whole enc Tryz.prog f.params.toList s.vars false W args.toList ds [tok enc x] before) (hv : s.vars = [NVN]) (hrt : f.resultTypes = #[tb]) (hbool : Tryz.prog.underlying tb = some .bool)
    (hx : W.var? Tryz.prog NVN = some #[x]) (ix : IsIface x)
    (e1 : (s.fn H (ds ++ [tok enc x])).results = [.lit (.bool true)]) (e2 : (s.fn H (ds ++ [tok enc x])).args = ds) (e3 : (s.fn H (ds ++ [tok enc x])).vars = [tok enc x]) (hb : Below W.heap.size W W') :
    s.post enc Tryz.prog f false true false false W args (.bool true) W' := by
  have hlt : ∀ x ∈ before, x.block < W.heap.size := fun x hx => hW.lt x hx
  obtain ⟨p, q, hA, hV, hpq, _, _⟩ := id hW
  refine ⟨ds, [tok enc x], before, [], p, [.cell 0 0], hW, ?_, ?_, ?_, hb.frame _, fun h => by cases h⟩
  · rw [e1, hrt]
    exact trodAll_mk1 (shut_bool hbool _)
  · rw [e2]
    exact trodAll_below laidOut hb hr hA (fun x hx => hlt x (by rw [hpq]; exact List.mem_append_left _ hx))
  · rw [e3, hv]
    exact vars_read1 enc nvg nvType Tryz.underlying118 (var_below hx hb) ix _
noncomputable def low : Nat := (World.holding Tryz.prog default ⟨#[], #[], []⟩).heap.size
abbrev text : ByteArray := { data := #[116, 104, 101, 32, 115, 121, 110, 116, 97, 120, 32, 105, 115, 32, 114, 105, 103, 104, 116, 44, 32, 98, 117, 116, 32, 116, 104, 101, 32, 114, 101, 115, 117, 108, 116, 32, 105, 115, 32, 110, 111, 116, 32, 118, 97, 108, 105, 100] }
noncomputable def laidWorld (os : Os) : World :=
  let w0 := World.holding Tryz.prog os ⟨#[.cells #[.string text] 374], #[], []⟩
  { w0 with heap := (w0.heap.modify 0 fun
      | .cells _ t frozen => .cells #[.iface 355 (.pointer (some ⟨low, 0, none⟩))] t frozen
      | o => o).modify 1 fun
      | .cells _ t frozen => .cells #[.iface 295 (.agg #[.pointer (some ⟨As.HB, As.ERR, none⟩)])] t frozen
      | o => o }
end Go.Proofs.YtjglllpemhkkdaaGreatDoor.La
