/- How a law's row is closed: shared steps. -/
import Derived.Test.YtklcbagddijkgaaGreatDoorRows
import Derived.WalkKit
import Derived.ProofKit
import Derived.OpenShut
import Derived.Deep.Strs
import Derived.Carry
import Derived.Test.YtklcbagddijkgaaGreatDoorZCom
import Derived.Below
import Derived.ChangeSame
import Derived.Test.YtklcbagddijkgaaGreatDoorZP6i
import Derived.LaidHandle
import Derived.LaidLaws
import Derived.Stop.LaidErr
import Derived.RowKitTokens
import Derived.Deep.DeepHandedRow
set_option maxRecDepth 100000
namespace Go.Proofs.YtklcbagddijkgaaGreatDoor.Close
open Go.Proofs.YtklcbagddijkgaaGreatDoor.Mem
open Go.ChangeShapes Go.WideShapes Go.ChangeAt Go.RowKit

theorem own : ownKnob Tryz.prog.godebug = none := by kernel_rfl

theorem str_eta (a : ByteArray) : (⟨a.data.toList.toArray⟩ : ByteArray) = a := by cases a; simp
theorem str_len {a : ByteArray} (h : a.size ≤ maxLen) : a.data.toList.length ≤ 9223372036854775807 := by
  have e : a.data.toList.length = a.size := by rw [Array.length_toList]; rfl
  unfold maxLen at h; omega
theorem cellsStr : Tryz.prog.cellsOf 9 = 1 := by kernel_rfl
theorem laidOut : laidOutB Tryz.prog = true := by kernel_rfl
section
variable {H : Type} {enc : TypeId × Value → H} {P : Program}

theorem trodAll_below (hl : laidOutB P = true) {W W' : World} (hb : Below W.heap.size W W') : ∀ {ts : List TypeId} {vs : List Value} {ds : List (DataW H)} {ps : List MemPlace}, (∀ t ∈ ts, P.readableRec t = true ∧ t < P.types.size) →
    DataW.TrodAll enc P W 0 (fun _ => true) true ts vs ds ps → (∀ x ∈ ps, x.block < W.heap.size) → DataW.TrodAll enc P W' 0 (fun b => decide (b < W.heap.size)) true ts vs ds ps
  | [], [], [], _, _, h, _ => h
  | t :: ts, v :: vs, d :: ds, ps, hr, h, hlt => by
    obtain ⟨p, q, h1, h2, rfl⟩ := h
    exact ⟨p, q, Below.trod hl (hr t List.mem_cons_self).1 (hr t List.mem_cons_self).2 h1 hb (fun x hx => hlt x (List.mem_append_left _ hx)),
      trodAll_below hl hb (fun t ht => hr t (List.mem_cons_of_mem _ ht)) h2 (fun x hx => hlt x (List.mem_append_right _ hx)), rfl⟩
  | [], _ :: _, _, _, _, h, _ => h.elim
  | [], [], _ :: _, _, _, h, _ => h.elim
  | _ :: _, [], _, _, _, h, _ => h.elim
  | _ :: _, _ :: _, [], _, _, h, _ => h.elim

end

end Go.Proofs.YtklcbagddijkgaaGreatDoor.Close

/- What the listed variables hold, out of the rows' condition; a world in which they hold it. -/
set_option maxRecDepth 100000
namespace Go.Proofs.YtklcbagddijkgaaGreatDoor.La
open Go.ChangeShapes Go.WideShapes Go.ChangeAt Go.RowKit Go.Proofs.YtklcbagddijkgaaGreatDoor Go.Proofs.YtklcbagddijkgaaGreatDoor.Close

abbrev NVN : String := "loop.example/g00514/impl.errNotValid"
theorem et : Tryz.prog.globalNamed "errors.errorType" = some 1 := by kernel_rfl
theorem nvg : Tryz.prog.globalNamed NVN = some 0 := by kernel_rfl
theorem nvType : (Tryz.prog.globals[0]?).map (·.type) = some 98 := by kernel_rfl
theorem rt : (Tryz.prog.cutTypes.find? (·.1 == "internal/reflectlite.rtype")).map (·.2) = some As.RT := by kernel_rfl
theorem oneRow : ((List.range 440).filter fun t => Tryz.prog.rowNamed t [101, 114, 114, 111, 114]) = [98] := by kernel_rfl
theorem size : Tryz.prog.types.size ≤ 440 := of_decide_eq_true (by kernel_rfl)
theorem cellsES : Tryz.prog.cellsOf 330 = 1 := by kernel_rfl
theorem star : "*" ++ "errors.errorString" = "*errors.errorString" := by decide
theorem rowES (u : TypeId) (h : Tryz.prog.typeName? 3 u = some "*errors.errorString") : u = 309 :=
  typeName_ptr_named (nm := "errors.errorString") (by rw [star]; kernel_rfl) (by kernel_rfl) (by decide) u (by rw [star]; exact h)
theorem split {W : World} (h : laidMetH Tryz.prog Rows.fnParseErrorsRow.laid W) : laidMet Tryz.prog [(NVN, Rows.laid_loop_example_g00514_impl_errNotValid)] W ∧ handlesMet Tryz.prog [("errors.errorType", Rows.laid_errors_errorType)] W := h
/-- the handle's cell -/
theorem handle_of_laid {W : World} (h : laidMetH Tryz.prog Rows.fnParseErrorsRow.laid W) : As.Handle W := by
  obtain ⟨name, u, ty, e1, e2, e3, e4, e5⟩ := (split h).2 _ (List.mem_singleton.2 rfl)
  have en : name = [101, 114, 114, 111, 114] := (Option.some.inj e1).symm
  subst en
  obtain rfl := Option.some.inj (rt.symm.trans e2)
  have hm : ty ∈ (List.range 440).filter fun t => Tryz.prog.rowNamed t [101, 114, 114, 111, 114] := List.mem_filter.2 ⟨List.mem_range.2 (Nat.lt_of_lt_of_le e3 size), e4⟩
  rw [oneRow] at hm
  obtain rfl := List.mem_singleton.1 hm
  have hh : typeHandle Tryz.prog 98 = .pointer (some ⟨As.HB, As.ERR, none⟩) := by kernel_rfl
  rw [hh] at e5
  unfold As.Handle
  simpa using World.var?_cell et e5 0
/-- the sentinel's variable -/
theorem var_of_laid {W : World} (h : laidMetH Tryz.prog Rows.fnParseErrorsRow.laid W) : ∃ a : Addr, W.var? Tryz.prog NVN = some #[.iface 309 (.pointer (some a))] := by
  obtain ⟨a, s, hv, _, _, _⟩ := laid_sentinel (split h).1 nvg nvType Tryz.underlying98 rowES Tryz.underlying309 Tryz.underlying330 rfl rfl Tryz.underlying9 cellsES cellsStr
  exact ⟨a, hv⟩
theorem notv_of_var {W : World} {a : Addr} (h : W.var? Tryz.prog NVN = some #[.iface 309 (.pointer (some a))]) : Tk.NotV W := ⟨some a, by simpa using World.var?_cell nvg h 0⟩
theorem var_below {W W' : World} {n : String} {cs : Array Value} (h : W.var? Tryz.prog n = some cs) (hb : Below W.heap.size W W') : W'.var? Tryz.prog n = some cs := by
  unfold World.var? at h ⊢
  cases hg : Tryz.prog.globalNamed n with
  | none => simp [hg] at h
  | some g =>
    simp only [hg, Option.bind_some] at h ⊢
    have hlt : g < W.heap.size := by
      rcases Nat.lt_or_ge g W.heap.size with h' | h'
      · exact h'
      · simp [Array.getElem?_eq_none h'] at h
    rw [hb.block g hlt]
    exact h
/-- a law's last step, one variable of an interface type named -/
theorem law_post1 {H : Type} {enc : TypeId × Value → H} {f : Func} {s : ChangeSpec} {W W' : World} {args : Array Value} {ds : List (DataW H)} {before : List MemPlace} {tb : TypeId} {x : Value}
    (hr : ∀ t ∈ f.params.toList, Tryz.prog.readableRec t = true ∧ t < Tryz.prog.types.size)
    (hW : DataW.Whole enc Tryz.prog f.params.toList s.vars false W args.toList ds [tok enc x] before) (hv : s.vars = [NVN]) (hrt : f.resultTypes = #[tb]) (hbool : Tryz.prog.underlying tb = some .bool)
    (hx : W.var? Tryz.prog NVN = some #[x]) (ix : IsIface x)
    (e1 : (s.fn H (ds ++ [tok enc x])).results = [.lit (.bool true)]) (e2 : (s.fn H (ds ++ [tok enc x])).args = ds) (e3 : (s.fn H (ds ++ [tok enc x])).vars = [tok enc x]) (hb : Below W.heap.size W W') :
    s.post enc Tryz.prog f false true false false W args (.bool true) W' := by
  have hlt : ∀ x ∈ before, x.block < W.heap.size := fun x hx => hW.lt x hx
  obtain ⟨p, q, hA, hV, hpq, _, _⟩ := id hW
  refine ⟨ds, [tok enc x], before, [], p, [.cell 0 0], hW, ?_, ?_, ?_, hb.frame _, fun h => by cases h⟩
  · rw [e1, hrt]
    exact trodAll_mk1 (shut_bool hbool _)
  · rw [e2]
    exact trodAll_below laidOut hb hr hA (fun x hx => hlt x (by rw [hpq]; exact List.mem_append_left _ hx))
  · rw [e3, hv]
    exact vars_read1 enc nvg nvType Tryz.underlying98 (var_below hx hb) ix _
/-- a world for the witness -/
noncomputable def low : Nat := (World.holding Tryz.prog default ⟨#[], #[], []⟩).heap.size
abbrev text : ByteArray := { data := #[116, 104, 101, 32, 115, 121, 110, 116, 97, 120, 32, 105, 115, 32, 114, 105, 103, 104, 116, 44, 32, 98, 117, 116, 32, 116, 104, 101, 32, 114, 101, 115, 117, 108, 116, 32, 105, 115, 32, 110, 111, 116, 32, 118, 97, 108, 105, 100] }
noncomputable def laidWorld (os : Os) : World :=
  let w0 := World.holding Tryz.prog os ⟨#[.cells #[.string text] 330], #[], []⟩
  { w0 with heap := (w0.heap.modify 0 fun
      | .cells _ t frozen => .cells #[.iface 309 (.pointer (some ⟨low, 0, none⟩))] t frozen
      | o => o).modify 1 fun
      | .cells _ t frozen => .cells #[.iface 248 (.agg #[.pointer (some ⟨As.HB, As.ERR, none⟩)])] t frozen
      | o => o }
end Go.Proofs.YtklcbagddijkgaaGreatDoor.La
