/- What the listed variables hold, out of the rows' condition (tables, a handle, a sentinel); a world in which they hold it. -/
import Derived.LaidHandle
import Derived.LaidLaws
import Derived.Stop.LaidErr
import Derived.Deep.DeepHandedRow
import Derived.Test.YtiogceepjffmkaaGreatDoorZP9g
import Derived.Test.YtiogceepjffmkaaGreatDoorZC9a
set_option maxHeartbeats 4000000
set_option maxRecDepth 100000
namespace Go.Proofs.YtiogceepjffmkaaGreatDoor.La
open Go.ChangeShapes Go.WideShapes Go.ChangeAt Go.RowKit Go.Proofs.YtiogceepjffmkaaGreatDoor Close
abbrev NVN : String := "loop.example/g00514/impl.errNotValid"
theorem et : Tryz.prog.globalNamed "errors.errorType" = some 1 := by kernel_rfl
theorem nvg : Tryz.prog.globalNamed NVN = some 0 := by kernel_rfl
theorem nvType : (Tryz.prog.globals[0]?).map (·.type) = some 93 := by kernel_rfl
theorem rt : (Tryz.prog.cutTypes.find? (·.1 == "internal/reflectlite.rtype")).map (·.2) = some As.RT := by kernel_rfl
theorem oneRow : ((List.range 462).filter fun t => Tryz.prog.rowNamed t [101, 114, 114, 111, 114]) = [93] := by kernel_rfl
theorem size : Tryz.prog.types.size ≤ 462 := of_decide_eq_true (by kernel_rfl)
theorem cellsES : Tryz.prog.cellsOf 352 = 1 := by kernel_rfl
theorem star : "*" ++ "errors.errorString" = "*errors.errorString" := by decide
theorem rowES (u : TypeId) (h : Tryz.prog.typeName? 3 u = some "*errors.errorString") : u = 333 :=
  typeName_ptr_named (nm := "errors.errorString") (by rw [star]; kernel_rfl) (by kernel_rfl) (by decide) u (by rw [star]; exact h)
abbrev DD : List (String × DataW Unit) := [("math/bits.deBruijn32tab", Rows.laid_math_bits_deBruijn32tab), ("math/bits.deBruijn64tab", Rows.laid_math_bits_deBruijn64tab), ("internal/strconv.uint64pow10", Rows.laid_internal_strconv_uint64pow10), (NVN, Rows.laid_loop_example_g00514_impl_errNotValid)]
abbrev LL : List (String × DataW Unit) := [("math/bits.deBruijn32tab", Rows.laid_math_bits_deBruijn32tab), ("math/bits.deBruijn64tab", Rows.laid_math_bits_deBruijn64tab), ("internal/strconv.uint64pow10", Rows.laid_internal_strconv_uint64pow10), ("errors.errorType", Rows.laid_errors_errorType), (NVN, Rows.laid_loop_example_g00514_impl_errNotValid)]
theorem split {W : World} (h : laidMetH Tryz.prog LL W) : laidMet Tryz.prog DD W ∧ handlesMet Tryz.prog [("errors.errorType", Rows.laid_errors_errorType)] W := h
theorem pow_of_laid {W : World} (h : laidMetH Tryz.prog LL W) : L1b.Pow W :=
  Lib.tabIs_of_head (rest := [(NVN, Rows.laid_loop_example_g00514_impl_errNotValid)]) (g := 3) (t := 329) (e := 313) (n := 20) (by kernel_rfl) (by kernel_rfl) Tryz.underlying329 Tryz.underlying313 (by kernel_rfl) (by kernel_rfl) (L1b.met_tail (L1b.met_tail (split h).1))
theorem handle_of_laid {W : World} (h : laidMetH Tryz.prog LL W) : As.Handle W := by
  obtain ⟨name, u, ty, e1, e2, e3, e4, e5⟩ := (split h).2 _ (List.mem_singleton.2 rfl)
  have en : name = [101, 114, 114, 111, 114] := (Option.some.inj e1).symm
  subst en
  obtain rfl := Option.some.inj (rt.symm.trans e2)
  have hm : ty ∈ (List.range 462).filter fun t => Tryz.prog.rowNamed t [101, 114, 114, 111, 114] := List.mem_filter.2 ⟨List.mem_range.2 (Nat.lt_of_lt_of_le e3 size), e4⟩
  rw [oneRow] at hm
  obtain rfl := List.mem_singleton.1 hm
  have hh : typeHandle Tryz.prog 93 = .pointer (some ⟨As.HB, As.ERR, none⟩) := by kernel_rfl
  rw [hh] at e5
  unfold As.Handle
  simpa using World.var?_cell et e5 0
theorem var_of_laid {W : World} (h : laidMetH Tryz.prog LL W) : ∃ a : Addr, W.var? Tryz.prog NVN = some #[.iface 333 (.pointer (some a))] := by
  obtain ⟨a, s, hv, _, _, _⟩ := laid_sentinel (L1b.met_tail (L1b.met_tail (L1b.met_tail (split h).1))) nvg nvType Tryz.underlying93 rowES Tryz.underlying333 Tryz.underlying352 rfl rfl Tryz.underlying9 cellsES cellsStr
  exact ⟨a, hv⟩
theorem notv_of_var {W : World} {a : Addr} (h : W.var? Tryz.prog NVN = some #[.iface 333 (.pointer (some a))]) : Tk.NotV W := ⟨some a, by simpa using World.var?_cell nvg h 0⟩
theorem var_below {W W' : World} {n : String} {cs : Array Value} (h : W.var? Tryz.prog n = some cs) (hb : Below W.heap.size W W') : W'.var? Tryz.prog n = some cs := by
  unfold World.var? at h ⊢
  cases hg : Tryz.prog.globalNamed n with
  | none => simp [hg] at h
  | some g =>
    simp only [hg, Option.bind_some] at h ⊢
    have hlt : g < W.heap.size := by
      rcases Nat.lt_or_ge g W.heap.size with h' | h'
      · exact h'
      · simp [Array.getElem?_eq_none h'] at h
    rw [hb.block g hlt]
    exact h
theorem law_post1 {H : Type} {enc : TypeId × Value → H} {f : Func} {s : ChangeSpec} {W W' : World} {args : Array Value} {ds : List (DataW H)} {before : List MemPlace} {tb : TypeId} {x : Value}
    (hr : ∀ t ∈ f.params.toList, Tryz.prog.readableRec t = true ∧ t < Tryz.prog.types.size)
    (hW : DataW.Whole enc Tryz.prog f.params.toList s.vars false W args.toList ds [tok enc x] before) (hv : s.vars = [NVN]) (hrt : f.resultTypes = #[tb]) (hbool : Tryz.prog.underlying tb = some .bool)
    (hx : W.var? Tryz.prog NVN = some #[x]) (ix : IsIface x)
    (e1 : (s.fn H (ds ++ [tok enc x])).results = [.lit (.bool true)]) (e2 : (s.fn H (ds ++ [tok enc x])).args = ds) (e3 : (s.fn H (ds ++ [tok enc x])).vars = [tok enc x]) (hb : Below W.heap.size W W') :
    s.post enc Tryz.prog f false true false false W args (.bool true) W' := by
  have hlt : ∀ x ∈ before, x.block < W.heap.size := fun x hx => hW.lt x hx
  obtain ⟨p, q, hA, hV, hpq, _, _⟩ := id hW
  refine ⟨ds, [tok enc x], before, [], p, [.cell 0 0], hW, ?_, ?_, ?_, hb.frame _, fun h => by cases h⟩
  · rw [e1, hrt]
    exact trodAll_mk1 (shut_bool hbool _)
  · rw [e2]
    exact trodAll_below laidOut hb hr hA (fun x hx => hlt x (by rw [hpq]; exact List.mem_append_left _ hx))
  · rw [e3, hv]
    exact vars_read1 enc nvg nvType Tryz.underlying93 (var_below hx hb) ix _
noncomputable def low : Nat := (World.holding Tryz.prog default ⟨#[], #[], []⟩).heap.size
abbrev text : ByteArray := { data := #[116, 104, 101, 32, 115, 121, 110, 116, 97, 120, 32, 105, 115, 32, 114, 105, 103, 104, 116, 44, 32, 98, 117, 116, 32, 116, 104, 101, 32, 114, 101, 115, 117, 108, 116, 32, 105, 115, 32, 110, 111, 116, 32, 118, 97, 108, 105, 100] }
def f0 : DataW Unit → List Value
  | .lit (.int k n) => [.int k n]
  | _ => []
def f1 : DataW Unit → List Value
  | .agg l => l.flatMap f0
  | d => f0 d
def lay (h : Array Obj) (x : Nat × DataW Unit) : Array Obj := h.modify x.1 fun
  | .cells _ t frozen => .cells (f1 x.2).toArray t frozen
  | o => o
noncomputable def laidWorld (os : Os) : World :=
  let w0 := World.holding Tryz.prog os ⟨#[.cells #[.string text] 352], #[], []⟩
  let h1 := [(4, Rows.laid_math_bits_deBruijn32tab), (5, Rows.laid_math_bits_deBruijn64tab), (3, Rows.laid_internal_strconv_uint64pow10)].foldl lay w0.heap
  { w0 with heap := (h1.modify 0 fun
      | .cells _ t frozen => .cells #[.iface 333 (.pointer (some ⟨low, 0, none⟩))] t frozen
      | o => o).modify 1 fun
      | .cells _ t frozen => .cells #[.iface 250 (.agg #[.pointer (some ⟨As.HB, As.ERR, none⟩)])] t frozen
      | o => o }
end Go.Proofs.YtiogceepjffmkaaGreatDoor.La
set_option maxRecDepth 100000
namespace Go.Proofs.YtiogceepjffmkaaGreatDoor.Gp
open Go.RowKit Go.Lib Go.Sort Num Com Mem Ow YtiogceepjffmkaaGreatDoor.Os Tr Tk Im Ag Pl Kd Gs Gd
def normPV (S : List UInt8) : List UInt8 × Bool := match progR S with
  | .ok p => (fmtP p, true)
  | .error _ => ([], false)
theorem normP_ok {S : List UInt8} {p : Pg} (h : progR S = .ok p) : normPV S = (fmtP p, true) := by unfold normPV; rw [h]
theorem normP_err {S : List UInt8} {a : Int} (h : progR S = .error a) : normPV S = ([], false) := by unfold normPV; rw [h]
theorem iformatP_cnt {lo hi : Nat} {v : Value} {p : Pg} (w : World) (hp : L1b.Pow w) (h : OwnP lo hi w v p) (hc : cntL p.body ≤ 4000000) (hx : exL p.body ≤ 1048576) : Calls Tryz.prog 8 #[v] w fun e w' => e = .returned (sv (fmtP p)) ∧ Below w.heap.size w w' := by
  obtain ⟨cs, rfl, hr⟩ := h
  unfold Pg.d at hr
  cases hr with
  | ss hS hs _ _ r =>
    obtain ⟨A, c, rfl, hrd, hc1, hm1, _, hA⟩ := hS.read_
    obtain ⟨Bb, cb, rr, rows, rfl, hk, hl, hn⟩ := (own_plnD r).sl_
    obtain rfl := hn.nil_
    rw [dl_len] at *
    exact iformatP p w A c Bb cb hrd hA hc1 (by unfold maxLen at hm1; unfold maxI; omega) hs (la_row hk hl) hc hx hp
theorem snormP_any (S : List UInt8) (hS : S.length ≤ 9223372036854775807) (w : World) : Calls Tryz.prog 19 #[.string ⟨S.toArray⟩] w fun e w' => e = .returned (.tuple #[sv (normPV S).1, .bool (normPV S).2]) ∧ Below w.heap.size w w' := by
  have hp := sprog_in S hS w
  unfold SProgIn at hp
  rcases prog_off S with ⟨p, hR, hok, _, hc, hx⟩ | ⟨a, hR, h0, _⟩
  · rw [progV_ok hR] at hp
    replace hp := hid hp
    rw [normP_ok hR]
    have hf := hid (fun v w hv => sformatP_any p v w hv (by omega) (by omega))
    generalize fmtP p = F at *
    dsimp only
    go_enter Tryz.func19, Tryz.ntmps19
    go_wp2_with fail
    refine hp.out.mono ?_
    rintro e w1 ⟨VA, vl, vc, A, l, cc, rfl, ⟨o1, -⟩, hb⟩
    have b2 := box_below w1 (.cells #[.slice VA vl vc, .slice A l cc] PI)
    have B2 := hid (hb.trans (b2.mono hb.size))
    have bx := Blk.new w1 PI [.slice VA vl vc, .slice A l cc]
    obtain ⟨q0, q1⟩ := two bx
    replace hf := hid (hf.out _ _ (o1.go b2))
    clear o1 hb b2 hp bx
    go_wp2_with fail
    generalize (w1.alloc (.cells #[.slice VA vl vc, .slice A l cc] PI)) = w2 at *
    refine hf.out.mono ?_
    rintro e w3 ⟨rfl, hb⟩
    have B3 := hid (B2.out.trans (hb.mono B2.out.size))
    clear hb hf
    go_wp2_with fail
    go_ret2
    exact ⟨rfl, B3.out⟩
  · rw [progV_err hR] at hp
    replace hp := hid hp
    rw [normP_err hR]
    have t1 : decide (0 ≤ a) = true := decide_eq_true h0
    dsimp only
    go_enter Tryz.func19, Tryz.ntmps19
    go_wp2_with fail
    refine hp.out.mono ?_
    rintro e w1 ⟨VA, vl, vc, A, l, cc, rfl, ⟨o1, -⟩, hb⟩
    have b2 := box_below w1 (.cells #[.slice VA vl vc, .slice A l cc] PI)
    have B2 := hid (hb.trans (b2.mono hb.size))
    clear o1 hb b2 hp
    go_wp2_with fail
    go_ret2
    exact ⟨rfl, B2.out⟩
theorem inormPz_any (S : List UInt8) (hS : S.length ≤ 9223372036854775807) (w : World) (hnv : NotV w) (hh : As.Handle w) (hpw : L1b.Pow w) : Calls Tryz.prog 34 #[.string ⟨S.toArray⟩, .func (Fn.func 12) #[] #[], .func (Fn.func 8) #[] #[]] w fun e w' => e = .returned (.tuple #[sv (normPV S).1, .bool (normPV S).2]) ∧ Below w.heap.size w w' := by
  have hp := iprog_any S hS w hnv hh
  unfold ProgOk at hp
  have hpw := hid (fun w' (h : Below w.heap.size w w') => hpw.below h)
  rcases prog_off S with ⟨p, hR, hok, _, hc, hx⟩ | ⟨a, hR, h0, _⟩
  · rw [progV_ok hR] at hp
    replace hp := hid hp
    rw [normP_ok hR]
    have hf := hid (fun lo hi v w hp (hv : OwnP lo hi w v p) => iformatP_cnt w hp hv (by omega) (by omega))
    generalize fmtP p = F at *
    dsimp only
    go_enter Tryz.func34, Tryz.ntmps34
    go_wp2_with fail
    refine hp.out.mono ?_
    rintro e w1 ⟨VA, vl, vc, A, l, cc, rfl, o1, hb⟩
    have b2 := box_below w1 (.cells #[.slice VA vl vc, .slice A l cc] PI)
    have B2 := hid (hb.trans (b2.mono hb.size))
    have bx := Blk.new w1 PI [.slice VA vl vc, .slice A l cc]
    obtain ⟨q0, q1⟩ := two bx
    replace hf := hid (hf.out _ _ _ _ (hpw.out _ B2.out) (o1.same (same_below b2 (Nat.le_refl _))))
    clear o1 hb b2 hp bx hpw
    go_wp2_with fail
    generalize (w1.alloc (.cells #[.slice VA vl vc, .slice A l cc] PI)) = w2 at *
    refine hf.out.mono ?_
    rintro e w3 ⟨rfl, hb⟩
    have B3 := hid (B2.out.trans (hb.mono B2.out.size))
    clear hb hf
    go_wp2_with fail
    go_ret2
    exact ⟨rfl, B3.out⟩
  · rw [progV_err hR] at hp
    replace hp := hid hp
    rw [normP_err hR]
    have t1 : decide (0 ≤ a) = true := decide_eq_true h0
    dsimp only
    go_enter Tryz.func34, Tryz.ntmps34
    go_wp2_with fail
    refine hp.out.mono ?_
    rintro e w1 ⟨VA, vl, vc, A, l, cc, rfl, o1, hb⟩
    have b2 := box_below w1 (.cells #[.slice VA vl vc, .slice A l cc] PI)
    have B2 := hid (hb.trans (b2.mono hb.size))
    clear o1 hb b2 hp hpw
    go_wp2_with fail
    go_ret2
    exact ⟨rfl, B2.out⟩
theorem inormP_any (S : List UInt8) (hS : S.length ≤ 9223372036854775807) (w : World) (hnv : NotV w) (hh : As.Handle w) (hpw : L1b.Pow w) : Calls Tryz.prog 14 #[.string ⟨S.toArray⟩] w fun e w' => e = .returned (.tuple #[sv (normPV S).1, .bool (normPV S).2]) ∧ Below w.heap.size w w' := by
  have hc := hid (inormPz_any S hS w hnv hh hpw)
  generalize normPV S = v at *
  go_enter Tryz.func14, Tryz.ntmps14
  go_wp2_with fail
  refine hc.out.mono ?_
  rintro e w1 ⟨rfl, hb⟩
  replace hb := hid hb
  go_wp2_with fail
  go_ret2
  exact ⟨rfl, hb.out⟩
end Go.Proofs.YtiogceepjffmkaaGreatDoor.Gp
set_option maxRecDepth 100000
namespace Go.Proofs.YtiogceepjffmkaaGreatDoor.WExactNormalizeProgram
open Go.RowKit Go.Lib Go.Sort Com Mem YtiogceepjffmkaaGreatDoor.Os Ow Tr Tk Gd Gp
theorem walk (w : World) (hnv : NotV w) (hh : As.Handle w) (hpw : L1b.Pow w) (S : List UInt8) (hS : S.length ≤ 9223372036854775807) :
    Calls Tryz.prog 5 #[.string ⟨S.toArray⟩] w fun e w' => e = .returned (.bool true) ∧ Below w.heap.size w w' := by
  by_cases hbig : 1048576 < S.length
  · have t1 : decide (1048576 < (S.length : Int)) = true := decide_eq_true (by omega)
    go_enter Tryz.func5, Tryz.ntmps5
    go_wp2_with fail
    go_ret
    exact ⟨rfl, Below.refl _ _⟩
  have t1 : decide (1048576 < (S.length : Int)) = false := decide_eq_false (by omega)
  have hN := hid (fun w1 (h : Below w.heap.size w w1) => inormP_any S hS w1 (hnv.below h) (hand_below hh h) (hpw.below h))
  have hM := hid (fun w' => snormP_any S hS w')
  clear hnv hh hpw
  generalize normPV S = nv at *
  obtain ⟨F, q⟩ := nv
  dsimp only at hN hM
  have cmp : (F != F) = false := bne_self_eq_false _
  have cmp2 : (q != q) = false := bne_self_eq_false _
  go_enter Tryz.func5, Tryz.ntmps5
  go_wp2_with fail
  refine (hM.out w).mono ?_
  rintro e w2 ⟨rfl, hb⟩
  have B2 := hid hb
  clear hb hM
  go_wp2_with fail
  refine (hN.out w2 B2.out).mono ?_
  rintro e w3 ⟨rfl, hb⟩
  have B3 := hid (B2.out.trans (hb.mono B2.out.size))
  clear hb hN
  go_wp2_with fail
  go_ret
  exact ⟨rfl, B3.out⟩
end Go.Proofs.YtiogceepjffmkaaGreatDoor.WExactNormalizeProgram
