/- errors.As at the program's own type of syntax errors: an error of that type is found; another one of errors.New's make is not. -/
import Derived.LaidEql
import Derived.Stop.Asserts
import Derived.RowKitTokens
import Derived.Test.YtiogceepjffmkaaGreatDoorZP6a
import Derived.Test.YtiogceepjffmkaaGreatDoorZC5i
set_option maxHeartbeats 4000000
set_option maxRecDepth 100000
namespace Go.Proofs.YtiogceepjffmkaaGreatDoor.As
open Go.RowKit Go.Extern.Stop Go.Stop Go.Extern
abbrev HB : Nat := 6
abbrev SE : TypeId := 174
abbrev PSE : TypeId := 176
abbrev ERR : TypeId := 93
abbrev RT : TypeId := 250
abbrev VT : TypeId := 217
abbrev PES : TypeId := 333
theorem valueOfP (t : Addr) (w : World) : (ReflectliteValue.unpack (.iface PSE (.pointer (some t)))).run Tryz.prog w
    = .ok (.agg #[.pointer (some ⟨HB, PSE, none⟩), .pointer (some ⟨w.heap.size, 0, none⟩), .int .u64 150]) (w.alloc (.cells #[.pointer (some t)] PSE)) := by kernel_rfl
theorem typeP (a : Addr) (w : World) : (ReflectliteValue.methodAny (ReflectliteValue.valueError "reflectlite.Value.Type" 0) (fun t _ _ _ => ReflectliteType.toType t) #[.agg #[.pointer (some ⟨HB, PSE, none⟩), .pointer (some a), .int .u64 150]]).run Tryz.prog w
    = .ok (.iface RT (.agg #[.pointer (some ⟨HB, PSE, none⟩)])) w := by kernel_rfl
theorem methodKind (h : Value) (w : World) : (Go.method 462 RT (.agg #[h]) "Kind").run Tryz.prog w = .ok (292, h) w := by kernel_rfl
theorem kindP (w : World) : ((ReflectliteType.abiMethod fun t => (fun a : Nat => Value.int IntKind.u8 (a : Int)) <$> Rtype.kind t) #[.pointer (some ⟨HB, PSE, none⟩)]).run Tryz.prog w = .ok (.int .u8 22) w := by kernel_rfl
theorem kindS (w : World) : ((ReflectliteType.abiMethod fun t => (fun a : Nat => Value.int IntKind.u8 (a : Int)) <$> Rtype.kind t) #[.pointer (some ⟨HB, SE, none⟩)]).run Tryz.prog w = .ok (.int .u8 25) w := by kernel_rfl
theorem rlm (z : Sem Value) (f : TypeId → Addr → Nat → Nat → Sem Value) (v : Value) :
    ReflectliteValue.method z f #[v] = (do match ← ReflectliteValue.parts v with | none => z | some (t, a, fl) => f t a fl (fl % 32)) := rfl
theorem partsP (a : Addr) (w : World) : (ReflectliteValue.parts (.agg #[.pointer (some ⟨HB, PSE, none⟩), .pointer (some a), .int .u64 150])).run Tryz.prog w = .ok (some (PSE, a, 150)) w := by kernel_rfl
theorem isNilP (a p : Addr) (W : World) (ha : W.cell? a = some (.pointer (some p))) :
    (ReflectliteValue.method (ReflectliteValue.valueError "reflectlite.Value.IsNil" 0) ReflectliteValue.isNil #[.agg #[.pointer (some ⟨HB, PSE, none⟩), .pointer (some a), .int .u64 150]]).run Tryz.prog W = .ok (.bool false) W := by
  rw [rlm]
  simp only [Sem.run_bind, partsP, Result.andThen]
  simp [ReflectliteValue.isNil, loadVar, isAgg, underlying, Tryz.underlying176, ha, Result.andThen]
theorem methodElem (h : Value) (w : World) : (Go.method 462 RT (.agg #[h]) "Elem").run Tryz.prog w = .ok (304, .agg #[h]) w := by kernel_rfl
theorem methodImplements (h : Value) (w : World) : (Go.method 462 RT (.agg #[h]) "Implements").run Tryz.prog w = .ok (305, .agg #[h]) w := by kernel_rfl
theorem methodAssignableTo (h : Value) (w : World) : (Go.method 462 RT (.agg #[h]) "AssignableTo").run Tryz.prog w = .ok (302, .agg #[h]) w := by kernel_rfl
theorem elemP (w : World) : (ReflectliteType.method ReflectliteType.elem #[.agg #[.pointer (some ⟨HB, PSE, none⟩)]]).run Tryz.prog w = .ok (.iface RT (.agg #[.pointer (some ⟨HB, SE, none⟩)])) w := by kernel_rfl
theorem implementsS (w : World) : (ReflectliteType.relation "Implements" ReflectliteType.implements_ #[.agg #[.pointer (some ⟨HB, SE, none⟩)], .iface RT (.agg #[.pointer (some ⟨HB, ERR, none⟩)])]).run Tryz.prog w = .ok (.bool true) w := by kernel_rfl
theorem typeOfS (v : Value) (w : World) : (ReflectliteType.typeOf #[.iface SE v]).run Tryz.prog w = .ok (.iface RT (.agg #[.pointer (some ⟨HB, SE, none⟩)])) w := by kernel_rfl
theorem typeOfE (v : Value) (w : World) : (ReflectliteType.typeOf #[.iface PES v]).run Tryz.prog w = .ok (.iface RT (.agg #[.pointer (some ⟨HB, PES, none⟩)])) w := by kernel_rfl
theorem assignableS (w : World) : (ReflectliteType.relation "AssignableTo" ReflectliteType.assignableTo #[.agg #[.pointer (some ⟨HB, SE, none⟩)], .iface RT (.agg #[.pointer (some ⟨HB, SE, none⟩)])]).run Tryz.prog w = .ok (.bool true) w := by kernel_rfl
theorem assignableE (w : World) : (ReflectliteType.relation "AssignableTo" ReflectliteType.assignableTo #[.agg #[.pointer (some ⟨HB, PES, none⟩)], .iface RT (.agg #[.pointer (some ⟨HB, SE, none⟩)])]).run Tryz.prog w = .ok (.bool false) w := by kernel_rfl
theorem valueOfS (a : Int) (w : World) : (ReflectliteValue.unpack (.iface SE (.agg #[.int .i64 a]))).run Tryz.prog w
    = .ok (.agg #[.pointer (some ⟨HB, SE, none⟩), .pointer (some ⟨w.heap.size, 0, none⟩), .int .u64 153]) (w.alloc (.cells #[.int .i64 a] SE)) := by kernel_rfl
theorem elemOfP (w : World) : (Rtype.elem? PSE).run Tryz.prog w = .ok (some SE) w := by kernel_rfl
theorem mkS (p : Addr) (w : World) : (ReflectliteValue.mk SE p ReflectliteValue.flagAddr).run Tryz.prog w = .ok (.agg #[.pointer (some ⟨HB, SE, none⟩), .pointer (some p), .int .u64 409]) w := by kernel_rfl
theorem elemVP (a p : Addr) (W : World) (ha : W.cell? a = some (.pointer (some p))) :
    (ReflectliteValue.method (ReflectliteValue.valueError "reflectlite.Value.Elem" 0) ReflectliteValue.elem #[.agg #[.pointer (some ⟨HB, PSE, none⟩), .pointer (some a), .int .u64 150]]).run Tryz.prog W
      = .ok (.agg #[.pointer (some ⟨HB, SE, none⟩), .pointer (some p), .int .u64 409]) W := by
  rw [rlm]
  simp only [Sem.run_bind, partsP, Result.andThen]
  simp [ReflectliteValue.elem, loadVar, isAgg, underlying, Tryz.underlying176, ha, Result.andThen, elemOfP, mkS]
theorem rls (v x : Value) : ReflectliteValue.set #[v, x] = (do
    let (some (dst, a, fl), some (src, b, _)) := (← ReflectliteValue.parts v, ← ReflectliteValue.parts x)
      | unsupported (.noEntry "extern/(internal/reflectlite.Value).Set.zeroValue")
    if fl / ReflectliteValue.flagAddr % 2 == 0 then unsupported (.noEntry "extern/(internal/reflectlite.Value).Set.unaddressable")
    let val ← loadVar src b
    if ← Rtype.directlyAssignable dst src then storeVar dst a val
    else if ← Rtype.implements dst src then
      if (← Rtype.kind src) == 20 then
        match val with
        | .nilIface => unsupported (.noEntry "extern/reflectlite: a nil value of one interface type handed on as a value of another")
        | _ => storeVar dst a val
      else storeVar dst a (.iface src val)
    else panicString ("reflectlite.Set: value of type " ++ (← Rtype.spelt src) ++ " is not assignable to type " ++ (← Rtype.spelt dst))
    pure (.tuple #[])) := rfl
theorem partsSa (a : Addr) (w : World) : (ReflectliteValue.parts (.agg #[.pointer (some ⟨HB, SE, none⟩), .pointer (some a), .int .u64 409])).run Tryz.prog w = .ok (some (SE, a, 409)) w := by kernel_rfl
theorem partsS (a : Addr) (w : World) : (ReflectliteValue.parts (.agg #[.pointer (some ⟨HB, SE, none⟩), .pointer (some a), .int .u64 153])).run Tryz.prog w = .ok (some (SE, a, 153)) w := by kernel_rfl
theorem directS (w : World) : (Rtype.directlyAssignable SE SE).run Tryz.prog w = .ok true w := by kernel_rfl
theorem setS (g h : Nat) (a : Int) (old : Value) (W : World) (hb : W.heap[h]? = some (.cells #[.int .i64 a] SE (0, 0))) (ht : W.cell? ⟨g, 0, none⟩ = some old) (hf : W.frozen? ⟨g, 0, none⟩ = false) :
    (ReflectliteValue.set #[.agg #[.pointer (some ⟨HB, SE, none⟩), .pointer (some ⟨g, 0, none⟩), .int .u64 409], .agg #[.pointer (some ⟨HB, SE, none⟩), .pointer (some ⟨h, 0, none⟩), .int .u64 153]]).run Tryz.prog W
      = .ok (.tuple #[]) (W.setCell ⟨g, 0, none⟩ (.int .i64 a)) := by
  have hld := run_loadVar_row (P := Tryz.prog) W h SE SE #[.int .i64 a] (0, 0) _ hb Tryz.underlying174 rfl (by kernel_rfl)
  rw [rls]
  simp only [Sem.run_bind, partsSa, partsS, Result.andThen]
  simp [ReflectliteValue.flagAddr, hld, Result.andThen, directS, storeVar, Value.cells, storeCells, Addr.add]
  rw [run_store Tryz.prog W ⟨g, 0, none⟩ _ _ (by rfl)]
  simp [ht, hf]
open Go.Lib Com Mem
def Handle (w : World) : Prop := w.cell? ⟨1, 0, none⟩ = some (.iface RT (.agg #[.pointer (some ⟨HB, ERR, none⟩)]))
theorem Handle.lt {w : World} (h : Handle w) : 1 < w.heap.size := by
  unfold Handle at h
  rcases Nat.lt_or_ge 1 w.heap.size with h1 | h1
  · exact h1
  · simp [World.cell?, Array.getElem?_eq_none h1] at h
theorem Handle.below {w w' : World} {B : Nat} (h : Handle w) (hb : Below B w w') (hB : 1 < B) : Handle w' := (hb.cell hB).trans h
theorem as_hit (a : Int) (g : Nat) (w : World) (hg : Handle w) (hB : Blk w g SE [.int .i64 0]) :
    Calls Tryz.prog 111 #[.iface SE (.agg #[.int .i64 a]), .iface PSE (.pointer (some ⟨g, 0, none⟩))] w fun ev w' => ev = .returned (.bool true) ∧ w' = ((((w.alloc (.cells #[.pointer (some ⟨g, 0, none⟩)] PSE)).alloc (.cells #[.pointer (some ⟨HB, PSE, none⟩), .pointer (some ⟨w.heap.size, 0, none⟩), .int .u64 150] VT)).alloc (.cells #[.pointer (some ⟨HB, PSE, none⟩), .pointer (some ⟨w.heap.size, 0, none⟩), .int .u64 150] VT)).alloc (.cells #[.int .i64 a] SE)).setCell ⟨g, 0, none⟩ (.int .i64 a) := by
  have h6 := @run_callFunc_extern Tryz.prog 146 _ (fun args => ReflectliteValue.unpack (args.getD 0 (.tuple #[]))) Tryz.func146 (by kernel_rfl) (by kernel_rfl) (by kernel_rfl) (by kernel_rfl)
  have h7 := @run_callFunc_extern Tryz.prog 147 _ (ReflectliteValue.methodAny (ReflectliteValue.valueError "reflectlite.Value.Type" 0) (fun t _ _ _ => ReflectliteType.toType t)) Tryz.func147 (by kernel_rfl) (by kernel_rfl) (by kernel_rfl) (by kernel_rfl)
  have h8 := @run_callFunc_extern Tryz.prog 148 _ (ReflectliteValue.method (ReflectliteValue.valueError "reflectlite.Value.IsNil" 0) ReflectliteValue.isNil) Tryz.func148 (by kernel_rfl) (by kernel_rfl) (by kernel_rfl) (by kernel_rfl)
  have h27 := @run_callFunc_extern Tryz.prog 292 _ (ReflectliteType.abiMethod fun t => do pure (.int .u8 (← Rtype.kind t))) Tryz.func292 (by kernel_rfl) (by kernel_rfl) (by kernel_rfl) (by kernel_rfl)
  have h37 := @run_callFunc_extern Tryz.prog 304 _ (ReflectliteType.method ReflectliteType.elem) Tryz.func304 (by kernel_rfl) (by kernel_rfl) (by kernel_rfl) (by kernel_rfl)
  have h38 := @run_callFunc_extern Tryz.prog 305 _ (ReflectliteType.relation "Implements" ReflectliteType.implements_) Tryz.func305 (by kernel_rfl) (by kernel_rfl) (by kernel_rfl) (by kernel_rfl)
  have h10 := @run_callFunc_extern Tryz.prog 183 _ ReflectliteType.typeOf Tryz.func183 (by kernel_rfl) (by kernel_rfl) (by kernel_rfl) (by kernel_rfl)
  have h35 := @run_callFunc_extern Tryz.prog 302 _ (ReflectliteType.relation "AssignableTo" ReflectliteType.assignableTo) Tryz.func302 (by kernel_rfl) (by kernel_rfl) (by kernel_rfl) (by kernel_rfl)
  have h11 := @run_callFunc_extern Tryz.prog 184 _ (ReflectliteValue.method (ReflectliteValue.valueError "reflectlite.Value.Elem" 0) ReflectliteValue.elem) Tryz.func184 (by kernel_rfl) (by kernel_rfl) (by kernel_rfl) (by kernel_rfl)
  have h12 := @run_callFunc_extern Tryz.prog 185 _ ReflectliteValue.set Tryz.func185 (by kernel_rfl) (by kernel_rfl) (by kernel_rfl) (by kernel_rfl)
  have tO := typeOfS
  have mA := methodAssignableTo
  have a25 := assignableS
  have v25 := valueOfS
  have f6 := valueOfP
  have f7 := typeP
  have mK := methodKind
  have mE := methodElem
  have mI := methodImplements
  have k27 := kindP
  have k25 := kindS
  have e27 := elemP
  have i25 := implementsS
  have hlt := hg.lt
  have htl := hB.lt
  have n8 := isNilP ⟨w.heap.size, 0, none⟩ ⟨g, 0, none⟩ ((w.alloc (.cells #[.pointer (some ⟨g, 0, none⟩)] PSE)).alloc (.cells #[.pointer (some ⟨HB, PSE, none⟩), .pointer (some ⟨w.heap.size, 0, none⟩), .int .u64 150] VT)) (by simp)
  have hg2 : ((w.alloc (.cells #[.pointer (some ⟨g, 0, none⟩)] PSE)).alloc (.cells #[.pointer (some ⟨HB, PSE, none⟩), .pointer (some ⟨w.heap.size, 0, none⟩), .int .u64 150] VT)).cell? ⟨1, 0, none⟩ = some (.iface RT (.agg #[.pointer (some ⟨HB, ERR, none⟩)])) := by
    rw [World.cell?_alloc_lt _ _ ⟨1, 0, none⟩ (by simp; omega), World.cell?_alloc_lt _ _ ⟨1, 0, none⟩ hlt]; exact hg
  have el := elemVP ⟨w.heap.size, 0, none⟩ ⟨g, 0, none⟩ (((w.alloc (.cells #[.pointer (some ⟨g, 0, none⟩)] PSE)).alloc (.cells #[.pointer (some ⟨HB, PSE, none⟩), .pointer (some ⟨w.heap.size, 0, none⟩), .int .u64 150] VT)).alloc (.cells #[.pointer (some ⟨HB, PSE, none⟩), .pointer (some ⟨w.heap.size, 0, none⟩), .int .u64 150] VT)) (by rw [World.cell?_alloc_lt _ _ ⟨w.heap.size, 0, none⟩ (by simp; omega)]; simp)
  have hB4 := (((hB.alloc (.cells #[.pointer (some ⟨g, 0, none⟩)] PSE)).alloc (.cells #[.pointer (some ⟨HB, PSE, none⟩), .pointer (some ⟨w.heap.size, 0, none⟩), .int .u64 150] VT)).alloc (.cells #[.pointer (some ⟨HB, PSE, none⟩), .pointer (some ⟨w.heap.size, 0, none⟩), .int .u64 150] VT)).alloc (.cells #[.int .i64 a] SE)
  have hN4 := Blk.new (((w.alloc (.cells #[.pointer (some ⟨g, 0, none⟩)] PSE)).alloc (.cells #[.pointer (some ⟨HB, PSE, none⟩), .pointer (some ⟨w.heap.size, 0, none⟩), .int .u64 150] VT)).alloc (.cells #[.pointer (some ⟨HB, PSE, none⟩), .pointer (some ⟨w.heap.size, 0, none⟩), .int .u64 150] VT)) SE [.int .i64 a]
  rw [size_alloc', size_alloc', size_alloc'] at hN4
  have st := setS g (w.heap.size + 1 + 1 + 1) a (.int .i64 0) _ hN4 (hB4.cell 0) (hB4.frozen 0)
  clear hB hB4 hN4 hg
  go_enter Tryz.func111, Tryz.ntmps111
  go_wp2
  refine wp_loop_rounds 1 ?_
  rw [rounds_succ]
  go_wp2
  go_ret
  exact ⟨rfl, rfl⟩
theorem noAs (v : Value) (xT : TypeId) (w : World) : (Instr.typeAssert (.iface PES v) xT 255 true).run Tryz.prog w = .ok (.tuple #[.nilIface, .bool false]) w := run_typeAssert_lacksB Tryz.underlying255 (by kernel_rfl) (by kernel_rfl) v xT w
theorem noUn (v : Value) (xT : TypeId) (w : World) : (Instr.typeAssert (.iface PES v) xT 258 true).run Tryz.prog w = .ok (.tuple #[.nilIface, .bool false]) w := run_typeAssert_lacksB Tryz.underlying258 (by kernel_rfl) (by kernel_rfl) v xT w
theorem noUns (v : Value) (xT : TypeId) (w : World) : (Instr.typeAssert (.iface PES v) xT 259 true).run Tryz.prog w = .ok (.tuple #[.nilIface, .bool false]) w := run_typeAssert_lacksB Tryz.underlying259 (by kernel_rfl) (by kernel_rfl) v xT w
theorem as_miss (p : Option Addr) (g : Nat) (w : World) (hg : Handle w) (hB : Blk w g SE [.int .i64 0]) :
    Calls Tryz.prog 111 #[.iface PES (.pointer p), .iface PSE (.pointer (some ⟨g, 0, none⟩))] w fun ev w' => ev = .returned (.bool false) ∧ w' = (((w.alloc (.cells #[.pointer (some ⟨g, 0, none⟩)] PSE)).alloc (.cells #[.pointer (some ⟨HB, PSE, none⟩), .pointer (some ⟨w.heap.size, 0, none⟩), .int .u64 150] VT)).alloc (.cells #[.pointer (some ⟨HB, PSE, none⟩), .pointer (some ⟨w.heap.size, 0, none⟩), .int .u64 150] VT)) := by
  have h6 := @run_callFunc_extern Tryz.prog 146 _ (fun args => ReflectliteValue.unpack (args.getD 0 (.tuple #[]))) Tryz.func146 (by kernel_rfl) (by kernel_rfl) (by kernel_rfl) (by kernel_rfl)
  have h7 := @run_callFunc_extern Tryz.prog 147 _ (ReflectliteValue.methodAny (ReflectliteValue.valueError "reflectlite.Value.Type" 0) (fun t _ _ _ => ReflectliteType.toType t)) Tryz.func147 (by kernel_rfl) (by kernel_rfl) (by kernel_rfl) (by kernel_rfl)
  have h8 := @run_callFunc_extern Tryz.prog 148 _ (ReflectliteValue.method (ReflectliteValue.valueError "reflectlite.Value.IsNil" 0) ReflectliteValue.isNil) Tryz.func148 (by kernel_rfl) (by kernel_rfl) (by kernel_rfl) (by kernel_rfl)
  have h27 := @run_callFunc_extern Tryz.prog 292 _ (ReflectliteType.abiMethod fun t => do pure (.int .u8 (← Rtype.kind t))) Tryz.func292 (by kernel_rfl) (by kernel_rfl) (by kernel_rfl) (by kernel_rfl)
  have h37 := @run_callFunc_extern Tryz.prog 304 _ (ReflectliteType.method ReflectliteType.elem) Tryz.func304 (by kernel_rfl) (by kernel_rfl) (by kernel_rfl) (by kernel_rfl)
  have h38 := @run_callFunc_extern Tryz.prog 305 _ (ReflectliteType.relation "Implements" ReflectliteType.implements_) Tryz.func305 (by kernel_rfl) (by kernel_rfl) (by kernel_rfl) (by kernel_rfl)
  have h10 := @run_callFunc_extern Tryz.prog 183 _ ReflectliteType.typeOf Tryz.func183 (by kernel_rfl) (by kernel_rfl) (by kernel_rfl) (by kernel_rfl)
  have h35 := @run_callFunc_extern Tryz.prog 302 _ (ReflectliteType.relation "AssignableTo" ReflectliteType.assignableTo) Tryz.func302 (by kernel_rfl) (by kernel_rfl) (by kernel_rfl) (by kernel_rfl)
  have tO := typeOfE
  have mA := methodAssignableTo
  have a25 := assignableE
  have x1 := noAs
  have x2 := noUn
  have x3 := noUns
  have f6 := valueOfP
  have f7 := typeP
  have mK := methodKind
  have mE := methodElem
  have mI := methodImplements
  have k27 := kindP
  have k25 := kindS
  have e27 := elemP
  have i25 := implementsS
  have hlt := hg.lt
  have htl := hB.lt
  have n8 := isNilP ⟨w.heap.size, 0, none⟩ ⟨g, 0, none⟩ ((w.alloc (.cells #[.pointer (some ⟨g, 0, none⟩)] PSE)).alloc (.cells #[.pointer (some ⟨HB, PSE, none⟩), .pointer (some ⟨w.heap.size, 0, none⟩), .int .u64 150] VT)) (by simp)
  have hg2 : ((w.alloc (.cells #[.pointer (some ⟨g, 0, none⟩)] PSE)).alloc (.cells #[.pointer (some ⟨HB, PSE, none⟩), .pointer (some ⟨w.heap.size, 0, none⟩), .int .u64 150] VT)).cell? ⟨1, 0, none⟩ = some (.iface RT (.agg #[.pointer (some ⟨HB, ERR, none⟩)])) := by
    rw [World.cell?_alloc_lt _ _ ⟨1, 0, none⟩ (by simp; omega), World.cell?_alloc_lt _ _ ⟨1, 0, none⟩ hlt]; exact hg
  clear hB hg
  go_enter Tryz.func111, Tryz.ntmps111
  go_wp2
  refine wp_loop_rounds 1 ?_
  rw [rounds_succ]
  go_wp2
  go_ret
  exact ⟨rfl, rfl⟩
end Go.Proofs.YtiogceepjffmkaaGreatDoor.As
set_option maxRecDepth 100000
namespace Go.Proofs.YtiogceepjffmkaaGreatDoor.Tk
open Go.RowKit Go.Lib Go.Sort Num Com Mem YtiogceepjffmkaaGreatDoor.Os Tr
theorem rd_self {w : World} {B b : Nat} {xs : List Value} (h : Rd w B (some ⟨b, 0, none⟩) xs) : Rd w (b + 1) (some ⟨b, 0, none⟩) xs := fun hn => by
  obtain ⟨ad, e, _, hc⟩ := h hn
  cases e
  exact ⟨_, rfl, Nat.lt_succ_self b, hc⟩
def NewOk (S : List UInt8) (w : World) (e : Ending) (w' : World) : Prop := Below w.heap.size w w' ∧
  if (tokz S).2 = -1 then ∃ g b c, e = .returned (.tuple #[.pointer (some ⟨g, 0, none⟩), .nilIface]) ∧ Prs w' g b c (uz (tokz S).1 (S.length : Nat)) 0 ∧ w.heap.size ≤ g ∧ w.heap.size ≤ b
  else e = .returned (.tuple #[.pointer none, errV (tokz S).2])
theorem newp_any (S : List UInt8) (hS : S.length ≤ 9223372036854775807) (w : World) : Calls Tryz.prog 109 #[.string ⟨S.toArray⟩] w (NewOk S w) := by
  have ht := itokz S hS w
  unfold TokOk at ht
  have hbad := hid (tokz_bad (S := S))
  have hsm := hid (tokz_le (S := S))
  have h150 := tokz_len S
  unfold NewOk
  generalize hT : tokz S = T at *
  obtain ⟨L, bad⟩ := T
  dsimp only at ht hbad hsm h150 ⊢
  have ht := hid ht
  by_cases hneg : bad = -1
  · subst hneg
    have hS4 := hsm.out rfl
    simp only [if_pos]
    clear hbad hsm hT
    go_enter Tryz.func109, Tryz.ntmps109
    go_wp2_with fail
    refine ht.out.mono ?_
    rintro e w2 ⟨r, rfl, ho, hb⟩
    have hrow := hid ho.row
    have hb := hid hb
    have hsz := hb.out.size
    clear ho ht
    go_wp2_with (at_builtin; refine app_tok hrow.out hsz ⟨0, 0, (S.length : Nat), []⟩ (by omega) rfl _ _ rfl rfl _ rfl rfl ?_; intro v5 w5 hr5 hg5; obtain ⟨g5, c5, rfl, hge, -⟩ := row_last hr5; have hb5 := hid (below_row hb.out hrow.out hg5 hsz); replace hr5 := hid hr5; clear hg5)
    go_ret2
    have hO : OwnT w.heap.size w5.heap.size w5 (.slice (some ⟨g5, 0, none⟩) (L.length + 1) c5) (uz L (S.length : Nat)) := OwnT.of_row hr5.out
    obtain ⟨A, c, e, hrd, hc, hm, -, -⟩ := hO.read
    rw [uz_len] at e
    injection e with e1 e2 e3
    subst e1 e3
    have hblk : Blk (w5.alloc (.cells #[.slice (some ⟨g5, 0, none⟩) (L.length + 1) c5] PT)) w5.heap.size PT [.slice (some ⟨g5, 0, none⟩) (L.length + 1) c5] := Blk.new w5 PT _
    have hg5 : g5 < w5.heap.size := by
      obtain ⟨ad, e, hlt, -⟩ := hrd (by intro h; have := congrArg List.length h; rw [cellsT_len, uz_len] at this; simp at this)
      cases e; exact hlt
    have hsz5 := hb5.out.size
    refine ⟨hb5.out.alloc hsz5 _, _, g5, c5, rfl, ⟨⟨L.length + 1, c5, by rw [Nat.zero_mul]; exact hblk, by rw [uz_len]; omega, by omega, by omega⟩, ⟨hc, hm⟩, (rd_self hrd).below ((box_below w5 _).mono (by omega)), by omega⟩, hsz5, hge⟩
  · obtain ⟨hL, h0⟩ := hbad.out hneg
    have t1 : decide (0 ≤ bad) = true := decide_eq_true h0
    simp only [if_neg hneg]
    clear hbad hsm hT hL
    go_enter Tryz.func109, Tryz.ntmps109
    go_wp2_with fail
    refine ht.out.mono ?_
    rintro e w2 ⟨r, rfl, ho, hb⟩
    clear ho
    have hb := hid hb
    go_wp2_with fail
    go_ret2
    exact ⟨hb.out, rfl⟩
def NotV (w : World) : Prop := ∃ p, w.cell? ⟨0, 0, none⟩ = some (.iface As.PES (.pointer p))
theorem NotV.lt {w : World} (h : NotV w) : 0 < w.heap.size := by
  obtain ⟨p, h⟩ := h
  rcases Nat.lt_or_ge 0 w.heap.size with h1 | h1
  · exact h1
  · simp [World.cell?, Array.getElem?_eq_none h1] at h
theorem NotV.below {w w' : World} (h : NotV w) (hb : Below w.heap.size w w') : NotV w' := by
  have hlt := h.lt
  obtain ⟨p, h⟩ := h
  exact ⟨p, (hb.cell hlt).trans h⟩
theorem hand_below {w w' : World} (h : As.Handle w) (hb : Below w.heap.size w w') : As.Handle w' := h.below hb h.lt
theorem off_hit (a : Int) (w : World) (hh : As.Handle w) : Calls Tryz.prog 70 #[errV a] w fun e w' => e = .returned (.int .i64 a) ∧ Below w.heap.size w w' := by
  have hB := Blk.new w As.SE [.int .i64 0]
  have hb1 : Below w.heap.size w (w.alloc (.cells #[.int .i64 0] As.SE)) := box_below _ _
  have hc := hid (As.as_hit a w.heap.size _ (hand_below hh hb1) hB)
  have hlt : w.heap.size < (w.alloc (.cells #[.int .i64 0] As.SE)).heap.size := hB.lt
  have hB := hid hB
  have hb1 := hid hb1
  go_enter Tryz.func70, Tryz.ntmps70
  go_wp2_with fail
  generalize (w.alloc (.cells #[.int .i64 0] As.SE)) = w1 at *
  refine hc.out.mono ?_
  rintro e w2 ⟨rfl, hw2⟩
  have b2 : Below w1.heap.size w1 ((((w1.alloc (.cells #[.pointer (some ⟨w.heap.size, 0, none⟩)] As.PSE)).alloc (.cells #[.pointer (some ⟨As.HB, As.PSE, none⟩), .pointer (some ⟨w1.heap.size, 0, none⟩), .int .u64 150] As.VT)).alloc (.cells #[.pointer (some ⟨As.HB, As.PSE, none⟩), .pointer (some ⟨w1.heap.size, 0, none⟩), .int .u64 150] As.VT)).alloc (.cells #[.int .i64 a] As.SE)) :=
    ((((Below.refl _ _).alloc (Nat.le_refl _) _).alloc (by rw [size_alloc']; omega) _).alloc (by rw [size_alloc', size_alloc']; omega) _).alloc (by rw [size_alloc', size_alloc', size_alloc']; omega) _
  have B2 := ((hB.out.below b2 hB.out.lt).set_ 0 (.int .i64 a)).cell 0
  rw [← hw2] at B2
  have b3 : Below w.heap.size w w2 := by
    rw [hw2]
    exact (hb1.out.trans (b2.mono hb1.out.size)).setCell (p := ⟨w.heap.size, 0, none⟩) (Nat.le_refl _) _
  have b3 := hid b3
  have B2 : w2.cell? ⟨w.heap.size, 0, none⟩ = some (.int .i64 a) := B2
  clear hw2 b2 hB hb1 hc hh
  go_wp2_with fail
  go_ret
  exact ⟨rfl, b3.out⟩
theorem off_miss (p : Option Addr) (w : World) (hh : As.Handle w) : Calls Tryz.prog 70 #[.iface As.PES (.pointer p)] w fun e w' => e = .returned (.int .i64 0) ∧ Below w.heap.size w w' := by
  have hB := Blk.new w As.SE [.int .i64 0]
  have hb1 : Below w.heap.size w (w.alloc (.cells #[.int .i64 0] As.SE)) := box_below _ _
  have hc := hid (As.as_miss p w.heap.size _ (hand_below hh hb1) hB)
  have hb1 := hid hb1
  clear hB
  go_enter Tryz.func70, Tryz.ntmps70
  go_wp2_with fail
  generalize (w.alloc (.cells #[.int .i64 0] As.SE)) = w1 at *
  refine hc.out.mono ?_
  rintro e w2 ⟨rfl, hw2⟩
  have b2 : Below w1.heap.size w1 (((w1.alloc (.cells #[.pointer (some ⟨w.heap.size, 0, none⟩)] As.PSE)).alloc (.cells #[.pointer (some ⟨As.HB, As.PSE, none⟩), .pointer (some ⟨w1.heap.size, 0, none⟩), .int .u64 150] As.VT)).alloc (.cells #[.pointer (some ⟨As.HB, As.PSE, none⟩), .pointer (some ⟨w1.heap.size, 0, none⟩), .int .u64 150] As.VT)) :=
    (((Below.refl _ _).alloc (Nat.le_refl _) _).alloc (by rw [size_alloc']; omega) _).alloc (by rw [size_alloc', size_alloc']; omega) _
  rw [← hw2] at b2
  have b3 := hid (hb1.out.trans (b2.mono hb1.out.size))
  clear hw2 b2 hb1 hc hh
  go_wp2_with fail
  go_ret
  exact ⟨rfl, b3.out⟩
theorem good_k {t : Tok} (h : GoodT t) : t.k ≠ 0 := by
  rcases h with ⟨h, _⟩ | ⟨h, _⟩ | ⟨h, _⟩ <;> rw [h] <;> decide
end Go.Proofs.YtiogceepjffmkaaGreatDoor.Tk
