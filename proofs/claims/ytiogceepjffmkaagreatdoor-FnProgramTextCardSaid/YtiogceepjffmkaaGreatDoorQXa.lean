/- The program's list of assigned variables, in the exact law's words. -/
import Derived.Test.YtiogceepjffmkaaGreatDoorQXi
set_option maxRecDepth 100000
namespace Go.Proofs.YtiogceepjffmkaaGreatDoor.Gd
open Go.RowKit Go.Lib Go.Sort Com Mem YtiogceepjffmkaaGreatDoor.Os Tr YtiogceepjffmkaaGreatDoor.Nm
open Ow Pl Gs
theorem PgOut.form {W : World} {lo : Nat} {v : Value} {V : List (List UInt8)} {L : List St} (h : PgOut W lo v V L) : ∃ (VA : Option Addr) (vc : Nat) (B : Option Addr) (bc : Nat), v = .agg #[.slice VA V.length vc, .slice B L.length bc] ∧ V.length ≤ vc ∧ L.length ≤ bc ∧ L.length ≤ maxI ∧ (∀ ad, VA = some ad → ad = ⟨ad.block, 0, none⟩) ∧
  (∀ w, Below W.heap.size W w → Rd w w.heap.size VA (V.map sv) ∧ (∃ rows, Row w w.heap.size 1 B (dl L) rows) ∧ LA (pln w) w.heap.size ⟨B, bc, L⟩) := by
 obtain ⟨VA, vc, B, bc, rows, e, h1, h2, h3, h4, h5, h6⟩ := h
 refine ⟨VA, vc, B, bc, e, h1, h4, h5, h3, fun w hb => ?_⟩
 have hc : Cry (ezb W lo) (pln w) W.heap.size := fun p v hp hv => by
  have := (ezb_cell hv).2
  exact (pln_below hb).cell hp ▸ this
 have hc' : Cry (ezb W lo) w W.heap.size := fun p v hp hv => (pln_cell (hc p v hp hv)).1
 exact ⟨rd_cry h2 hc' hb.size, ⟨rows, h6.cry hc' hb.size⟩, la_row (h6.cry hc hb.size) h5⟩
end Go.Proofs.YtiogceepjffmkaaGreatDoor.Gd
set_option maxRecDepth 100000
namespace Go.Proofs.YtiogceepjffmkaaGreatDoor.Ik
open Go.RowKit Mem Im
open Go.ChangeMaps (setBlock)
abbrev kv (p : Int × Value) : Value × Value := (.int .i64 p.1, p.2)
def KMap (w : World) (b : Nat) (l : List (Int × Value)) : Prop := IMap w b (l.map kv)
def kget (l : List (Int × Value)) (x : Int) : Option Value := (l.find? fun p => p.1 == x).map Prod.snd
section
variable {P : Program} {w w' : World} {b k e t : Nat} {l : List (Int × Value)} {x : Int}
theorem KMap.alloc (h : KMap w b l) (o : Obj) : KMap (w.alloc o) b l := IMap.alloc h o
theorem find_zip (x : Int) : ∀ (l : List (Int × Value)) (m i : Nat), ∃ r, Instr.findNow (.int .i64) (.int .i64 x) (((l.map kv).zipIdx m).map fun p => { key := p.1.1, val := p.1.2, born := p.2 }) i = some r ∧ r.map Prod.snd = kget l x
 | [], _, _ => ⟨none, rfl, rfl⟩
 | p :: l, m, i => by
  by_cases h : x = p.1
  ·refine ⟨some (i, p.2), ?_, ?_⟩
   ·simp [Instr.findNow, Instr.sameNow, h]
   ·simp [kget, h]
  ·obtain ⟨r, h1, h2⟩ := find_zip x l (m + 1) (i + 1)
   refine ⟨r, ?_, ?_⟩
   ·have hq : (x == p.1) = false := beq_false_of_ne h
    simp only [List.map_cons, List.zipIdx_cons, Instr.findNow, Instr.sameNow, hq, if_true]
    exact h1
   ·have h' : ¬ p.1 = x := fun e => h e.symm
    rw [h2]; simp [kget, h']
theorem find_at (hk : P.underlying k = some (.int .i64)) (w : World) : ∃ r, (Instr.findKey k (.int .i64 x) (ent (l.map kv))).run P w = .ok r w ∧ r.map Prod.snd = kget l x := by
 obtain ⟨r, h1, h2⟩ := find_zip x l 0 0
 exact ⟨r, MapKept.run_findKey hk h1, h2⟩
theorem check (hk : P.underlying k = some (.int .i64)) (em : Bool) (w : World) : (Instr.checkKey em 10000 k (.int .i64 x)).run P w = .ok () w :=
 MapKept.run_checkKey hk (by simp [MapKept.IsKey]) em 9999
theorem run_look (h : KMap w b l) (ht : P.underlying t = some (.map k e)) (hk : P.underlying k = some (.int .i64)) {z : Value} (hz : (zeroValue e).run P w = .ok z w) (ok : Bool) :
  (Instr.lookup t (.map (some b)) (.int .i64 x) ok).run P w = .ok (if ok then .tuple #[(kget l x).getD z, .bool (kget l x).isSome] else (kget l x).getD z) w := by
 obtain ⟨r, hf, hr⟩ := find_at (x := x) (l := l) hk w
 unfold Instr.lookup
 cases r with
 | none =>
  rw [← hr]
  simp [Sem.run_bind, run_underlying ht, MapKept.run_getObj_map h, check hk, hf, hz, Result.andThen]
 | some p =>
  rw [← hr]
  simp [Sem.run_bind, run_underlying ht, MapKept.run_getObj_map h, check hk, hf, Result.andThen]
theorem run_upd (h : KMap w b l) (ht : P.underlying t = some (.map k e)) (hk : P.underlying k = some (.int .i64)) (hn : kget l x = none) (v : Value) :
  ∃ w', (Instr.mapUpdate t (.map (some b)) (.int .i64 x) v).run P w = .ok () w' ∧ KMap w' b (l ++ [(x, v)]) ∧ w.grownBy w' (some b) ∧ w'.heap.size = w.heap.size := by
 obtain ⟨r, hf, hr⟩ := find_at (x := x) (l := l) hk w
 rw [hn] at hr
 cases r with
 | some p => cases hr
 | none =>
  refine ⟨setBlock w b (.map (ent (l.map kv ++ [(.int .i64 x, v)])).toArray ((l.map kv).length + 1)), ?_, ?_, ?_, by simp [setBlock]⟩
  ·unfold Instr.mapUpdate
   simp [Sem.run_bind, run_underlying ht, MapKept.run_getObj_map h, check hk, hf, Result.andThen, ent_snoc]
   simp [setObj, Sem.run, setBlock]
   unfold KMap IMap at h
   simp [h]
  ·have := (MapKept.heap_set (o' := .map (ent (l.map kv ++ [(.int .i64 x, v)])).toArray ((l.map kv).length + 1)) h).1
   unfold KMap IMap
   rw [show (setBlock w b (Obj.map (ent (l.map kv ++ [(.int .i64 x, v)])).toArray ((l.map kv).length + 1))).heap[b]? = _ from this]
   simp
  ·exact ⟨rfl, rfl, rfl, by simp [setBlock], fun i _ hi => (MapKept.heap_set h).2 i (fun e1 => hi (by rw [e1]))⟩
end
section
variable {P : Program} {ops : Array Oper} {rest : List Oper} {o : Oper} {a : Act} {Q : Exit → Act → World → Prop} {w : World} {k e t : Nat}
theorem wpList_put (hg : o.guard = none) (m x v : Operand) (hop : o.op = Op.insert t m x v ∨ o.op = Op.mapUpdate t m x v) (ht : P.underlying t = some (.map k e)) (hk : P.underlying k = some (.int .i64)) (b : Nat) (l : List (Int × Value)) (h : KMap w b l) (kx : Int) (vx : Value)
  (hm : a.eval m = .map (some b)) (hx : a.eval x = .int .i64 kx) (hv : a.eval v = vx) (hn : kget l kx = none) (hK : ∀ w', KMap w' b (l ++ [(kx, vx)]) → w.grownBy w' (some b) → w'.heap.size = w.heap.size → wpList P ops Q rest (a.put o.dst undef) w') : wpList P ops Q (o :: rest) a w := by
 refine wpList_plain hg fun K' hK' => ?_
 obtain ⟨w', hrun, r1, r2, r3⟩ := run_upd h ht hk hn vx
 unfold Oper.wp
 rcases hop with hop | hop
 all_goals
  simp [execOp, hop, hm, hx, hv, hrun, Result.andThen]
  exact hK' _ _ (hK w' r1 r2 r3)
end
end Go.Proofs.YtiogceepjffmkaaGreatDoor.Ik
set_option maxRecDepth 100000
namespace Go.Proofs.YtiogceepjffmkaaGreatDoor.Tk
open Go.RowKit Go.Lib Num Mem Ch Tr
theorem itoa_one {n : Int} (h0 : 0 ≤ n) (h1 : n < 4) : itoa n = [UInt8.ofNat (48 + n.toNat)] := by
 unfold itoa
 rw [if_neg (by omega)]
 exact decDigits_one (by omega)
def Halt (r : List UInt8) : Prop := r = [] ∨ (∃ q, r = 32 :: q) ∨ ∃ q, r = 41 :: q
theorem Halt.word {r : List UInt8} (h : Halt r) : r.takeWhile isWd = [] := by
 rcases h with rfl | ⟨q, rfl⟩ | ⟨q, rfl⟩
 ·rfl
 ·rw [List.takeWhile_cons]; rfl
 ·rw [List.takeWhile_cons]; rfl
theorem Halt.dig {r : List UInt8} (h : Halt r) : r.head?.any isDig = false := by
 rcases h with rfl | ⟨q, rfl⟩ | ⟨q, rfl⟩ <;> rfl
theorem lex_name {s : List UInt8} (h : NameS s) {r : List UInt8} (hr : Halt r) (a : Nat) {out : List Tok} (ho : out.length ≠ 150) : lex (s ++ r) a out = lex r (a + s.length) (out ++ [⟨1, 0, a, s⟩]) := by
 obtain ⟨b, q, rfl, hb, hall, h8⟩ := h
 have hw : wordLen (b :: (q ++ r)) = (b :: q).length := by
  unfold wordLen
  rw [show b :: (q ++ r) = (b :: q) ++ r from rfl, List.takeWhile_append_of_pos hall, hr.word, List.append_nil]
 have hL : tokL b (q ++ r) = (b :: q).length := by
  unfold tokL; rw [if_pos hb, hw, if_pos h8]
 have hV : tokV b (q ++ r) a = ⟨1, 0, a, b :: q⟩ := by
  unfold tokV
  rw [if_pos hb, hw, show b :: (q ++ r) = (b :: q) ++ r from rfl, List.take_left]
 rw [List.cons_append, lex_tok (low_cls hb) (by rw [hL]; simp) ho, hL, hV, show b :: (q ++ r) = (b :: q) ++ r from rfl, List.drop_left]
theorem lex_num {n : Int} (h0 : 0 ≤ n) (h4 : n < 4) {r : List UInt8} (hr : Halt r) (a : Nat) {out : List Tok} (ho : out.length ≠ 150) : lex (itoa n ++ r) a out = lex r (a + (itoa n).length) (out ++ [⟨2, n, a, []⟩]) := by
 have ht : itoa n = [UInt8.ofNat (48 + n.toNat)] := itoa_one h0 h4
 have hb : (UInt8.ofNat (48 + n.toNat)).toNat = 48 + n.toNat := by rw [UInt8.toNat_ofNat']; omega
 have hd : isDig (UInt8.ofNat (48 + n.toNat)) = true := isDig_mk (by omega) (by omega)
 rw [ht]
 generalize UInt8.ofNat (48 + n.toNat) = b at *
 have hL : tokL b r = 1 := by
  unfold tokL
  rw [if_neg (by rw [(dig_cls hd).2]; simp), if_pos hd, if_pos]
  unfold numOk
  rw [hr.dig, Bool.and_eq_true, decide_eq_true_eq]
  exact ⟨by omega, rfl⟩
 have hV : tokV b r a = ⟨2, n, a, []⟩ := by
  unfold tokV
  rw [if_neg (by rw [(dig_cls hd).2]; simp), if_pos hd, hb, show ((48 + n.toNat : Nat) : Int) - 48 = n by omega]
 show lex (b :: r) a out = _
 rw [lex_tok (dig_cls hd).1 (by rw [hL]; simp) ho, hL, hV]
 rfl
theorem lex_sym {b : UInt8} (h1 : b.toNat ∈ ones) (r : List UInt8) (a : Nat) {out : List Tok} (ho : out.length ≠ 150) : lex (b :: r) a out = lex r (a + 1) (out ++ [⟨3, 0, a, [b]⟩]) := by
 obtain ⟨c1, c2, c3⟩ := ones_cls h1
 have hS : symL b r = 1 := by unfold symL; rw [if_pos h1]
 have hL : tokL b r = 1 := by unfold tokL; rw [if_neg (by rw [c2]; simp), if_neg (by rw [c3]; simp), hS]
 have hV : tokV b r a = ⟨3, 0, a, [b]⟩ := by
  unfold tokV
  rw [if_neg (by rw [c2]; simp), if_neg (by rw [c3]; simp), hS]
  rfl
 rw [lex_tok c1 (by rw [hL]; simp) ho, hL, hV]
 rfl
theorem lex_two {b : UInt8} (h2 : b.toNat = 61 ∨ b.toNat = 58) (r : List UInt8) (a : Nat) {out : List Tok} (ho : out.length ≠ 150) : lex (b :: 61 :: r) a out = lex r (a + 2) (out ++ [⟨3, 0, a, [b, 61]⟩]) := by
 obtain ⟨c1, c2, c3, c4⟩ := two_cls h2
 have hS : symL b (61 :: r) = 2 := by unfold symL; rw [if_neg c4, if_pos ⟨h2, rfl⟩]
 have hL : tokL b (61 :: r) = 2 := by unfold tokL; rw [if_neg (by rw [c2]; simp), if_neg (by rw [c3]; simp), hS]
 have hV : tokV b (61 :: r) a = ⟨3, 0, a, [b, 61]⟩ := by
  unfold tokV
  rw [if_neg (by rw [c2]; simp), if_neg (by rw [c3]; simp), hS]
  rfl
 rw [lex_tok c1 (by rw [hL]; simp) ho, hL, hV]
 rfl
def st (t : Tok) : Tok := ⟨t.k, t.n, 0, t.s⟩
abbrev lpT : Tok := ⟨3, 0, 0, [40]⟩
abbrev rpT : Tok := ⟨3, 0, 0, [41]⟩
abbrev symT (n : Int) : Tok := ⟨3, 0, 0, C3.symL n⟩
def parK (l : List Tok) (b : Bool) : List Tok := if b = true then lpT :: (l ++ [rpT]) else l
def tkT : T → List Tok
 | .mk k n s ks =>
  if k = 1 then [⟨2, n, 0, []⟩] else if k = 2 then [⟨1, 0, 0, s⟩] else
   match ks with
   | [a] => ⟨3, 0, 0, [33]⟩ :: parK (tkT a) (decide (lvlT a < 6))
   | [a, b] => parK (tkT a) (decide (lvlT a < if lvl k n = 3 then 4 else lvl k n)) ++ symT n :: parK (tkT b) (decide (lvlT b < lvl k n + 1))
   | _ => []
termination_by t => SizeOf.sizeOf t
theorem tk_1 (n : Int) (s : List UInt8) (ks : List T) : tkT (.mk 1 n s ks) = [⟨2, n, 0, []⟩] := by unfold tkT; rfl
theorem tk_2 (n : Int) (s : List UInt8) (ks : List T) : tkT (.mk 2 n s ks) = [⟨1, 0, 0, s⟩] := by unfold tkT; rfl
theorem tk_4 (n : Int) (s : List UInt8) (a : T) : tkT (.mk 4 n s [a]) = ⟨3, 0, 0, [33]⟩ :: parK (tkT a) (decide (lvlT a < 6)) := by rw [tkT]; rfl
theorem tk_3 (n : Int) (s : List UInt8) (a b : T) : tkT (.mk 3 n s [a, b]) = parK (tkT a) (decide (lvlT a < if lvl 3 n = 3 then 4 else lvl 3 n)) ++ symT n :: parK (tkT b) (decide (lvlT b < lvl 3 n + 1)) := by rw [tkT]; rfl
theorem valid_name {s : List UInt8} (h : C2.validB s = true) : NameS s := by
 unfold C2.validB at h
 rw [Bool.and_eq_true, Bool.and_eq_true, decide_eq_true_eq] at h
 obtain ⟨h8, hs, _⟩ := h
 cases s with
 | nil => cases hs
 | cons b r =>
  unfold C2.shape at hs
  rw [Bool.and_eq_true, List.all_eq_true] at hs
  refine ⟨b, r, rfl, hs.1, fun x hx => ?_, h8⟩
  rcases List.mem_cons.1 hx with rfl | hx
  ·exact low_wd hs.1
  ·exact hs.2 x hx
end Go.Proofs.YtiogceepjffmkaaGreatDoor.Tk
set_option maxRecDepth 100000
namespace Go.Proofs.YtiogceepjffmkaaGreatDoor.Tr
open Go.RowKit Go.Lib Go.Sort Com Mem YtiogceepjffmkaaGreatDoor.Os
def er (w : World) (h : Nat) : World := { w with heap := w.heap.setIfInBounds h (.cells #[.nilFunc] 0 (7, 7)) }
theorem er_size (w : World) (h : Nat) : (er w h).heap.size = w.heap.size := by simp [er]
theorem er_other (w : World) {h k : Nat} (hk : k ≠ h) : (er w h).heap[k]? = w.heap[k]? := by
 unfold er
 rw [Array.getElem?_setIfInBounds_ne (by omega)]
theorem er_self {w : World} {h : Nat} (hk : h < w.heap.size) : (er w h).heap[h]? = some (.cells #[.nilFunc] 0 (7, 7)) := by
 unfold er
 rw [Array.getElem?_setIfInBounds_self_of_lt hk]
theorem er_blk {w : World} {h g t : Nat} {cs : List Value} (hb : Blk (er w h) g t cs) : Blk w g t cs := by
 by_cases e : g = h
 ·subst e
  exfalso
  have h1 := hb.lt
  rw [er_size] at h1
  unfold Blk at hb
  rw [er_self h1] at hb
  simp at hb
 ·unfold Blk at hb ⊢
  rw [← hb, er_other w e]
theorem OwnE.er_out {ty : TypeId} {w : World} {h lo hi : Nat} {v : Value} {t : T} (ho : OwnE ty (er w h) lo hi v t) : OwnE ty w lo hi v t := by
 induction ho with
 | mk A c vs ls hs hsl hkl hA hin hdis hk ih =>
  refine .mk A c vs ls hs hsl hkl (fun hne => ?_) hin hdis ih
  obtain ⟨g, cs, e, h1, h2, hb, hr, hd⟩ := hA hne
  exact ⟨g, cs, e, h1, h2, er_blk hb, hr, hd⟩
theorem OwnE.er_in {ty : TypeId} {w : World} {h lo hi : Nat} {v : Value} {t : T} (ho : OwnE ty w lo hi v t) (hh : h < lo ∨ hi ≤ h) : OwnE ty (er w h) lo hi v t :=
 ho.same fun k h1 h2 => er_other w (by omega)
theorem OwnE.er_go {ty : TypeId} {w w' : World} {h lo hi : Nat} {v : Value} {t : T} (ho : OwnE ty (er w h) lo hi v t) (hh : h < w.heap.size) (hs : w.heap.size ≤ w'.heap.size) (hsm : ∀ k, lo ≤ k → k < hi → k ≠ h → w'.heap[k]? = w.heap[k]?) : OwnE ty (er w' h) lo hi v t :=
 ho.same fun k h1 h2 => by
  by_cases e : k = h
  ·subst e
   rw [er_self hh, er_self (by omega)]
  ·rw [er_other w e, er_other w' e]; exact hsm k h1 h2 e
theorem er_new {w : World} {h b t : Nat} {cs : List Value} (hb : Blk w b t cs) (hne : b ≠ h) : Blk (er w h) b t cs := by
 unfold Blk at hb ⊢
 rw [er_other w hne]; exact hb
end Go.Proofs.YtiogceepjffmkaaGreatDoor.Tr
set_option maxRecDepth 100000
namespace Go.Proofs.YtiogceepjffmkaaGreatDoor.Big
open Go.RowKit
theorem big_any (A : Option Addr) (n c : Nat) (w : World) : Calls Tryz.prog 6 #[.slice A n c] w fun e w' => e = .returned (.bool (decide (1048576 < (n : Int)))) ∧ w = w' := by
 go_enter Tryz.func6, Tryz.ntmps6
 go_wp2_with fail
 go_ret
 exact ⟨rfl, rfl⟩
end Go.Proofs.YtiogceepjffmkaaGreatDoor.Big
