/- Chapter 8's draws: DrawIsValidProgram (l8Bent's contract handed in). -/
import Derived.Test.YtiogceepjffmkaaGreatDoorQDt
import Derived.LaidEql
import Derived.Stop.Asserts
import Derived.RowKitTokens
set_option maxHeartbeats 4000000
set_option maxRecDepth 100000
namespace Go.Proofs.YtiogceepjffmkaaGreatDoor.Gd
open Go.RowKit Go.Lib Com Mem Cur YtiogceepjffmkaaGreatDoor.Os Ow Tr Dr Pl
theorem PgOut.keep {W W' : World} {lo lo' h : Nat} {v : Value} {V : List (List UInt8)} {L : List St} (hP : PgOut W lo v V L) (hlt : h < lo) (hl : lo' ≤ lo) (hg : W.grownBy W' (some h)) : PgOut W' lo' v V L := by
 obtain ⟨VA, vc, B, bc, rows, e, h1, h2, h3, h4, h5, h6⟩ := hP
 have hc : Cry (ezb W lo) (ezb W' lo') W.heap.size := (Cry.two (o := none) (fun k hk hlo _ => hg.block k hk fun e => by cases e; omega)).trans (Cry.ezb_mono W' hl _) (Nat.le_refl _)
 exact ⟨VA, vc, B, bc, rows, e, h1, rd_cry h2 hc hg.size, h3, h4, h5, h6.cry hc hg.size⟩
end Go.Proofs.YtiogceepjffmkaaGreatDoor.Gd
set_option maxRecDepth 100000
namespace Go.Proofs.YtiogceepjffmkaaGreatDoor.Gs
open Go.RowKit Go.Lib Go.Sort Com Mem Tr Im Ag Pl Kd
end Go.Proofs.YtiogceepjffmkaaGreatDoor.Gs
set_option maxRecDepth 100000
namespace Go.Proofs.YtiogceepjffmkaaGreatDoor.Gd
open Go.RowKit Go.Lib Go.Sort Com Mem YtiogceepjffmkaaGreatDoor.Os Tr Tk
end Go.Proofs.YtiogceepjffmkaaGreatDoor.Gd
set_option maxRecDepth 100000
namespace Go.Proofs.YtiogceepjffmkaaGreatDoor.Kd
open Go.RowKit Tr Gd
def kidsW : St → List (List St)
 | .mk k _ _ bs es => if k = 2 then [bs, es] else if k = 3 then [bs] else []
mutual
def cntW : St → Nat
 | .mk k _ _ bs es => 1 + ((if k = 2 then cntWL bs else if k = 3 then cntWL bs else 0) + (if k = 2 then cntWL es else 0))
def cntWL : List St → Nat
 | [] => 0
 | a :: r => cntW a + cntWL r
end
mutual
def depW : St → Nat
 | .mk k _ _ bs es => 1 + Nat.max (if k = 2 then depWL bs else if k = 3 then depWL bs else 0) (if k = 2 then depWL es else 0)
def depWL : List St → Nat
 | [] => 0
 | a :: r => Nat.max (depW a) (depWL r)
end
theorem cntWL_sum (L : List St) : cntWL L = (L.map cntW).sum := by
 induction L with
 | nil => simp [cntWL]
 | cons a r ih => simp [cntWL, ih]
theorem depWL_mx (L : List St) : depWL L = mx depW L := by
 induction L with
 | nil => simp [depWL, mx]
 | cons a r ih => simp [depWL, mx, ih]
def kdW : Kd St where
 kids := kidsW
 cnt := cntW
 dep := depW
 cnt_eq := fun t => by
  obtain ⟨k, s, e, bs, es⟩ := t
  rw [cntW, cntWL_sum, cntWL_sum]
  unfold kidsW
  by_cases h2 : k = 2
  ·simp [h2]
  ·by_cases h3 : k = 3
   ·simp [h3]
   ·simp [h2, h3]
 dep_eq := fun t => by
  obtain ⟨k, s, e, bs, es⟩ := t
  rw [depW, depWL_mx, depWL_mx]
  by_cases h2 : k = 2
  ·simp only [kidsW, if_pos h2]
   show 1 + Nat.max (mx depW bs) (mx depW es) = 1 + Nat.max (mx depW bs) (Nat.max (mx depW es) 0)
   rw [show Nat.max (mx depW es) 0 = mx depW es from Nat.max_eq_left (Nat.zero_le _)]
  ·by_cases h3 : k = 3
   ·simp only [kidsW, if_neg h2, if_pos h3]
    rfl
   ·simp only [kidsW, if_neg h2, if_neg h3]
    rfl
 two := fun t => by
  obtain ⟨k, s, e, bs, es⟩ := t
  unfold kidsW
  by_cases h2 : k = 2
  ·simp [h2]
  ·by_cases h3 : k = 3
   ·simp [h3]
   ·simp [h2, h3]
theorem cntW_le (t : St) : cntW t ≤ cntSt t := by
 induction t using St.ind with
 | h k s e bs es h1 h2 =>
  have sub : ∀ L : List St, (∀ a ∈ L, cntW a ≤ cntSt a) → cntWL L ≤ Gd.cntL L := fun L h => by
   induction L with
   | nil => simp [cntWL]
   | cons a r ih =>
    have := h a (by simp)
    have := ih fun b hb => h b (by simp [hb])
    simp only [cntWL, Gd.cntL]; omega
  have g1 := sub bs h1
  have g2 := sub es h2
  rw [cntW, cntSt]
  by_cases h2 : k = 2
  ·rw [if_pos h2, if_pos h2]; omega
  ·rw [if_neg h2, if_neg h2]
   by_cases h3 : k = 3
   ·rw [if_pos h3]; omega
   ·rw [if_neg h3]; omega
theorem cntL_W (t : St) : kdW.cntL [t] ≤ cntSt t := by
 have := cntW_le t
 rw [Kd.cntL_cons, Kd.cntL_nil]
 show cntW t + 0 ≤ _
 omega
section
variable {τ : Type} {K : Kd τ} {P : LN τ → Prop} {N Dp nodes depth m : Nat} {S : List (LN τ)} {Lf Bl : He τ} {cur : List τ} {ls : List (List τ)}
theorem depL_pos {l : List τ} (h : l ≠ []) : 1 ≤ K.depL l := by
 cases l with
 | nil => exact absurd rfl h
 | cons a r =>
  have h1 := K.dep_pos a
  have h2 : K.dep a ≤ mx K.dep (a :: r) := mx_mem (by simp)
  exact Nat.le_trans h1 h2
theorem ZX.deep (h : ZX K P N Dp nodes depth S Lf m cur ls Bl) : depth + 1 ≤ Dp := by
 rcases h.wit with ⟨t, _, e⟩ | ⟨p, hp, e⟩ | ⟨l, _, e⟩ | ⟨p, hp, e⟩ | e
 ·have := K.dep_pos t; omega
 ·have := depL_pos (K := K) (h.neL p hp).1; omega
 ·omega
 ·omega
 ·omega
theorem ZX.pad (h : ZX K P N Dp nodes depth S Lf m cur ls Bl) {ls' : List (List τ)} (hc : K.cntLL ls' = K.cntLL ls) (h1 : ∀ l ∈ ls', l ∈ ls ∨ l = []) (h2 : ∀ l ∈ ls, l ∈ ls' ∨ l = []) : ZX K P N Dp nodes depth S Lf m cur ls' Bl := by
 have hd := h.deep
 have h0 : K.depL ([] : List τ) = 0 := rfl
 refine ⟨by rw [hc]; exact h.cnt, h.upC, h.upL, fun l hl => ?_, h.dn, ?_, h.seen, h.now, h.neL, h.neB, h.inL, h.inB, h.inS⟩
 ·rcases h1 l hl with h3 | rfl
  ·exact h.upK l h3
  ·omega
 ·rcases h.wit with h3 | h3 | ⟨l, hl, e⟩ | h3
  ·exact Or.inl h3
  ·exact Or.inr (Or.inl h3)
  ·rcases h2 l hl with h4 | rfl
   ·exact Or.inr (Or.inr (Or.inl ⟨l, h4, e⟩))
   ·exact Or.inr (Or.inr (Or.inr (Or.inr (by omega))))
  ·exact Or.inr (Or.inr (Or.inr h3))
end
end Go.Proofs.YtiogceepjffmkaaGreatDoor.Kd
set_option maxRecDepth 100000
namespace Go.Proofs.YtiogceepjffmkaaGreatDoor.Gp
open Go.RowKit Go.Lib Go.Sort Com Mem Tr Tk Im Ag Pl Kd Gs Gd
abbrev Pt := List UInt8 × LN St
abbrev nil0 : LN St := ⟨none, 0, []⟩
def pv (x : Pt) : List Value := [sv x.1, slv x.2]
def pvs (l : List Pt) : List Value := l.flatMap pv
theorem pvs_app (a b : List Pt) : pvs (a ++ b) = pvs a ++ pvs b := by unfold pvs; rw [List.flatMap_append]
theorem pvs_cons (a : Pt) (r : List Pt) : pvs (a :: r) = sv a.1 :: slv a.2 :: pvs r := rfl
theorem pvs_at {l : List Pt} {j : Nat} {x : Pt} (h : l[j]? = some x) : (pvs l)[j * 2]? = some (sv x.1) ∧ (pvs l)[j * 2 + 1]? = some (slv x.2) := by
 induction l generalizing j with
 | nil => simp at h
 | cons a r ih =>
  rw [pvs_cons]
  cases j with
  | zero =>
   rw [List.getElem?_cons_zero] at h
   cases h
   exact ⟨rfl, rfl⟩
  | succ j =>
   rw [List.getElem?_cons_succ] at h
   obtain ⟨h1, h2⟩ := ih h
   rw [show (j + 1) * 2 = j * 2 + 1 + 1 by omega]
   exact ⟨by rw [List.getElem?_cons_succ, List.getElem?_cons_succ]; exact h1, by rw [show j * 2 + 1 + 1 + 1 = (j * 2 + 1) + 1 + 1 by omega, List.getElem?_cons_succ, List.getElem?_cons_succ]; exact h2⟩
theorem pvs_take (l : List Pt) (m : Nat) : pvs (l.take m) = (pvs l).take (m * 2) := by
 induction l generalizing m with
 | nil => simp [pvs]
 | cons a r ih =>
  cases m with
  | zero => simp [pvs]
  | succ m =>
   rw [List.take_succ_cons, pvs_cons, pvs_cons, ih, show (m + 1) * 2 = m * 2 + 1 + 1 by omega, List.take_succ_cons, List.take_succ_cons]
theorem pvs_one (l : List Pt) : ∀ u ∈ pvs l, u.oneCell' = true := by
 induction l with
 | nil => intro u hu; cases hu
 | cons a r ih =>
  intro u hu
  rw [pvs_cons] at hu
  rcases List.mem_cons.1 hu with rfl | hu
  ·rfl
  ·rcases List.mem_cons.1 hu with rfl | hu
   ·rfl
   ·exact ih u hu
def ptsOf (k : Int) (s x : List UInt8) (b o : LN St) : List Pt :=
 if k = 1 then [(s ++ [32, 58, 61, 32] ++ x ++ [32, 59], nil0)]
 else if k = 4 then [([101, 109, 105, 116, 32] ++ x ++ [32, 59], nil0)]
 else if k = 3 then [([119, 104, 105, 108, 101, 32] ++ x ++ [32, 123], b), ([32, 125], nil0)]
 else if k = 2 then (if 0 < o.ks.length then [([105, 102, 32] ++ x ++ [32, 123], b), ([32, 125], nil0), ([32, 101, 108, 115, 101, 32, 123], o), ([32, 125], nil0)]
  else [([105, 102, 32] ++ x ++ [32, 123], b), ([32, 125], nil0)])
 else [([63], nil0)]
def txP (l : List Pt) : List UInt8 := l.flatMap fun x => x.1 ++ tJ x.2.ks
theorem txP_app (a b : List Pt) : txP (a ++ b) = txP a ++ txP b := by unfold txP; rw [List.flatMap_append]
theorem txP_cons (a : Pt) (r : List Pt) : txP (a :: r) = a.1 ++ tJ a.2.ks ++ txP r := rfl
theorem tJ_nil : tJ [] = [] := by rw [tJ]
theorem txP_of (k : Int) (s : List UInt8) (e : T) (b o : LN St) : txP (ptsOf k s (fmtX e) b o) = tSt (.mk k s e b.ks o.ks) := by
 rw [tSt_mk]
 unfold ptsOf
 split
 ·simp [txP, tJ_nil]
 ·split
  ·simp [txP, tJ_nil]
  ·split
   ·simp [txP, tJ_nil, tB]
   ·split
    ·split
     ·simp [txP, tJ_nil, tB]
     ·simp [txP, tJ_nil, tB]
    ·simp [txP, tJ_nil]
theorem ptsOf_len (k : Int) (s x : List UInt8) (b o : LN St) : 1 ≤ (ptsOf k s x b o).length ∧ (ptsOf k s x b o).length ≤ 4 := by
 unfold ptsOf
 split
 ·simp
 ·split
  ·simp
  ·split
   ·simp
   ·split
    ·split <;> simp
    ·simp
theorem ptsOf_in (k : Int) (s x : List UInt8) (b o : LN St) : ∀ y ∈ ptsOf k s x b o, y.2 = b ∨ y.2 = o ∨ y.2 = nil0 := by
 intro y hy
 unfold ptsOf at hy
 split at hy
 ·simp only [List.mem_singleton] at hy; subst hy; exact Or.inr (Or.inr rfl)
 ·split at hy
  ·simp only [List.mem_singleton] at hy; subst hy; exact Or.inr (Or.inr rfl)
  ·split at hy
   ·simp only [List.mem_cons, List.not_mem_nil, or_false] at hy
    rcases hy with rfl | rfl
    ·exact Or.inl rfl
    ·exact Or.inr (Or.inr rfl)
   ·split at hy
    ·split at hy
     ·simp only [List.mem_cons, List.not_mem_nil, or_false] at hy
      rcases hy with rfl | rfl | rfl | rfl
      ·exact Or.inl rfl
      ·exact Or.inr (Or.inr rfl)
      ·exact Or.inr (Or.inl rfl)
      ·exact Or.inr (Or.inr rfl)
     ·simp only [List.mem_cons, List.not_mem_nil, or_false] at hy
      rcases hy with rfl | rfl
      ·exact Or.inl rfl
      ·exact Or.inr (Or.inr rfl)
    ·simp only [List.mem_singleton] at hy; subst hy; exact Or.inr (Or.inr rfl)
theorem ptsOf_kids (k : Int) (s x : List UInt8) (e : T) (b o : LN St) : kdW.cntLL ((ptsOf k s x b o).map fun y => y.2.ks) = kdW.cntLL (kdW.kids (.mk k s e b.ks o.ks)) ∧
  (∀ l ∈ (ptsOf k s x b o).map fun y => y.2.ks, l ∈ kdW.kids (.mk k s e b.ks o.ks) ∨ l = []) ∧ ∀ l ∈ kdW.kids (.mk k s e b.ks o.ks), l ∈ ((ptsOf k s x b o).map fun y => y.2.ks) ∨ l = [] := by
 rw [show kdW.kids (.mk k s e b.ks o.ks) = kidsW (.mk k s e b.ks o.ks) from rfl]
 have z : kdW.cntL ([] : List St) = 0 := rfl
 have zz : kdW.cntLL ([] : List (List St)) = 0 := rfl
 unfold kidsW ptsOf
 by_cases h1 : k = 1
 ·subst h1
  refine ⟨by simp [Kd.cntLL_cons, z, zz], ?_, ?_⟩ <;> simp
 ·by_cases h4 : k = 4
  ·subst h4
   refine ⟨by simp [Kd.cntLL_cons, z, zz], ?_, ?_⟩ <;> simp
  ·by_cases h3 : k = 3
   ·subst h3
    refine ⟨by simp [Kd.cntLL_cons, z, zz], ?_, ?_⟩ <;> simp
   ·by_cases h2 : k = 2
    ·subst h2
     by_cases h0 : 0 < o.ks.length
     ·simp only [h0]
      refine ⟨by simp [Kd.cntLL_cons, z, zz], ?_, ?_⟩ <;> simp
     ·have h00 : o.ks = [] := List.eq_nil_of_length_eq_zero (by omega)
      simp only [h00]
      refine ⟨by simp [Kd.cntLL_cons, z, zz], ?_, ?_⟩ <;> simp
    ·simp only [h1, h2, h3, h4]
     refine ⟨by simp [Kd.cntLL_cons, z, zz], ?_, ?_⟩ <;> simp
end Go.Proofs.YtiogceepjffmkaaGreatDoor.Gp
set_option maxRecDepth 100000
namespace Go.Proofs.YtiogceepjffmkaaGreatDoor.As
open Go.RowKit Go.Extern.Stop Go.Stop Go.Extern
abbrev HB : Nat := 6
abbrev SE : TypeId := 174
abbrev PSE : TypeId := 176
abbrev ERR : TypeId := 93
abbrev RT : TypeId := 250
abbrev VT : TypeId := 217
abbrev PES : TypeId := 333
theorem valueOfP (t : Addr) (w : World) : (ReflectliteValue.unpack (.iface PSE (.pointer (some t)))).run Tryz.prog w
  = .ok (.agg #[.pointer (some ⟨HB, PSE, none⟩), .pointer (some ⟨w.heap.size, 0, none⟩), .int .u64 150]) (w.alloc (.cells #[.pointer (some t)] PSE)) := by kernel_rfl
theorem typeP (a : Addr) (w : World) : (ReflectliteValue.methodAny (ReflectliteValue.valueError "reflectlite.Value.Type" 0) (fun t _ _ _ => ReflectliteType.toType t) #[.agg #[.pointer (some ⟨HB, PSE, none⟩), .pointer (some a), .int .u64 150]]).run Tryz.prog w
  = .ok (.iface RT (.agg #[.pointer (some ⟨HB, PSE, none⟩)])) w := by kernel_rfl
theorem methodKind (h : Value) (w : World) : (Go.method 462 RT (.agg #[h]) "Kind").run Tryz.prog w = .ok (292, h) w := by kernel_rfl
theorem kindP (w : World) : ((ReflectliteType.abiMethod fun t => (fun a : Nat => Value.int IntKind.u8 (a : Int)) <$> Rtype.kind t) #[.pointer (some ⟨HB, PSE, none⟩)]).run Tryz.prog w = .ok (.int .u8 22) w := by kernel_rfl
theorem kindS (w : World) : ((ReflectliteType.abiMethod fun t => (fun a : Nat => Value.int IntKind.u8 (a : Int)) <$> Rtype.kind t) #[.pointer (some ⟨HB, SE, none⟩)]).run Tryz.prog w = .ok (.int .u8 25) w := by kernel_rfl
theorem rlm (z : Sem Value) (f : TypeId → Addr → Nat → Nat → Sem Value) (v : Value) :
  ReflectliteValue.method z f #[v] = (do match ← ReflectliteValue.parts v with | none => z | some (t, a, fl) => f t a fl (fl % 32)) := rfl
theorem partsP (a : Addr) (w : World) : (ReflectliteValue.parts (.agg #[.pointer (some ⟨HB, PSE, none⟩), .pointer (some a), .int .u64 150])).run Tryz.prog w = .ok (some (PSE, a, 150)) w := by kernel_rfl
theorem isNilP (a p : Addr) (W : World) (ha : W.cell? a = some (.pointer (some p))) :
  (ReflectliteValue.method (ReflectliteValue.valueError "reflectlite.Value.IsNil" 0) ReflectliteValue.isNil #[.agg #[.pointer (some ⟨HB, PSE, none⟩), .pointer (some a), .int .u64 150]]).run Tryz.prog W = .ok (.bool false) W := by
 rw [rlm]
 simp only [Sem.run_bind, partsP, Result.andThen]
 simp [ReflectliteValue.isNil, loadVar, isAgg, underlying, Tryz.underlying176, ha, Result.andThen]
theorem methodElem (h : Value) (w : World) : (Go.method 462 RT (.agg #[h]) "Elem").run Tryz.prog w = .ok (304, .agg #[h]) w := by kernel_rfl
theorem methodImplements (h : Value) (w : World) : (Go.method 462 RT (.agg #[h]) "Implements").run Tryz.prog w = .ok (305, .agg #[h]) w := by kernel_rfl
theorem methodAssignableTo (h : Value) (w : World) : (Go.method 462 RT (.agg #[h]) "AssignableTo").run Tryz.prog w = .ok (302, .agg #[h]) w := by kernel_rfl
theorem elemP (w : World) : (ReflectliteType.method ReflectliteType.elem #[.agg #[.pointer (some ⟨HB, PSE, none⟩)]]).run Tryz.prog w = .ok (.iface RT (.agg #[.pointer (some ⟨HB, SE, none⟩)])) w := by kernel_rfl
theorem implementsS (w : World) : (ReflectliteType.relation "Implements" ReflectliteType.implements_ #[.agg #[.pointer (some ⟨HB, SE, none⟩)], .iface RT (.agg #[.pointer (some ⟨HB, ERR, none⟩)])]).run Tryz.prog w = .ok (.bool true) w := by kernel_rfl
theorem typeOfS (v : Value) (w : World) : (ReflectliteType.typeOf #[.iface SE v]).run Tryz.prog w = .ok (.iface RT (.agg #[.pointer (some ⟨HB, SE, none⟩)])) w := by kernel_rfl
theorem typeOfE (v : Value) (w : World) : (ReflectliteType.typeOf #[.iface PES v]).run Tryz.prog w = .ok (.iface RT (.agg #[.pointer (some ⟨HB, PES, none⟩)])) w := by kernel_rfl
theorem assignableS (w : World) : (ReflectliteType.relation "AssignableTo" ReflectliteType.assignableTo #[.agg #[.pointer (some ⟨HB, SE, none⟩)], .iface RT (.agg #[.pointer (some ⟨HB, SE, none⟩)])]).run Tryz.prog w = .ok (.bool true) w := by kernel_rfl
theorem assignableE (w : World) : (ReflectliteType.relation "AssignableTo" ReflectliteType.assignableTo #[.agg #[.pointer (some ⟨HB, PES, none⟩)], .iface RT (.agg #[.pointer (some ⟨HB, SE, none⟩)])]).run Tryz.prog w = .ok (.bool false) w := by kernel_rfl
theorem valueOfS (a : Int) (w : World) : (ReflectliteValue.unpack (.iface SE (.agg #[.int .i64 a]))).run Tryz.prog w
  = .ok (.agg #[.pointer (some ⟨HB, SE, none⟩), .pointer (some ⟨w.heap.size, 0, none⟩), .int .u64 153]) (w.alloc (.cells #[.int .i64 a] SE)) := by kernel_rfl
theorem elemOfP (w : World) : (Rtype.elem? PSE).run Tryz.prog w = .ok (some SE) w := by kernel_rfl
theorem mkS (p : Addr) (w : World) : (ReflectliteValue.mk SE p ReflectliteValue.flagAddr).run Tryz.prog w = .ok (.agg #[.pointer (some ⟨HB, SE, none⟩), .pointer (some p), .int .u64 409]) w := by kernel_rfl
theorem elemVP (a p : Addr) (W : World) (ha : W.cell? a = some (.pointer (some p))) :
  (ReflectliteValue.method (ReflectliteValue.valueError "reflectlite.Value.Elem" 0) ReflectliteValue.elem #[.agg #[.pointer (some ⟨HB, PSE, none⟩), .pointer (some a), .int .u64 150]]).run Tryz.prog W
   = .ok (.agg #[.pointer (some ⟨HB, SE, none⟩), .pointer (some p), .int .u64 409]) W := by
 rw [rlm]
 simp only [Sem.run_bind, partsP, Result.andThen]
 simp [ReflectliteValue.elem, loadVar, isAgg, underlying, Tryz.underlying176, ha, Result.andThen, elemOfP, mkS]
theorem rls (v x : Value) : ReflectliteValue.set #[v, x] = (do
  let (some (dst, a, fl), some (src, b, _)) := (← ReflectliteValue.parts v, ← ReflectliteValue.parts x)
   | unsupported (.noEntry "extern/(internal/reflectlite.Value).Set.zeroValue")
  if fl / ReflectliteValue.flagAddr % 2 == 0 then unsupported (.noEntry "extern/(internal/reflectlite.Value).Set.unaddressable")
  let val ← loadVar src b
  if ← Rtype.directlyAssignable dst src then storeVar dst a val
  else if ← Rtype.implements dst src then
   if (← Rtype.kind src) == 20 then
    match val with
    | .nilIface => unsupported (.noEntry "extern/reflectlite: a nil value of one interface type handed on as a value of another")
    | _ => storeVar dst a val
   else storeVar dst a (.iface src val)
  else panicString ("reflectlite.Set: value of type " ++ (← Rtype.spelt src) ++ " is not assignable to type " ++ (← Rtype.spelt dst))
  pure (.tuple #[])) := rfl
theorem partsSa (a : Addr) (w : World) : (ReflectliteValue.parts (.agg #[.pointer (some ⟨HB, SE, none⟩), .pointer (some a), .int .u64 409])).run Tryz.prog w = .ok (some (SE, a, 409)) w := by kernel_rfl
theorem partsS (a : Addr) (w : World) : (ReflectliteValue.parts (.agg #[.pointer (some ⟨HB, SE, none⟩), .pointer (some a), .int .u64 153])).run Tryz.prog w = .ok (some (SE, a, 153)) w := by kernel_rfl
theorem directS (w : World) : (Rtype.directlyAssignable SE SE).run Tryz.prog w = .ok true w := by kernel_rfl
theorem setS (g h : Nat) (a : Int) (old : Value) (W : World) (hb : W.heap[h]? = some (.cells #[.int .i64 a] SE (0, 0))) (ht : W.cell? ⟨g, 0, none⟩ = some old) (hf : W.frozen? ⟨g, 0, none⟩ = false) :
  (ReflectliteValue.set #[.agg #[.pointer (some ⟨HB, SE, none⟩), .pointer (some ⟨g, 0, none⟩), .int .u64 409], .agg #[.pointer (some ⟨HB, SE, none⟩), .pointer (some ⟨h, 0, none⟩), .int .u64 153]]).run Tryz.prog W
   = .ok (.tuple #[]) (W.setCell ⟨g, 0, none⟩ (.int .i64 a)) := by
 have hld := run_loadVar_row (P := Tryz.prog) W h SE SE #[.int .i64 a] (0, 0) _ hb Tryz.underlying174 rfl (by kernel_rfl)
 rw [rls]
 simp only [Sem.run_bind, partsSa, partsS, Result.andThen]
 simp [ReflectliteValue.flagAddr, hld, Result.andThen, directS, storeVar, Value.cells, storeCells, Addr.add]
 rw [run_store Tryz.prog W ⟨g, 0, none⟩ _ _ (by rfl)]
 simp [ht, hf]
open Go.Lib Com Mem
def Handle (w : World) : Prop := w.cell? ⟨1, 0, none⟩ = some (.iface RT (.agg #[.pointer (some ⟨HB, ERR, none⟩)]))
theorem Handle.lt {w : World} (h : Handle w) : 1 < w.heap.size := by
 unfold Handle at h
 rcases Nat.lt_or_ge 1 w.heap.size with h1 | h1
 ·exact h1
 ·simp [World.cell?, Array.getElem?_eq_none h1] at h
theorem Handle.below {w w' : World} {B : Nat} (h : Handle w) (hb : Below B w w') (hB : 1 < B) : Handle w' := (hb.cell hB).trans h
theorem as_hit (a : Int) (g : Nat) (w : World) (hg : Handle w) (hB : Blk w g SE [.int .i64 0]) :
  Calls Tryz.prog 111 #[.iface SE (.agg #[.int .i64 a]), .iface PSE (.pointer (some ⟨g, 0, none⟩))] w fun ev w' => ev = .returned (.bool true) ∧ w' = ((((w.alloc (.cells #[.pointer (some ⟨g, 0, none⟩)] PSE)).alloc (.cells #[.pointer (some ⟨HB, PSE, none⟩), .pointer (some ⟨w.heap.size, 0, none⟩), .int .u64 150] VT)).alloc (.cells #[.pointer (some ⟨HB, PSE, none⟩), .pointer (some ⟨w.heap.size, 0, none⟩), .int .u64 150] VT)).alloc (.cells #[.int .i64 a] SE)).setCell ⟨g, 0, none⟩ (.int .i64 a) := by
 have h6 := @run_callFunc_extern Tryz.prog 146 _ (fun args => ReflectliteValue.unpack (args.getD 0 (.tuple #[]))) Tryz.func146 (by kernel_rfl) (by kernel_rfl) (by kernel_rfl) (by kernel_rfl)
 have h7 := @run_callFunc_extern Tryz.prog 147 _ (ReflectliteValue.methodAny (ReflectliteValue.valueError "reflectlite.Value.Type" 0) (fun t _ _ _ => ReflectliteType.toType t)) Tryz.func147 (by kernel_rfl) (by kernel_rfl) (by kernel_rfl) (by kernel_rfl)
 have h8 := @run_callFunc_extern Tryz.prog 148 _ (ReflectliteValue.method (ReflectliteValue.valueError "reflectlite.Value.IsNil" 0) ReflectliteValue.isNil) Tryz.func148 (by kernel_rfl) (by kernel_rfl) (by kernel_rfl) (by kernel_rfl)
 have h27 := @run_callFunc_extern Tryz.prog 292 _ (ReflectliteType.abiMethod fun t => do pure (.int .u8 (← Rtype.kind t))) Tryz.func292 (by kernel_rfl) (by kernel_rfl) (by kernel_rfl) (by kernel_rfl)
 have h37 := @run_callFunc_extern Tryz.prog 304 _ (ReflectliteType.method ReflectliteType.elem) Tryz.func304 (by kernel_rfl) (by kernel_rfl) (by kernel_rfl) (by kernel_rfl)
 have h38 := @run_callFunc_extern Tryz.prog 305 _ (ReflectliteType.relation "Implements" ReflectliteType.implements_) Tryz.func305 (by kernel_rfl) (by kernel_rfl) (by kernel_rfl) (by kernel_rfl)
 have h10 := @run_callFunc_extern Tryz.prog 183 _ ReflectliteType.typeOf Tryz.func183 (by kernel_rfl) (by kernel_rfl) (by kernel_rfl) (by kernel_rfl)
 have h35 := @run_callFunc_extern Tryz.prog 302 _ (ReflectliteType.relation "AssignableTo" ReflectliteType.assignableTo) Tryz.func302 (by kernel_rfl) (by kernel_rfl) (by kernel_rfl) (by kernel_rfl)
 have h11 := @run_callFunc_extern Tryz.prog 184 _ (ReflectliteValue.method (ReflectliteValue.valueError "reflectlite.Value.Elem" 0) ReflectliteValue.elem) Tryz.func184 (by kernel_rfl) (by kernel_rfl) (by kernel_rfl) (by kernel_rfl)
 have h12 := @run_callFunc_extern Tryz.prog 185 _ ReflectliteValue.set Tryz.func185 (by kernel_rfl) (by kernel_rfl) (by kernel_rfl) (by kernel_rfl)
 have tO := typeOfS
 have mA := methodAssignableTo
 have a25 := assignableS
 have v25 := valueOfS
 have f6 := valueOfP
 have f7 := typeP
 have mK := methodKind
 have mE := methodElem
 have mI := methodImplements
 have k27 := kindP
 have k25 := kindS
 have e27 := elemP
 have i25 := implementsS
 have hlt := hg.lt
 have htl := hB.lt
 have n8 := isNilP ⟨w.heap.size, 0, none⟩ ⟨g, 0, none⟩ ((w.alloc (.cells #[.pointer (some ⟨g, 0, none⟩)] PSE)).alloc (.cells #[.pointer (some ⟨HB, PSE, none⟩), .pointer (some ⟨w.heap.size, 0, none⟩), .int .u64 150] VT)) (by simp)
 have hg2 : ((w.alloc (.cells #[.pointer (some ⟨g, 0, none⟩)] PSE)).alloc (.cells #[.pointer (some ⟨HB, PSE, none⟩), .pointer (some ⟨w.heap.size, 0, none⟩), .int .u64 150] VT)).cell? ⟨1, 0, none⟩ = some (.iface RT (.agg #[.pointer (some ⟨HB, ERR, none⟩)])) := by
  rw [World.cell?_alloc_lt _ _ ⟨1, 0, none⟩ (by simp; omega), World.cell?_alloc_lt _ _ ⟨1, 0, none⟩ hlt]; exact hg
 have el := elemVP ⟨w.heap.size, 0, none⟩ ⟨g, 0, none⟩ (((w.alloc (.cells #[.pointer (some ⟨g, 0, none⟩)] PSE)).alloc (.cells #[.pointer (some ⟨HB, PSE, none⟩), .pointer (some ⟨w.heap.size, 0, none⟩), .int .u64 150] VT)).alloc (.cells #[.pointer (some ⟨HB, PSE, none⟩), .pointer (some ⟨w.heap.size, 0, none⟩), .int .u64 150] VT)) (by rw [World.cell?_alloc_lt _ _ ⟨w.heap.size, 0, none⟩ (by simp; omega)]; simp)
 have hB4 := (((hB.alloc (.cells #[.pointer (some ⟨g, 0, none⟩)] PSE)).alloc (.cells #[.pointer (some ⟨HB, PSE, none⟩), .pointer (some ⟨w.heap.size, 0, none⟩), .int .u64 150] VT)).alloc (.cells #[.pointer (some ⟨HB, PSE, none⟩), .pointer (some ⟨w.heap.size, 0, none⟩), .int .u64 150] VT)).alloc (.cells #[.int .i64 a] SE)
 have hN4 := Blk.new (((w.alloc (.cells #[.pointer (some ⟨g, 0, none⟩)] PSE)).alloc (.cells #[.pointer (some ⟨HB, PSE, none⟩), .pointer (some ⟨w.heap.size, 0, none⟩), .int .u64 150] VT)).alloc (.cells #[.pointer (some ⟨HB, PSE, none⟩), .pointer (some ⟨w.heap.size, 0, none⟩), .int .u64 150] VT)) SE [.int .i64 a]
 rw [size_alloc', size_alloc', size_alloc'] at hN4
 have st := setS g (w.heap.size + 1 + 1 + 1) a (.int .i64 0) _ hN4 (hB4.cell 0) (hB4.frozen 0)
 clear hB hB4 hN4 hg
 go_enter Tryz.func111, Tryz.ntmps111
 go_wp2
 refine wp_loop_rounds 1 ?_
 rw [rounds_succ]
 go_wp2
 go_ret
 exact ⟨rfl, rfl⟩
theorem noAs (v : Value) (xT : TypeId) (w : World) : (Instr.typeAssert (.iface PES v) xT 255 true).run Tryz.prog w = .ok (.tuple #[.nilIface, .bool false]) w := run_typeAssert_lacksB Tryz.underlying255 (by kernel_rfl) (by kernel_rfl) v xT w
theorem noUn (v : Value) (xT : TypeId) (w : World) : (Instr.typeAssert (.iface PES v) xT 258 true).run Tryz.prog w = .ok (.tuple #[.nilIface, .bool false]) w := run_typeAssert_lacksB Tryz.underlying258 (by kernel_rfl) (by kernel_rfl) v xT w
theorem noUns (v : Value) (xT : TypeId) (w : World) : (Instr.typeAssert (.iface PES v) xT 259 true).run Tryz.prog w = .ok (.tuple #[.nilIface, .bool false]) w := run_typeAssert_lacksB Tryz.underlying259 (by kernel_rfl) (by kernel_rfl) v xT w
theorem as_miss (p : Option Addr) (g : Nat) (w : World) (hg : Handle w) (hB : Blk w g SE [.int .i64 0]) :
  Calls Tryz.prog 111 #[.iface PES (.pointer p), .iface PSE (.pointer (some ⟨g, 0, none⟩))] w fun ev w' => ev = .returned (.bool false) ∧ w' = (((w.alloc (.cells #[.pointer (some ⟨g, 0, none⟩)] PSE)).alloc (.cells #[.pointer (some ⟨HB, PSE, none⟩), .pointer (some ⟨w.heap.size, 0, none⟩), .int .u64 150] VT)).alloc (.cells #[.pointer (some ⟨HB, PSE, none⟩), .pointer (some ⟨w.heap.size, 0, none⟩), .int .u64 150] VT)) := by
 have h6 := @run_callFunc_extern Tryz.prog 146 _ (fun args => ReflectliteValue.unpack (args.getD 0 (.tuple #[]))) Tryz.func146 (by kernel_rfl) (by kernel_rfl) (by kernel_rfl) (by kernel_rfl)
 have h7 := @run_callFunc_extern Tryz.prog 147 _ (ReflectliteValue.methodAny (ReflectliteValue.valueError "reflectlite.Value.Type" 0) (fun t _ _ _ => ReflectliteType.toType t)) Tryz.func147 (by kernel_rfl) (by kernel_rfl) (by kernel_rfl) (by kernel_rfl)
 have h8 := @run_callFunc_extern Tryz.prog 148 _ (ReflectliteValue.method (ReflectliteValue.valueError "reflectlite.Value.IsNil" 0) ReflectliteValue.isNil) Tryz.func148 (by kernel_rfl) (by kernel_rfl) (by kernel_rfl) (by kernel_rfl)
 have h27 := @run_callFunc_extern Tryz.prog 292 _ (ReflectliteType.abiMethod fun t => do pure (.int .u8 (← Rtype.kind t))) Tryz.func292 (by kernel_rfl) (by kernel_rfl) (by kernel_rfl) (by kernel_rfl)
 have h37 := @run_callFunc_extern Tryz.prog 304 _ (ReflectliteType.method ReflectliteType.elem) Tryz.func304 (by kernel_rfl) (by kernel_rfl) (by kernel_rfl) (by kernel_rfl)
 have h38 := @run_callFunc_extern Tryz.prog 305 _ (ReflectliteType.relation "Implements" ReflectliteType.implements_) Tryz.func305 (by kernel_rfl) (by kernel_rfl) (by kernel_rfl) (by kernel_rfl)
 have h10 := @run_callFunc_extern Tryz.prog 183 _ ReflectliteType.typeOf Tryz.func183 (by kernel_rfl) (by kernel_rfl) (by kernel_rfl) (by kernel_rfl)
 have h35 := @run_callFunc_extern Tryz.prog 302 _ (ReflectliteType.relation "AssignableTo" ReflectliteType.assignableTo) Tryz.func302 (by kernel_rfl) (by kernel_rfl) (by kernel_rfl) (by kernel_rfl)
 have tO := typeOfE
 have mA := methodAssignableTo
 have a25 := assignableE
 have x1 := noAs
 have x2 := noUn
 have x3 := noUns
 have f6 := valueOfP
 have f7 := typeP
 have mK := methodKind
 have mE := methodElem
 have mI := methodImplements
 have k27 := kindP
 have k25 := kindS
 have e27 := elemP
 have i25 := implementsS
 have hlt := hg.lt
 have htl := hB.lt
 have n8 := isNilP ⟨w.heap.size, 0, none⟩ ⟨g, 0, none⟩ ((w.alloc (.cells #[.pointer (some ⟨g, 0, none⟩)] PSE)).alloc (.cells #[.pointer (some ⟨HB, PSE, none⟩), .pointer (some ⟨w.heap.size, 0, none⟩), .int .u64 150] VT)) (by simp)
 have hg2 : ((w.alloc (.cells #[.pointer (some ⟨g, 0, none⟩)] PSE)).alloc (.cells #[.pointer (some ⟨HB, PSE, none⟩), .pointer (some ⟨w.heap.size, 0, none⟩), .int .u64 150] VT)).cell? ⟨1, 0, none⟩ = some (.iface RT (.agg #[.pointer (some ⟨HB, ERR, none⟩)])) := by
  rw [World.cell?_alloc_lt _ _ ⟨1, 0, none⟩ (by simp; omega), World.cell?_alloc_lt _ _ ⟨1, 0, none⟩ hlt]; exact hg
 clear hB hg
 go_enter Tryz.func111, Tryz.ntmps111
 go_wp2
 refine wp_loop_rounds 1 ?_
 rw [rounds_succ]
 go_wp2
 go_ret
 exact ⟨rfl, rfl⟩
end Go.Proofs.YtiogceepjffmkaaGreatDoor.As
