/- How long a statement's text is, by what the laws count. -/
import Derived.Lib.LaidTab
import Derived.Lib.AppendIntMem
import Derived.Test.YtiogceepjffmkaaGreatDoorYNix
set_option maxHeartbeats 400000
set_option maxRecDepth 100000
namespace Go.Proofs.YtiogceepjffmkaaGreatDoor.Gd
open Go.RowKit Go.Lib Go.Sort Com Mem YtiogceepjffmkaaGreatDoor.Os Tr Tk
end Go.Proofs.YtiogceepjffmkaaGreatDoor.Gd
set_option maxRecDepth 100000
namespace Go.Proofs.YtiogceepjffmkaaGreatDoor.Gp
open Go.RowKit Go.Lib Go.Sort Com Mem Tr Tk Im Ag Pl Kd Gs Gd
abbrev Pt := List UInt8 × LN St
abbrev nil0 : LN St := ⟨none, 0, []⟩
def pv (x : Pt) : List Value := [sv x.1, slv x.2]
def pvs (l : List Pt) : List Value := l.flatMap pv
theorem pvs_app (a b : List Pt) : pvs (a ++ b) = pvs a ++ pvs b := by unfold pvs; rw [List.flatMap_append]
theorem pvs_cons (a : Pt) (r : List Pt) : pvs (a :: r) = sv a.1 :: slv a.2 :: pvs r := rfl
theorem pvs_at {l : List Pt} {j : Nat} {x : Pt} (h : l[j]? = some x) : (pvs l)[j * 2]? = some (sv x.1) ∧ (pvs l)[j * 2 + 1]? = some (slv x.2) := by
  induction l generalizing j with
  | nil => simp at h
  | cons a r ih =>
    rw [pvs_cons]
    cases j with
    | zero =>
      rw [List.getElem?_cons_zero] at h
      cases h
      exact ⟨rfl, rfl⟩
    | succ j =>
      rw [List.getElem?_cons_succ] at h
      obtain ⟨h1, h2⟩ := ih h
      rw [show (j + 1) * 2 = j * 2 + 1 + 1 by omega]
      exact ⟨by rw [List.getElem?_cons_succ, List.getElem?_cons_succ]; exact h1, by rw [show j * 2 + 1 + 1 + 1 = (j * 2 + 1) + 1 + 1 by omega, List.getElem?_cons_succ, List.getElem?_cons_succ]; exact h2⟩
theorem pvs_take (l : List Pt) (m : Nat) : pvs (l.take m) = (pvs l).take (m * 2) := by
  induction l generalizing m with
  | nil => simp [pvs]
  | cons a r ih =>
    cases m with
    | zero => simp [pvs]
    | succ m =>
      rw [List.take_succ_cons, pvs_cons, pvs_cons, ih, show (m + 1) * 2 = m * 2 + 1 + 1 by omega, List.take_succ_cons, List.take_succ_cons]
theorem pvs_one (l : List Pt) : ∀ u ∈ pvs l, u.oneCell' = true := by
  induction l with
  | nil => intro u hu; cases hu
  | cons a r ih =>
    intro u hu
    rw [pvs_cons] at hu
    rcases List.mem_cons.1 hu with rfl | hu
    · rfl
    · rcases List.mem_cons.1 hu with rfl | hu
      · rfl
      · exact ih u hu
def ptsOf (k : Int) (s x : List UInt8) (b o : LN St) : List Pt :=
  if k = 1 then [(s ++ [32, 58, 61, 32] ++ x ++ [32, 59], nil0)]
  else if k = 4 then [([101, 109, 105, 116, 32] ++ x ++ [32, 59], nil0)]
  else if k = 3 then [([119, 104, 105, 108, 101, 32] ++ x ++ [32, 123], b), ([32, 125], nil0)]
  else if k = 2 then (if 0 < o.ks.length then [([105, 102, 32] ++ x ++ [32, 123], b), ([32, 125], nil0), ([32, 101, 108, 115, 101, 32, 123], o), ([32, 125], nil0)]
    else [([105, 102, 32] ++ x ++ [32, 123], b), ([32, 125], nil0)])
  else [([63], nil0)]
def txP (l : List Pt) : List UInt8 := l.flatMap fun x => x.1 ++ tJ x.2.ks
theorem txP_app (a b : List Pt) : txP (a ++ b) = txP a ++ txP b := by unfold txP; rw [List.flatMap_append]
theorem txP_cons (a : Pt) (r : List Pt) : txP (a :: r) = a.1 ++ tJ a.2.ks ++ txP r := rfl
theorem tJ_nil : tJ [] = [] := by rw [tJ]
theorem txP_of (k : Int) (s : List UInt8) (e : T) (b o : LN St) : txP (ptsOf k s (fmtX e) b o) = tSt (.mk k s e b.ks o.ks) := by
  rw [tSt_mk]
  unfold ptsOf
  split
  · simp [txP, tJ_nil]
  · split
    · simp [txP, tJ_nil]
    · split
      · simp [txP, tJ_nil, tB]
      · split
        · split
          · simp [txP, tJ_nil, tB]
          · simp [txP, tJ_nil, tB]
        · simp [txP, tJ_nil]
theorem ptsOf_len (k : Int) (s x : List UInt8) (b o : LN St) : 1 ≤ (ptsOf k s x b o).length ∧ (ptsOf k s x b o).length ≤ 4 := by
  unfold ptsOf
  split
  · simp
  · split
    · simp
    · split
      · simp
      · split
        · split <;> simp
        · simp
theorem ptsOf_in (k : Int) (s x : List UInt8) (b o : LN St) : ∀ y ∈ ptsOf k s x b o, y.2 = b ∨ y.2 = o ∨ y.2 = nil0 := by
  intro y hy
  unfold ptsOf at hy
  split at hy
  · simp only [List.mem_singleton] at hy; subst hy; exact Or.inr (Or.inr rfl)
  · split at hy
    · simp only [List.mem_singleton] at hy; subst hy; exact Or.inr (Or.inr rfl)
    · split at hy
      · simp only [List.mem_cons, List.not_mem_nil, or_false] at hy
        rcases hy with rfl | rfl
        · exact Or.inl rfl
        · exact Or.inr (Or.inr rfl)
      · split at hy
        · split at hy
          · simp only [List.mem_cons, List.not_mem_nil, or_false] at hy
            rcases hy with rfl | rfl | rfl | rfl
            · exact Or.inl rfl
            · exact Or.inr (Or.inr rfl)
            · exact Or.inr (Or.inl rfl)
            · exact Or.inr (Or.inr rfl)
          · simp only [List.mem_cons, List.not_mem_nil, or_false] at hy
            rcases hy with rfl | rfl
            · exact Or.inl rfl
            · exact Or.inr (Or.inr rfl)
        · simp only [List.mem_singleton] at hy; subst hy; exact Or.inr (Or.inr rfl)
theorem ptsOf_kids (k : Int) (s x : List UInt8) (e : T) (b o : LN St) : kdW.cntLL ((ptsOf k s x b o).map fun y => y.2.ks) = kdW.cntLL (kdW.kids (.mk k s e b.ks o.ks)) ∧
    (∀ l ∈ (ptsOf k s x b o).map fun y => y.2.ks, l ∈ kdW.kids (.mk k s e b.ks o.ks) ∨ l = []) ∧ ∀ l ∈ kdW.kids (.mk k s e b.ks o.ks), l ∈ ((ptsOf k s x b o).map fun y => y.2.ks) ∨ l = [] := by
  rw [show kdW.kids (.mk k s e b.ks o.ks) = kidsW (.mk k s e b.ks o.ks) from rfl]
  have z : kdW.cntL ([] : List St) = 0 := rfl
  have zz : kdW.cntLL ([] : List (List St)) = 0 := rfl
  unfold kidsW ptsOf
  by_cases h1 : k = 1
  · subst h1
    refine ⟨by simp [Kd.cntLL_cons, z, zz], ?_, ?_⟩ <;> simp
  · by_cases h4 : k = 4
    · subst h4
      refine ⟨by simp [Kd.cntLL_cons, z, zz], ?_, ?_⟩ <;> simp
    · by_cases h3 : k = 3
      · subst h3
        refine ⟨by simp [Kd.cntLL_cons, z, zz], ?_, ?_⟩ <;> simp
      · by_cases h2 : k = 2
        · subst h2
          by_cases h0 : 0 < o.ks.length
          · simp only [h0]
            refine ⟨by simp [Kd.cntLL_cons, z, zz], ?_, ?_⟩ <;> simp
          · have h00 : o.ks = [] := List.eq_nil_of_length_eq_zero (by omega)
            simp only [h00]
            refine ⟨by simp [Kd.cntLL_cons, z, zz], ?_, ?_⟩ <;> simp
        · simp only [h1, h2, h3, h4]
          refine ⟨by simp [Kd.cntLL_cons, z, zz], ?_, ?_⟩ <;> simp
end Go.Proofs.YtiogceepjffmkaaGreatDoor.Gp
set_option maxRecDepth 100000
namespace Go.Proofs.YtiogceepjffmkaaGreatDoor.L1b
open Go.RowKit Go.Lib Num Com C1
def Pow (w : World) : Prop := Lib.TabIs Tryz.prog w "internal/strconv.uint64pow10" .u64 Lib.pow10Tab
theorem Pow.below {w w' : World} (h : Pow w) (hb : Below w.heap.size w w') : Pow w' := by
  exact var_below h hb
theorem met_tail {P : Program} {W : World} {x : String × DataW Unit} {r : List (String × DataW Unit)} (h : laidMet P (x :: r) W) : laidMet P r W := by
  obtain ⟨n, d⟩ := x
  obtain ⟨ps, ⟨g, t, cs, fuel, p, q, _, _, _, _, hr, rfl⟩, hnd, hrows⟩ := h
  have hs : q.Sublist (MemPlace.row ⟨g, 0, none⟩ cs.size ++ p ++ q) := List.sublist_append_right _ _
  exact ⟨q, hr, hnd.sublist hs, fun b off hp => hrows b off (hs.subset hp)⟩
theorem implFormat (n : Int) (h0 : -9223372036854775808 ≤ n) (h1 : n ≤ 9223372036854775807) (w : World) (hp : Pow w) : Calls Tryz.prog 215 #[.int .i64 n] w fun e w' => e = .returned (.string ⟨(itoa n).toArray⟩) ∧ Below w.heap.size w w' := by
  have hc := hid (Tryz.strconv_Itoa n h0 h1 w hp)
  clear hp
  go_enter Tryz.func215, Tryz.ntmps215
  go_wp2_with fail
  refine hc.out.mono ?_
  rintro e w' ⟨rfl, k, os, rfl⟩
  go_wp2_with fail
  go_ret
  exact ⟨rfl, below_grow _ _ (Nat.le_refl _) _ _⟩
end Go.Proofs.YtiogceepjffmkaaGreatDoor.L1b
set_option maxRecDepth 100000
namespace Go.Proofs.YtiogceepjffmkaaGreatDoor.Gs
open Go.RowKit Go.Lib Go.Sort Com Mem Tr Im Ag Pl Kd
end Go.Proofs.YtiogceepjffmkaaGreatDoor.Gs
set_option maxRecDepth 100000
namespace Go.Proofs.YtiogceepjffmkaaGreatDoor.C1j
open Go.RowKit Go.Lib Com Mem Lh
def jl (sep : List UInt8) : List (List UInt8) → List UInt8
  | [] => []
  | [x] => x
  | x :: y :: r => x ++ sep ++ jl sep (y :: r)
theorem join_jl (sep : List UInt8) : ∀ l : List (List UInt8), Lib.join l sep = jl sep l
  | [] => rfl
  | [x] => by simp [Lib.join, jl, List.intercalate]
  | x :: y :: r => by
    have h := join_jl sep (y :: r)
    unfold Lib.join at h ⊢
    simp only [jl, ← h, List.intercalate, List.intersperse_cons_cons, List.flatten_cons, List.append_assoc]
end Go.Proofs.YtiogceepjffmkaaGreatDoor.C1j
