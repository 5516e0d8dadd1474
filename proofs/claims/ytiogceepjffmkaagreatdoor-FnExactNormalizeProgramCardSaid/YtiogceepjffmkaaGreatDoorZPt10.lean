/- Parts of a statement's text. -/
import Derived.Test.YtiogceepjffmkaaGreatDoorZTz8
set_option maxRecDepth 100000
namespace Go.Proofs.YtiogceepjffmkaaGreatDoor.Gp
open Go.RowKit Go.Lib Go.Sort Com Mem Tr Tk Im Ag Pl Kd Gs Gd
abbrev Pt := List UInt8 × LN St
abbrev nil0 : LN St := ⟨none, 0, []⟩
def pv (x : Pt) : List Value := [sv x.1, slv x.2]
def pvs (l : List Pt) : List Value := l.flatMap pv
theorem pvs_app (a b : List Pt) : pvs (a ++ b) = pvs a ++ pvs b := by unfold pvs; rw [List.flatMap_append]
theorem pvs_cons (a : Pt) (r : List Pt) : pvs (a :: r) = sv a.1 :: slv a.2 :: pvs r := rfl
theorem pvs_at {l : List Pt} {j : Nat} {x : Pt} (h : l[j]? = some x) : (pvs l)[j * 2]? = some (sv x.1) ∧ (pvs l)[j * 2 + 1]? = some (slv x.2) := by
  induction l generalizing j with
  | nil => simp at h
  | cons a r ih =>
    rw [pvs_cons]
    cases j with
    | zero =>
      rw [List.getElem?_cons_zero] at h
      cases h
      exact ⟨rfl, rfl⟩
    | succ j =>
      rw [List.getElem?_cons_succ] at h
      obtain ⟨h1, h2⟩ := ih h
      rw [show (j + 1) * 2 = j * 2 + 1 + 1 by omega]
      exact ⟨by rw [List.getElem?_cons_succ, List.getElem?_cons_succ]; exact h1, by rw [show j * 2 + 1 + 1 + 1 = (j * 2 + 1) + 1 + 1 by omega, List.getElem?_cons_succ, List.getElem?_cons_succ]; exact h2⟩
theorem pvs_take (l : List Pt) (m : Nat) : pvs (l.take m) = (pvs l).take (m * 2) := by
  induction l generalizing m with
  | nil => simp [pvs]
  | cons a r ih =>
    cases m with
    | zero => simp [pvs]
    | succ m =>
      rw [List.take_succ_cons, pvs_cons, pvs_cons, ih, show (m + 1) * 2 = m * 2 + 1 + 1 by omega, List.take_succ_cons, List.take_succ_cons]
theorem pvs_one (l : List Pt) : ∀ u ∈ pvs l, u.oneCell' = true := by
  induction l with
  | nil => intro u hu; cases hu
  | cons a r ih =>
    intro u hu
    rw [pvs_cons] at hu
    rcases List.mem_cons.1 hu with rfl | hu
    · rfl
    · rcases List.mem_cons.1 hu with rfl | hu
      · rfl
      · exact ih u hu
def ptsOf (k : Int) (s x : List UInt8) (b o : LN St) : List Pt :=
  if k = 1 then [(s ++ [32, 58, 61, 32] ++ x ++ [32, 59], nil0)]
  else if k = 4 then [([101, 109, 105, 116, 32] ++ x ++ [32, 59], nil0)]
  else if k = 3 then [([119, 104, 105, 108, 101, 32] ++ x ++ [32, 123], b), ([32, 125], nil0)]
  else if k = 2 then (if 0 < o.ks.length then [([105, 102, 32] ++ x ++ [32, 123], b), ([32, 125], nil0), ([32, 101, 108, 115, 101, 32, 123], o), ([32, 125], nil0)]
    else [([105, 102, 32] ++ x ++ [32, 123], b), ([32, 125], nil0)])
  else [([63], nil0)]
def txP (l : List Pt) : List UInt8 := l.flatMap fun x => x.1 ++ tJ x.2.ks
theorem txP_app (a b : List Pt) : txP (a ++ b) = txP a ++ txP b := by unfold txP; rw [List.flatMap_append]
theorem txP_cons (a : Pt) (r : List Pt) : txP (a :: r) = a.1 ++ tJ a.2.ks ++ txP r := rfl
theorem tJ_nil : tJ [] = [] := by rw [tJ]
theorem txP_of (k : Int) (s : List UInt8) (e : T) (b o : LN St) : txP (ptsOf k s (fmtX e) b o) = tSt (.mk k s e b.ks o.ks) := by
  rw [tSt_mk]
  unfold ptsOf
  split
  · simp [txP, tJ_nil]
  · split
    · simp [txP, tJ_nil]
    · split
      · simp [txP, tJ_nil, tB]
      · split
        · split
          · simp [txP, tJ_nil, tB]
          · simp [txP, tJ_nil, tB]
        · simp [txP, tJ_nil]
theorem ptsOf_len (k : Int) (s x : List UInt8) (b o : LN St) : 1 ≤ (ptsOf k s x b o).length ∧ (ptsOf k s x b o).length ≤ 4 := by
  unfold ptsOf
  split
  · simp
  · split
    · simp
    · split
      · simp
      · split
        · split <;> simp
        · simp
theorem ptsOf_in (k : Int) (s x : List UInt8) (b o : LN St) : ∀ y ∈ ptsOf k s x b o, y.2 = b ∨ y.2 = o ∨ y.2 = nil0 := by
  intro y hy
  unfold ptsOf at hy
  split at hy
  · simp only [List.mem_singleton] at hy; subst hy; exact Or.inr (Or.inr rfl)
  · split at hy
    · simp only [List.mem_singleton] at hy; subst hy; exact Or.inr (Or.inr rfl)
    · split at hy
      · simp only [List.mem_cons, List.not_mem_nil, or_false] at hy
        rcases hy with rfl | rfl
        · exact Or.inl rfl
        · exact Or.inr (Or.inr rfl)
      · split at hy
        · split at hy
          · simp only [List.mem_cons, List.not_mem_nil, or_false] at hy
            rcases hy with rfl | rfl | rfl | rfl
            · exact Or.inl rfl
            · exact Or.inr (Or.inr rfl)
            · exact Or.inr (Or.inl rfl)
            · exact Or.inr (Or.inr rfl)
          · simp only [List.mem_cons, List.not_mem_nil, or_false] at hy
            rcases hy with rfl | rfl
            · exact Or.inl rfl
            · exact Or.inr (Or.inr rfl)
        · simp only [List.mem_singleton] at hy; subst hy; exact Or.inr (Or.inr rfl)
theorem ptsOf_kids (k : Int) (s x : List UInt8) (e : T) (b o : LN St) : kdW.cntLL ((ptsOf k s x b o).map fun y => y.2.ks) = kdW.cntLL (kdW.kids (.mk k s e b.ks o.ks)) ∧
    (∀ l ∈ (ptsOf k s x b o).map fun y => y.2.ks, l ∈ kdW.kids (.mk k s e b.ks o.ks) ∨ l = []) ∧ ∀ l ∈ kdW.kids (.mk k s e b.ks o.ks), l ∈ ((ptsOf k s x b o).map fun y => y.2.ks) ∨ l = [] := by
  rw [show kdW.kids (.mk k s e b.ks o.ks) = kidsW (.mk k s e b.ks o.ks) from rfl]
  have z : kdW.cntL ([] : List St) = 0 := rfl
  have zz : kdW.cntLL ([] : List (List St)) = 0 := rfl
  unfold kidsW ptsOf
  by_cases h1 : k = 1
  · subst h1
    refine ⟨by simp [Kd.cntLL_cons, z, zz], ?_, ?_⟩ <;> simp
  · by_cases h4 : k = 4
    · subst h4
      refine ⟨by simp [Kd.cntLL_cons, z, zz], ?_, ?_⟩ <;> simp
    · by_cases h3 : k = 3
      · subst h3
        refine ⟨by simp [Kd.cntLL_cons, z, zz], ?_, ?_⟩ <;> simp
      · by_cases h2 : k = 2
        · subst h2
          by_cases h0 : 0 < o.ks.length
          · simp only [h0]
            refine ⟨by simp [Kd.cntLL_cons, z, zz], ?_, ?_⟩ <;> simp
          · have h00 : o.ks = [] := List.eq_nil_of_length_eq_zero (by omega)
            simp only [h00]
            refine ⟨by simp [Kd.cntLL_cons, z, zz], ?_, ?_⟩ <;> simp
        · simp only [h1, h2, h3, h4]
          refine ⟨by simp [Kd.cntLL_cons, z, zz], ?_, ?_⟩ <;> simp
end Go.Proofs.YtiogceepjffmkaaGreatDoor.Gp
set_option maxRecDepth 100000
namespace Go.Proofs.YtiogceepjffmkaaGreatDoor.Gx
open Go.RowKit Go.Lib Go.Sort Com Mem Tr Im Ag Pl Kd
end Go.Proofs.YtiogceepjffmkaaGreatDoor.Gx
set_option maxRecDepth 100000
namespace Go.Proofs.YtiogceepjffmkaaGreatDoor.Tr
open Go.RowKit Go.Lib Go.Sort Com Mem YtiogceepjffmkaaGreatDoor.Os Pl Kd Gx
theorem two_box (w : World) (k n : Int) (s : List UInt8) (A : Option Addr) (l c : Nat) (t : T) (h : Ex (pln w) w.heap.size (nv k n s A l c) t) :
    Below w.heap.size w ((w.alloc (.cells #[.int .i64 k, .int .i64 n, sv s, .slice A l c] 58)).alloc (.cells #[.int .i64 k, .int .i64 n, sv s, .slice A l c] 58)) ∧
    LA (pln ((w.alloc (.cells #[.int .i64 k, .int .i64 n, sv s, .slice A l c] 58)).alloc (.cells #[.int .i64 k, .int .i64 n, sv s, .slice A l c] 58))) ((w.alloc (.cells #[.int .i64 k, .int .i64 n, sv s, .slice A l c] 58)).alloc (.cells #[.int .i64 k, .int .i64 n, sv s, .slice A l c] 58)).heap.size ⟨some ⟨w.heap.size + 1, 0, none⟩, 1, [t]⟩ := by
  have b1 := box_below w (.cells #[.int .i64 k, .int .i64 n, sv s, .slice A l c] 58)
  have b2 := b1.trans ((box_below _ (.cells #[.int .i64 k, .int .i64 n, sv s, .slice A l c] 58)).mono b1.size)
  have hB := Blk.new (w.alloc (.cells #[.int .i64 k, .int .i64 n, sv s, .slice A l c] 58)) 58 [.int .i64 k, .int .i64 n, sv s, .slice A l c]
  rw [size_alloc'] at hB
  exact ⟨b2, la_one hB (ex_go h b2)⟩
theorem cntL_one (t : T) : kdX.cntL [t] = cntT t := by simp [Kd.cntL]; rfl
end Go.Proofs.YtiogceepjffmkaaGreatDoor.Tr
