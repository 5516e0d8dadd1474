/- Parts of a statement's text. -/
import Derived.Test.YtjglllpemhkkdaaGreatDoorZPss
import Derived.Test.YtjglllpemhkkdaaGreatDoorZKs
import Derived.Test.YtjglllpemhkkdaaGreatDoorZCom
import Derived.RangeFuncNested
import Derived.RangeFuncBound
import Derived.RangeFuncCalls
import Derived.RangeFuncLeaves
import Derived.RangeFuncBox
import Derived.Shelf.Abstract
import Derived.Shelf.RegionOpen
import Derived.WalkKit
import Derived.OwnWalkIn
import Derived.TacticsInMore
import Derived.LoopNIn
import Derived.LoopIn
import Derived.Maps.OwnIn
import Derived.Maps.AppendAt
set_option maxRecDepth 100000
namespace Go.Proofs.YtjglllpemhkkdaaGreatDoor.Gp
open Go.RowKit Go.Lib Go.Sort Com Mem Tr Tk Im Ag Pl Kd Gs Gd

abbrev Pt := List UInt8 × LN St
abbrev nil0 : LN St := ⟨none, 0, []⟩
def pv (x : Pt) : List Value := [sv x.1, slv x.2]
def pvs (l : List Pt) : List Value := l.flatMap pv
theorem pvs_app (a b : List Pt) : pvs (a ++ b) = pvs a ++ pvs b := by unfold pvs; rw [List.flatMap_append]
theorem pvs_cons (a : Pt) (r : List Pt) : pvs (a :: r) = sv a.1 :: slv a.2 :: pvs r := rfl
theorem pvs_at {l : List Pt} {j : Nat} {x : Pt} (h : l[j]? = some x) : (pvs l)[j * 2]? = some (sv x.1) ∧ (pvs l)[j * 2 + 1]? = some (slv x.2) := by
  induction l generalizing j with
  | nil => simp at h
  | cons a r ih =>
    rw [pvs_cons]
    cases j with
    | zero =>
      rw [List.getElem?_cons_zero] at h
      cases h
      exact ⟨rfl, rfl⟩
    | succ j =>
      rw [List.getElem?_cons_succ] at h
      obtain ⟨h1, h2⟩ := ih h
      rw [show (j + 1) * 2 = j * 2 + 1 + 1 by omega]
      exact ⟨by rw [List.getElem?_cons_succ, List.getElem?_cons_succ]; exact h1, by rw [show j * 2 + 1 + 1 + 1 = (j * 2 + 1) + 1 + 1 by omega, List.getElem?_cons_succ, List.getElem?_cons_succ]; exact h2⟩
theorem pvs_take (l : List Pt) (m : Nat) : pvs (l.take m) = (pvs l).take (m * 2) := by
  induction l generalizing m with
  | nil => simp [pvs]
  | cons a r ih =>
    cases m with
    | zero => simp [pvs]
    | succ m =>
      rw [List.take_succ_cons, pvs_cons, pvs_cons, ih, show (m + 1) * 2 = m * 2 + 1 + 1 by omega, List.take_succ_cons, List.take_succ_cons]
theorem pvs_one (l : List Pt) : ∀ u ∈ pvs l, u.oneCell' = true := by
  induction l with
  | nil => intro u hu; cases hu
  | cons a r ih =>
    intro u hu
    rw [pvs_cons] at hu
    rcases List.mem_cons.1 hu with rfl | hu
    · rfl
    · rcases List.mem_cons.1 hu with rfl | hu
      · rfl
      · exact ih u hu
def ptsOf (k : Int) (s x : List UInt8) (b o : LN St) : List Pt :=
  if k = 1 then [(s ++ [32, 58, 61, 32] ++ x ++ [32, 59], nil0)]
  else if k = 4 then [([101, 109, 105, 116, 32] ++ x ++ [32, 59], nil0)]
  else if k = 3 then [([119, 104, 105, 108, 101, 32] ++ x ++ [32, 123], b), ([32, 125], nil0)]
  else if k = 2 then (if 0 < o.ks.length then [([105, 102, 32] ++ x ++ [32, 123], b), ([32, 125], nil0), ([32, 101, 108, 115, 101, 32, 123], o), ([32, 125], nil0)]
    else [([105, 102, 32] ++ x ++ [32, 123], b), ([32, 125], nil0)])
  else [([63], nil0)]
def txP (l : List Pt) : List UInt8 := l.flatMap fun x => x.1 ++ tJ x.2.ks
theorem txP_app (a b : List Pt) : txP (a ++ b) = txP a ++ txP b := by unfold txP; rw [List.flatMap_append]
theorem txP_cons (a : Pt) (r : List Pt) : txP (a :: r) = a.1 ++ tJ a.2.ks ++ txP r := rfl
theorem tJ_nil : tJ [] = [] := by rw [tJ]
theorem txP_of (k : Int) (s : List UInt8) (e : T) (b o : LN St) : txP (ptsOf k s (fmtX e) b o) = tSt (.mk k s e b.ks o.ks) := by
  rw [tSt_mk]
  unfold ptsOf
  split
  · simp [txP, tJ_nil]
  · split
    · simp [txP, tJ_nil]
    · split
      · simp [txP, tJ_nil, tB]
      · split
        · split
          · simp [txP, tJ_nil, tB]
          · simp [txP, tJ_nil, tB]
        · simp [txP, tJ_nil]
theorem ptsOf_len (k : Int) (s x : List UInt8) (b o : LN St) : 1 ≤ (ptsOf k s x b o).length ∧ (ptsOf k s x b o).length ≤ 4 := by
  unfold ptsOf
  split
  · simp
  · split
    · simp
    · split
      · simp
      · split
        · split <;> simp
        · simp
theorem ptsOf_in (k : Int) (s x : List UInt8) (b o : LN St) : ∀ y ∈ ptsOf k s x b o, y.2 = b ∨ y.2 = o ∨ y.2 = nil0 := by
  intro y hy
  unfold ptsOf at hy
  split at hy
  · simp only [List.mem_singleton] at hy; subst hy; exact Or.inr (Or.inr rfl)
  · split at hy
    · simp only [List.mem_singleton] at hy; subst hy; exact Or.inr (Or.inr rfl)
    · split at hy
      · simp only [List.mem_cons, List.not_mem_nil, or_false] at hy
        rcases hy with rfl | rfl
        · exact Or.inl rfl
        · exact Or.inr (Or.inr rfl)
      · split at hy
        · split at hy
          · simp only [List.mem_cons, List.not_mem_nil, or_false] at hy
            rcases hy with rfl | rfl | rfl | rfl
            · exact Or.inl rfl
            · exact Or.inr (Or.inr rfl)
            · exact Or.inr (Or.inl rfl)
            · exact Or.inr (Or.inr rfl)
          · simp only [List.mem_cons, List.not_mem_nil, or_false] at hy
            rcases hy with rfl | rfl
            · exact Or.inl rfl
            · exact Or.inr (Or.inr rfl)
        · simp only [List.mem_singleton] at hy; subst hy; exact Or.inr (Or.inr rfl)
theorem ptsOf_kids (k : Int) (s x : List UInt8) (e : T) (b o : LN St) : kdW.cntLL ((ptsOf k s x b o).map fun y => y.2.ks) = kdW.cntLL (kdW.kids (.mk k s e b.ks o.ks)) ∧
    (∀ l ∈ (ptsOf k s x b o).map fun y => y.2.ks, l ∈ kdW.kids (.mk k s e b.ks o.ks) ∨ l = []) ∧ ∀ l ∈ kdW.kids (.mk k s e b.ks o.ks), l ∈ ((ptsOf k s x b o).map fun y => y.2.ks) ∨ l = [] := by
  rw [show kdW.kids (.mk k s e b.ks o.ks) = kidsW (.mk k s e b.ks o.ks) from rfl]
  have z : kdW.cntL ([] : List St) = 0 := rfl
  have zz : kdW.cntLL ([] : List (List St)) = 0 := rfl
  unfold kidsW ptsOf
  by_cases h1 : k = 1
  · subst h1
    refine ⟨by simp [Kd.cntLL_cons, z, zz], ?_, ?_⟩ <;> simp
  · by_cases h4 : k = 4
    · subst h4
      refine ⟨by simp [Kd.cntLL_cons, z, zz], ?_, ?_⟩ <;> simp
    · by_cases h3 : k = 3
      · subst h3
        refine ⟨by simp [Kd.cntLL_cons, z, zz], ?_, ?_⟩ <;> simp
      · by_cases h2 : k = 2
        · subst h2
          by_cases h0 : 0 < o.ks.length
          · simp only [h0]
            refine ⟨by simp [Kd.cntLL_cons, z, zz], ?_, ?_⟩ <;> simp
          · have h00 : o.ks = [] := List.eq_nil_of_length_eq_zero (by omega)
            simp only [h00]
            refine ⟨by simp [Kd.cntLL_cons, z, zz], ?_, ?_⟩ <;> simp
        · simp only [h1, h2, h3, h4]
          refine ⟨by simp [Kd.cntLL_cons, z, zz], ?_, ?_⟩ <;> simp
open Go.Shelf

attribute [local go_sem] Oper.semAt_some

abbrev PT10 : TypeId := 184
abbrev SP10 : TypeId := 180
theorem infoP10 : (Tryz.prog.info? PT10).map (fun i => (i.zero, i.size, i.bytes)) = some (some (.agg #[.string .empty, .slice none 0 0]), 2, 40) := by kernel_rfl
def upto {α : Type} (f : Nat → α) (k : Nat) : List α := (List.range k).map f
theorem upto_succ {α : Type} (f : Nat → α) (k : Nat) : upto f (k + 1) = upto f k ++ [f k] := by simp [upto, List.range_succ]
theorem upto_length {α : Type} (f : Nat → α) (k : Nat) : (upto f k).length = k := by simp [upto]
def bkAt (ps : List Pt) (j : Nat) : Nat × Pt := (ps.length - 1 - j, ps[ps.length - 1 - j]?.getD ([], nil0))
theorem bk_all (ps : List Pt) : (upto (bkAt ps) ps.length).map (·.2) = ps.reverse := by
  apply List.ext_getElem
  · simp [upto]
  · intro i h1 h2
    have h3 : i < ps.length := by simpa using h2
    simp [upto, bkAt, List.getElem?_eq_getElem (show ps.length - 1 - i < ps.length by omega), List.getElem_reverse]
def Kp10 (gp Bs : Nat) (A B : World) : Prop := ∀ k, k = gp ∨ k = Bs → B.heap[k]? = A.heap[k]?
def PtsAt (W : World) (gp : Nat) (ps : List Pt) : Prop := ∀ j x, ps[j]? = some x → W.cell? ⟨gp, j * 2, none⟩ = some (sv x.1) ∧ W.cell? ⟨gp, j * 2 + 1, none⟩ = some (slv x.2)
theorem PtsAt.keep {W W' : World} {gp : Nat} {ps : List Pt} (h : PtsAt W gp ps) (hk : W'.heap[gp]? = W.heap[gp]?) : PtsAt W' gp ps := fun j x hx => by
  obtain ⟨h1, h2⟩ := h j x hx
  exact ⟨(World.cell?_of_block (a := ⟨gp, j * 2, none⟩) hk).trans h1, (World.cell?_of_block (a := ⟨gp, j * 2 + 1, none⟩) hk).trans h2⟩
set_option maxRecDepth 100000 in
set_option maxHeartbeats 4000000 in
theorem back1_in (F : Fence) (n : Nat) (hf : F.fn 225) (hro : F.round = none) (hn : 1 ≤ n) (l Bs gp cap : Nat) (ps : List Pt) (hps : ps.length ≤ 1000) (J Jx : List (Nat × Pt) → World → Prop)
    (hY : ∀ pre x W, J pre W → pre.length < ps.length → YieldAt F (n - 1) Tryz.prog l #[.int .i64 (x.1 : Int), .agg #[sv x.2.1, slv x.2.2]] W fun e W' =>
      (e = .returned (.bool true) ∧ J (pre ++ [x]) W' ∧ Kp10 gp Bs W W') ∨ (e = .returned (.bool false) ∧ Jx (pre ++ [x]) W'))
    (W : World) (hBs : Boxed W Bs SP10 (.slice (some ⟨gp, 0, none⟩) ps.length cap)) (hc : PtsAt W gp ps) (h0 : J [] W) :
    CallsIn F n Tryz.prog 225 #[.func (.yield l) #[] #[], .pointer (some ⟨Bs, 0, none⟩)] W fun e W' => (∃ v, e = .returned v) ∧
      ((∃ ys, ys = upto (bkAt ps) ps.length ∧ J ys W') ∨ (∃ pre, True ∧ Jx pre W')) := by
  refine callsIn_of_wp Tryz.func225 rfl hf ?_ hro
  simp only [Tryz.ntmps225, List.size_toArray, List.length_cons, List.length_nil, Nat.reduceAdd, Nat.reduceSub, Array.replicate_succ, Array.replicate_zero, List.push_toArray, List.append_toArray, List.nil_append, List.cons_append]
  generalize hN : ps.length = N at *
  have hx0 := hBs.cell
  have q0 : IntKind.i64.wrap ((N : Int) - 1) = (N : Int) - 1 := IntWalk.i64_in _ (by omega)
  gi_wp2
  gi_loopw [3] (fun i wr => ∃ m : Nat, m ≤ N ∧ i = .int .i64 ((m : Int) - 1) ∧ J (upto (bkAt ps) (N - m)) wr ∧ Kp10 gp Bs W wr)
    (fun i _ => (Go.RowKit.intOf i + 1).toNat)
  case atStart => exact ⟨N, Nat.le_refl _, rfl, by rw [Nat.sub_self]; exact h0, fun k _ => rfl⟩
  case round =>
    clear hx0 q0
    obtain ⟨m, hm, rfl, hJs, hk⟩ := hrel
    have hx0 : wr.cell? ⟨Bs, 0, none⟩ = some (.slice (some ⟨gp, 0, none⟩) N cap) := (World.cell?_of_block (a := ⟨Bs, 0, none⟩) (hk Bs (Or.inr rfl))).trans hBs.cell
    cases m with
    | zero =>
      have t1 : decide (0 ≤ ((0 : Nat) : Int) - 1) = false := decide_eq_false (by omega)
      gi_wp2
      go_end0
      exact ⟨⟨_, rfl⟩, .inl ⟨_, rfl, by rw [Nat.sub_zero] at hJs; exact hJs⟩⟩
    | succ j =>
      have hj : j < ps.length := by omega
      obtain ⟨x, hx⟩ : ∃ x, ps[j]? = some x := ⟨_, List.getElem?_eq_getElem hj⟩
      obtain ⟨c0, c1⟩ := (hc.keep (hk gp (Or.inl rfl))) j x hx
      have hbk : bkAt ps (N - (j + 1)) = (j, x) := by
        unfold bkAt
        rw [hN, show N - 1 - (N - (j + 1)) = j by omega, hx]; rfl
      have e1 : (((j + 1 : Nat) : Int)) - 1 = (j : Int) := by omega
      rw [e1]
      have hy0 := hY _ (j, x) wr hJs (by rw [upto_length]; omega)
      rw [← hbk, ← upto_succ, show N - (j + 1) + 1 = N - j by omega, hbk] at hy0
      obtain ⟨fn, tmps, assign, body, hy, hR⟩ := hy0
      dsimp only at hy
      have t1 : decide (0 ≤ (j : Int)) = true := decide_eq_true (by omega)
      have t2 : (j : Int) < (N : Int) := by omega
      have q0 : IntKind.i64.wrap ((j : Int) - 1) = (j : Int) - 1 := IntWalk.i64_in _ (by omega)
      gi_wp2
      refine hR.mono ?_
      rintro e W3 (⟨rfl, hJ3, hk3⟩ | ⟨rfl, hJx3⟩)
      · gi_wp2
        go_roundw
        case rel => exact ⟨j, by omega, rfl, hJ3, fun k h => (hk3 k h).trans (hk k h)⟩
        case measure => simp [Go.RowKit.intOf]
      · gi_wp2
        refine bodyPost_ret (results_none rfl _ _ _) rfl ?_
        exact ⟨⟨_, rfl⟩, .inr ⟨_, trivial, hJx3⟩⟩
theorem back_stops (F : Fence) (n : Nat) (hf : F.fn 225) (hro : F.round = none) (hn : 1 ≤ n) (Bs gp cap : Nat) (ps : List Pt) (hps : ps.length ≤ 1000) (w : World) (hBs : Boxed w Bs SP10 (.slice (some ⟨gp, 0, none⟩) ps.length cap)) (hg : gp < w.heap.size) (hc : PtsAt w gp ps) :
    SeqStopsK F n Tryz.prog 225 #[.pointer (some ⟨Bs, 0, none⟩)] (fun x : Nat × Pt => #[Value.int .i64 (x.1 : Int), .agg #[sv x.2.1, slv x.2.2]]) (Kp10 gp Bs) (fun ys => ys = upto (bkAt ps) ps.length) (fun _ => True) ps.length w := fun l J Jx W hW _ _ hY h0 =>
  back1_in F n hf hro hn l Bs gp cap ps hps J Jx hY W ((hW.block Bs hBs.lt).trans hBs) (hc.keep (hW.block gp hg)) h0
set_option maxHeartbeats 1000000 in
theorem back_in (F : Fence) (n : Nat) (h5 : F.fn 181) (hro : F.round = none) (a : Option Addr) (len cap : Nat) (w : World) :
    CallsIn F n Tryz.prog 181 #[.slice a len cap] w fun e w' => e = .returned (.func (.func 225) #[] #[.pointer (some ⟨w.heap.size, 0, none⟩)]) ∧ w' = w.alloc (.cells #[.slice a len cap] SP10) := by
  refine callsIn_of_wp Tryz.func181 rfl h5 ?_ hro
  simp only [Tryz.ntmps181, List.size_toArray, List.length_cons, List.length_nil, Nat.reduceAdd, Nat.reduceSub, Array.replicate_succ, Array.replicate_zero, List.push_toArray, List.append_toArray, List.nil_append, List.cons_append]
  gi_wp2
  go_ret
  exact ⟨rfl, rfl⟩
open YtjglllpemhkkdaaGreatDoor.Os

attribute [local go_sem] Oper.semAt_some

abbrev ptsP (pre : List (Nat × Pt)) : List Pt := pre.map (·.2)
def BkI (w : World) (v : Value) (lo B Bs : Nat) (stk : List Pt) (pre : List (Nat × Pt)) (W : World) : Prop :=
  (∃ v', Boxed W B SP10 v' ∧ W.ownsRow lo PT10 2 v' (stk ++ ptsP pre).length (pvs (stk ++ ptsP pre)) ∧ (v'.ownBlock = v.ownBlock ∨ ∃ g, w.heap.size ≤ g ∧ v'.ownBlock = some g)) ∧ (w.grownBy W v.ownBlock ∧ ∃ u, Boxed W Bs SP10 u)
theorem bkI_own (w : World) (v : Value) (lo B Bs b0 : Nat) (stk : List Pt) (hb : w.heap.size ≤ b0) : OwnFrom b0 (BkI w v lo B Bs stk) := by
  rintro s X Y row ⟨h1, h2, u, h3⟩ hg hr
  refine ⟨holdsRow_own lo B SP10 PT10 2 (fun pre => (stk ++ ptsP pre).length) (fun pre => pvs (stk ++ ptsP pre)) (fun _ v' => v'.ownBlock = v.ownBlock ∨ ∃ g, w.heap.size ≤ g ∧ v'.ownBlock = some g) s X Y row h1 hg fun r e => (hr r e).2, ?_, u, boxed_own Bs SP10 (fun _ : Unit => u) () X Y row h3 hg fun r e => (hr r e).2⟩
  exact ⟨hg.os.trans h2.os, hg.tape.trans h2.tape, hg.output.trans h2.output, Nat.le_trans h2.size hg.size, fun k hk hne => (hg.block k (Nat.lt_of_lt_of_le hk h2.size) fun e => by have := (hr k e.symm).1; omega).trans (h2.block k hk hne)⟩
def BkA (v : Value) (a : Option Addr) (len cap B Bs : Nat) (x : Nat × Pt) (a' : Act) (W : World) : Prop := ∃ Bx, Bs < Bx ∧ Blk W Bx PT10 [sv x.2.1, slv x.2.2] ∧
  a' = { tmps := #[v, .slice a len cap, .pointer (some ⟨B, 0, none⟩), undef, .slice none 0 0, undef, .pointer (some ⟨Bx, 0, none⟩), .slice a len cap, .func (.func 225) #[] #[.pointer (some ⟨Bs, 0, none⟩)], .int .i64 (x.1 : Int), .agg #[sv x.2.1, slv x.2.2], undef, undef, undef, undef, undef], defers := [] }
theorem own_form10 {w : World} {lo e m n : Nat} {v : Value} {xs : List Value} (h : w.ownsRow lo e n v m xs) : ∃ A c, v = .slice A m c := by
  rcases h.2 with ⟨rfl, rfl⟩ | ⟨g, cap, cur, rfl, _⟩
  · exact ⟨none, 0, rfl⟩
  · exact ⟨_, _, rfl⟩
theorem new_cells10 (W : World) (cs : List Value) (ty : TypeId) : ∀ j u, cs[j]? = some u → (W.alloc (.cells cs.toArray ty)).cell? ((⟨W.heap.size, 0, none⟩ : Addr).add j) = some u := by
  intro j u hj
  rw [add_zero, (Blk.new W ty cs).cell]; exact hj
theorem bkA_own (v : Value) (a : Option Addr) (len cap B Bs b0 : Nat) (x : Nat × Pt) (a' : Act) : OwnFrom b0 (fun (_ : Unit) W => BkA v a len cap B Bs x a' W) := by
  rintro s X Y row ⟨Bx, h1, hB, e⟩ hg hr
  refine ⟨Bx, h1, (hg.block Bx hB.lt fun e' => ?_).trans hB, e⟩
  obtain ⟨_, o, ho, hc⟩ := hr Bx e'.symm
  rw [show X.heap[Bx]? = _ from hB] at ho
  cases ho
  cases hc
theorem bk_next {w W w1 : World} {v v' v9 : Value} {lo Bs gp : Nat} {stk : List Pt} {pre : List (Nat × Pt)} {x : Nat × Pt} {u : Value} (hlo : lo ≤ w.heap.size) (hBs : Bs = w.heap.size + 1) (hg : gp < w.heap.size) (hgv : v.ownBlock ≠ some gp) (hv : Boxed W w.heap.size SP10 v') (hrow : W.ownsRow lo PT10 2 v' (stk ++ ptsP pre).length (pvs (stk ++ ptsP pre)))
    (hown : v'.ownBlock = v.ownBlock ∨ ∃ g, w.heap.size ≤ g ∧ v'.ownBlock = some g) (hgb : w.grownBy W v.ownBlock) (hu : Boxed W Bs SP10 u) {tmp : Obj} (h9 : w1.ownsRow lo PT10 2 v9 ((stk ++ ptsP pre).length + 1) (pvs (stk ++ ptsP pre) ++ [sv x.2.1, slv x.2.2])) (hgrow : (W.alloc tmp).grownBy w1 v'.ownBlock)
    (hat : v9.ownBlock = v'.ownBlock ∨ v9.ownBlock = some (W.alloc tmp).heap.size) :
    Boxed w1 w.heap.size SP10 v' ∧ KeepsOthers W (w1.setCell ⟨w.heap.size, 0, none⟩ v9) ∧ Kp10 gp Bs W (w1.setCell ⟨w.heap.size, 0, none⟩ v9) ∧ BkI w v lo w.heap.size Bs stk (pre ++ [x]) (w1.setCell ⟨w.heap.size, 0, none⟩ v9) := by
  have hsz := hgb.size
  obtain ⟨h1, h2, h3, h4, -⟩ := hv.appended (by decide) hrow (Nat.le_trans hlo hsz) hlo h9 hgrow
  have hne : ∀ k, k ≠ w.heap.size → (w1.setCell ⟨w.heap.size, 0, none⟩ v9).heap[k]? = w1.heap[k]? := fun k hk => heap_setCell_other _ _ _ _ hk
  have hgg := gb_trans (World.grownBy_alloc W tmp v'.ownBlock) hgrow
  have hub := hu.not_row (show SP10 ≠ PT10 by decide) hrow
  have hgpb : some gp ≠ v'.ownBlock := fun e => by
    rcases hown with h | ⟨g, h5, h6⟩
    · rw [h] at e; exact hgv e.symm
    · rw [h6] at e; cases e; omega
  have hub1 : Boxed (w1.setCell ⟨w.heap.size, 0, none⟩ v9) Bs SP10 u := (hne Bs (by omega)).trans (hu.kept hgg hub)
  refine ⟨h1, h4, fun k hk => ?_, ⟨v9, h2, ?_, ?_⟩, ⟨?_, ?_, ?_, ?_, fun k hk hkn => ?_⟩, u, hub1⟩
  · rcases hk with rfl | rfl
    · exact (hne _ (by omega)).trans (hgg.block _ (by omega) hgpb)
    · exact (hne _ (by omega)).trans (hgg.block _ hu.lt hub)
  · have e1 : stk ++ ptsP (pre ++ [x]) = (stk ++ ptsP pre) ++ [x.2] := by unfold ptsP; rw [List.map_append, ← List.append_assoc]; rfl
    rw [e1, pvs_app, List.length_append, List.length_singleton]
    exact h3
  · rcases hat with h | h
    · rw [h]; exact hown
    · exact Or.inr ⟨_, by rw [size_alloc']; omega, h⟩
  · exact hgg.os.trans hgb.os
  · exact hgg.tape.trans hgb.tape
  · exact hgg.output.trans hgb.output
  · rw [show (w1.setCell ⟨w.heap.size, 0, none⟩ v9).heap.size = w1.heap.size by simp [World.setCell]]
    exact Nat.le_trans hsz hgg.size
  · refine ((hne k (by omega)).trans (hgg.block k (by omega) fun e => ?_)).trans (hgb.block k hk hkn)
    rcases hown with h | ⟨g, h5, h6⟩
    · rw [h] at e; exact hkn e
    · rw [h6] at e; cases e; omega
set_option maxRecDepth 100000 in
set_option maxHeartbeats 8000000 in
theorem iback (v : Value) (lo : Nat) (stk : List Pt) (gp cap : Nat) (ps : List Pt) (hps : ps.length ≤ 1000) (hst : stk.length ≤ 1000000000000) (w : World) (hlo : lo ≤ w.heap.size) (ho : w.ownsRow lo PT10 2 v stk.length (pvs stk)) (hg : gp < w.heap.size) (hgv : v.ownBlock ≠ some gp) (hc : PtsAt w gp ps) :
    Calls Tryz.prog 129 #[v, .slice (some ⟨gp, 0, none⟩) ps.length cap] w fun e w' => ∃ v', e = .returned v' ∧ w'.ownsRow lo PT10 2 v' (stk ++ ps.reverse).length (pvs (stk ++ ps.reverse)) ∧ (v'.ownBlock = v.ownBlock ∨ ∃ g, w.heap.size ≤ g ∧ v'.ownBlock = some g) ∧ w.grownBy w' v.ownBlock := by
  obtain ⟨A, c, hvf⟩ := own_form10 ho
  have hev : #[v, .slice (some ⟨gp, 0, none⟩) ps.length cap] = #[Value.slice A stk.length c, .slice (some ⟨gp, 0, none⟩) ps.length cap] := by rw [hvf]
  rw [hev]
  refine (callsIn_wide (n := 6)).1 ?_
  obtain ⟨i0, hi, hz0, hz1, hz2⟩ := info_parts infoP10
  refine callsIn_of_wp_marks Tryz.func129 rfl trivial ?_ rfl
  simp only [Tryz.ntmps129, List.size_toArray, List.length_cons, List.length_nil, Nat.reduceAdd, Nat.reduceSub, Array.replicate_succ, Array.replicate_zero, List.push_toArray, List.append_toArray, List.nil_append, List.cons_append]
  gi_wp2
  refine ⟨trivial, (back_in _ _ trivial rfl _ _ _ _).mono ?_⟩
  rintro e w' ⟨rfl, rfl⟩
  gi_wp2
  have bO := Boxed.new w SP10 (.slice A stk.length c)
  have bN := Boxed.new (w.alloc (.cells #[.slice A stk.length c] SP10)) SP10 (.slice (some ⟨gp, 0, none⟩) ps.length cap)
  rw [World.size_alloc] at bN
  have gW := gb_trans (World.grownBy_alloc w (.cells #[.slice A stk.length c] SP10) v.ownBlock) (World.grownBy_alloc _ (.cells #[.slice (some ⟨gp, 0, none⟩) ps.length cap] SP10) v.ownBlock)
  have hN : ((w.alloc (.cells #[.slice A stk.length c] SP10)).alloc (.cells #[.slice (some ⟨gp, 0, none⟩) ps.length cap] SP10)).heap.size = w.heap.size + 2 := by rw [World.size_alloc, World.size_alloc]
  have hcW := hc.keep (gW.block gp hg fun e => hgv e.symm)
  have hoW : ((w.alloc (.cells #[.slice A stk.length c] SP10)).alloc (.cells #[.slice (some ⟨gp, 0, none⟩) ps.length cap] SP10)).ownsRow lo PT10 2 v stk.length (pvs stk) := (ho.alloc _).alloc _
  have hI0 : BkI w v lo w.heap.size (w.heap.size + 1) stk [] ((w.alloc (.cells #[.slice A stk.length c] SP10)).alloc (.cells #[.slice (some ⟨gp, 0, none⟩) ps.length cap] SP10)) :=
    ⟨⟨v, by rw [hvf]; exact bO.alloc _, by simpa [ptsP] using hoW, Or.inl rfl⟩, gW, _, bN⟩
  obtain ⟨W0, hW0⟩ : ∃ W0, (w.alloc (.cells #[.slice A stk.length c] SP10)).alloc (.cells #[.slice (some ⟨gp, 0, none⟩) ps.length cap] SP10) = W0 := ⟨_, rfl⟩
  rw [hW0] at bN hN hcW hI0 ⊢
  clear hoW gW bO hc
  refine wpIn_rangeFunc_ownH rfl (by omega) (gf := 225) (lb := #[.pointer (some ⟨w.heap.size + 1, 0, none⟩)]) rfl trivial (enters_of Tryz.func225 (by kernel_rfl) rfl)
    (back_stops Fence.wide 5 trivial rfl (by omega) (w.heap.size + 1) gp cap ps hps W0 bN (by omega) hcW) (fun h k x hx => (k x hx).trans (h x hx)) (fun W l o o' hl _ _ _ k hk => World.putObj_heap_other (fun e => by omega)) (Below.refl _ _) (fun _ => rfl)
    (BkI w v lo w.heap.size (w.heap.size + 1) stk) (fun _ _ _ => False) (bkI_own w v lo _ _ _ stk (by omega)) (fun _ _ _ _ _ hs _ _ => hs) hI0
    (BkA (.slice A stk.length c) (some ⟨gp, 0, none⟩) ps.length cap w.heap.size (w.heap.size + 1)) (fun x a' => bkA_own _ _ _ _ _ _ _ x a') ?assign ?body ?done ?stop
  case assign =>
    rintro l pre x W K hi hK
    have hsz := hi.2.1.size
    obtain ⟨u, hu⟩ := hi.2.2
    have hlt := hu.lt
    gi_wp2
    refine hK _ _ ((KeepsOthers.alloc _ _).from _) (fun k hk => (World.grownBy_alloc W _ none).block k (by omega) (by simp)) ((bkI_own w v lo _ _ W0.heap.size stk (by omega)).alloc _ hi) ⟨W.heap.size, by omega, Blk.new W PT10 [sv x.2.1, slv x.2.2], rfl⟩
  case body =>
    rintro l pre x a' W hl ⟨r, hr⟩ ⟨⟨v', hv, hrow, hown⟩, hgb, u, hu⟩ ⟨Bx, hBx, hBlk, rfl⟩ hlt
    have hc0 := hv.cell
    have k0 := hBlk.cell 0
    have k1 := hBlk.cell 1
    have hln : (stk ++ ptsP pre).length ≤ 1000000001000 := by unfold ptsP; rw [List.length_append, List.length_map]; omega
    have hsz := hgb.size
    gi_wp2_with (gi_at_builtin; refine wpListIn_append_own_at _ rfl _ _ SP10 rfl lo PT10 i0 (.agg #[.string .empty, .slice none 0 0]) 2 40 Tryz.underlying180 hi hz0 hz1 hz2 rfl (by decide) _ _ _ rfl (hrow.alloc _) ⟨W.heap.size, 0, none⟩ 1 1 [sv x.2.1, slv x.2.2] rfl rfl (new_cells10 W [sv x.2.1, slv x.2.2] _) (by simp [Value.oneCell']) (by unfold maxLen; omega) (by omega) (by rw [World.size_alloc]; omega) ?_; intro v9 w1 hown' hgrow _ hat; obtain ⟨A9, c9, rfl⟩ := own_form10 hown'; obtain ⟨hv1, hk2, hp2, hi2⟩ := bk_next hlo rfl hg hgv hv hrow hown hgb hu hown' hgrow hat; have hc1 := hv1.cell; have hf1 := hv1.frozen)
    have el : (stk ++ ptsP pre).length + 1 = stk.length + pre.length + 1 := by unfold ptsP; rw [List.length_append, List.length_map]
    rw [el] at hk2 hp2 hi2
    exact ⟨hk2.from _, hp2, hi2⟩
  case done =>
    rintro D ys W hD rfl ⟨⟨v', hv, hrow, hown⟩, hgb, u, hu⟩ hK
    have hc0 := hv.cell
    gi_wp2
    refine ⟨by simp, .inl ⟨_, _, rfl, run_takeDeferred hK, ?_⟩⟩
    rw [show ptsP (upto (bkAt ps) ps.length) = ps.reverse from bk_all ps] at hrow
    exact ⟨_, results_tmp rfl _ _ _, v', rfl, ownsRow_putObj hrow _ hK rfl, hown, ⟨hgb.os, hgb.tape, hgb.output, Nat.le_trans hgb.size (grownBy_putObj' W D (.deferred none)).size, fun k hk hne => (World.putObj_heap_other (fun e => by omega)).trans (hgb.block k hk hne)⟩⟩
  case stop =>
    rintro D c pre W _ _ h _
    exact h.elim
end Go.Proofs.YtjglllpemhkkdaaGreatDoor.Gp
