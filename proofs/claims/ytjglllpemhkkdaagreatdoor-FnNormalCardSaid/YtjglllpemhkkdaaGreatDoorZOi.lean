/- Slices of integers of the call's own as the laws handle them: compared, marked, looked at again. -/
import Derived.Test.YtjglllpemhkkdaaGreatDoorZCom
import Derived.Lib.QuietBelow
import Derived.Test.YtjglllpemhkkdaaGreatDoorZTr
import Derived.Test.YtjglllpemhkkdaaGreatDoorZMp
import Derived.Test.YtjglllpemhkkdaaGreatDoorZLhS
import Derived.Test.YtjglllpemhkkdaaGreatDoorZC3a
set_option maxRecDepth 100000
namespace Go.Proofs.YtjglllpemhkkdaaGreatDoor.Os
open Go.RowKit Go.Lib Com Mem Ow

abbrev iv (x : Int) : Value := .int .i64 x
abbrev OwnI (lo hi : Nat) (w : World) (v : Value) (l : List Int) : Prop := Own 3 lo hi w v (l.map iv)
theorem OwnI.read_ {lo hi : Nat} {w : World} {v : Value} {l : List Int} (h : OwnI lo hi w v l) : ∃ A c, v = .slice A l.length c ∧ Rd w w.heap.size A (l.map iv) ∧ l.length ≤ c ∧ c ≤ maxLen ∧ (A = none → c = 0) ∧ ∀ ad, A = some ad → ad = ⟨ad.block, 0, none⟩ := by
  have := h.read
  rwa [List.length_map] at this


end Go.Proofs.YtjglllpemhkkdaaGreatDoor.Os

/- Expressions as trees: their variables, by the model. -/
set_option maxRecDepth 100000
namespace Go.Proofs.YtjglllpemhkkdaaGreatDoor.Tr
open Go.RowKit Go.Lib Go.Sort Com Mem Ow YtjglllpemhkkdaaGreatDoor.Os YtjglllpemhkkdaaGreatDoor.Nm C2

end Go.Proofs.YtjglllpemhkkdaaGreatDoor.Tr

/- The levels of operators; the model's table of them. -/
set_option maxRecDepth 100000
namespace Go.Proofs.YtjglllpemhkkdaaGreatDoor.Tk
open Go.RowKit Go.Lib Go.Sort Com Mem YtjglllpemhkkdaaGreatDoor.Os

def opsOf : Nat → List Int
  | 1 => [8]
  | 2 => [7]
  | 3 => [5, 6]
  | 4 => [1, 2]
  | 5 => [3, 4]
  | _ => []
theorem opsOf_few (l : Nat) : (opsOf l).length ≤ 8 := by
  unfold opsOf
  split <;> simp
theorem lev7 (w : World) (I J : TypeId) (o0 : Obj) (r1 r2 r3 r4 r5 top : List Value) {W : World} (hW : W = ((((((w.alloc o0).alloc (.cells r1.toArray I)).alloc (.cells r2.toArray I)).alloc (.cells r3.toArray I)).alloc (.cells r4.toArray I)).alloc (.cells r5.toArray I)).alloc (.cells top.toArray J)) :
    Below w.heap.size w W ∧ Blk W (w.heap.size + 1) I r1 ∧ Blk W (w.heap.size + 1 + 1) I r2 ∧ Blk W (w.heap.size + 1 + 1 + 1) I r3 ∧ Blk W (w.heap.size + 1 + 1 + 1 + 1) I r4 ∧ Blk W (w.heap.size + 1 + 1 + 1 + 1 + 1) I r5 ∧ Blk W (w.heap.size + 1 + 1 + 1 + 1 + 1 + 1) J top := by
  subst hW
  have e1 := Blk.new (w.alloc o0) I r1
  have e2 := Blk.new ((w.alloc o0).alloc (.cells r1.toArray I)) I r2
  have e3 := Blk.new (((w.alloc o0).alloc (.cells r1.toArray I)).alloc (.cells r2.toArray I)) I r3
  have e4 := Blk.new ((((w.alloc o0).alloc (.cells r1.toArray I)).alloc (.cells r2.toArray I)).alloc (.cells r3.toArray I)) I r4
  have e5 := Blk.new (((((w.alloc o0).alloc (.cells r1.toArray I)).alloc (.cells r2.toArray I)).alloc (.cells r3.toArray I)).alloc (.cells r4.toArray I)) I r5
  have e6 := Blk.new ((((((w.alloc o0).alloc (.cells r1.toArray I)).alloc (.cells r2.toArray I)).alloc (.cells r3.toArray I)).alloc (.cells r4.toArray I)).alloc (.cells r5.toArray I)) J top
  simp only [size_alloc'] at e1 e2 e3 e4 e5 e6
  refine ⟨?_, ((((e1.alloc _).alloc _).alloc _).alloc _).alloc _, (((e2.alloc _).alloc _).alloc _).alloc _, ((e3.alloc _).alloc _).alloc _, (e4.alloc _).alloc _, e5.alloc _, e6⟩
  have g := fun (v : World) (o : Obj) (h : Below w.heap.size w v) => h.alloc h.size o
  exact g _ _ (g _ _ (g _ _ (g _ _ (g _ _ (g _ _ (g _ _ (Below.refl _ _)))))))
theorem levs_any (w : World) : Calls Tryz.prog 196 #[] w fun e w' => ∃ B, e = .returned (.slice (some ⟨B, 0, none⟩) 6 6) ∧ Below w.heap.size w w' ∧
    ∀ l, 1 ≤ l → l ≤ 5 → ∃ b, w'.cell? ⟨B, l, none⟩ = some (.slice (some ⟨b, 0, none⟩) (opsOf l).length (opsOf l).length) ∧ Rd w' w'.heap.size (some ⟨b, 0, none⟩) ((opsOf l).map (Value.int .i64)) ∧ w.heap.size ≤ b := by
  go_enter Tryz.func196, Tryz.ntmps196
  go_wp2_with fail
  go_ret
  obtain ⟨hb, e1, e2, e3, e4, e5, e6⟩ := lev7 w 3 141 (.cells #[] 3) [.int .i64 8] [.int .i64 7] [.int .i64 5, .int .i64 6] [.int .i64 1, .int .i64 2] [.int .i64 3, .int .i64 4]
    [.slice (some ⟨w.heap.size, 0, none⟩) 0 0, .slice (some ⟨w.heap.size + 1, 0, none⟩) 1 1, .slice (some ⟨w.heap.size + 1 + 1, 0, none⟩) 1 1, .slice (some ⟨w.heap.size + 1 + 1 + 1, 0, none⟩) 2 2, .slice (some ⟨w.heap.size + 1 + 1 + 1 + 1, 0, none⟩) 2 2, .slice (some ⟨w.heap.size + 1 + 1 + 1 + 1 + 1, 0, none⟩) 2 2] rfl
  refine ⟨_, rfl, hb, fun l h1 h2 => ?_⟩
  have hl : l = 1 ∨ l = 2 ∨ l = 3 ∨ l = 4 ∨ l = 5 := by omega
  rcases hl with rfl | rfl | rfl | rfl | rfl
  · exact ⟨_, e6.cell 1, e1.rd.more e1.lt, by omega⟩
  · exact ⟨_, e6.cell 2, e2.rd.more e2.lt, by omega⟩
  · exact ⟨_, e6.cell 3, e3.rd.more e3.lt, by omega⟩
  · exact ⟨_, e6.cell 4, e4.rd.more e4.lt, by omega⟩
  · exact ⟨_, e6.cell 5, e5.rd.more e5.lt, by omega⟩
end Go.Proofs.YtjglllpemhkkdaaGreatDoor.Tk

/- Expressions as trees: their values, by the model. -/
set_option maxRecDepth 100000
namespace Go.Proofs.YtjglllpemhkkdaaGreatDoor.Tr
open Go.RowKit Go.Lib Go.Sort Com Mem YtjglllpemhkkdaaGreatDoor.Os C2 C3

theorem node_cases {k n : Int} {s : List UInt8} {ks : List T} (h : nodeB k n s ks.length = true) : k = 1 ∨ k = 2 ∨ (k = 3 ∧ ∃ a b, ks = [a, b]) ∨ (k = 4 ∧ ∃ a, ks = [a]) := by
  unfold nodeB at h
  by_cases h1 : k = 1
  · exact Or.inl h1
  by_cases h2 : k = 2
  · exact Or.inr (Or.inl h2)
  by_cases h3 : k = 3
  · rw [if_neg h1, if_neg h2, if_pos h3] at h
    simp only [Bool.and_eq_true, beq_iff_eq] at h
    match ks, h with
    | [a, b], _ => exact Or.inr (Or.inr (Or.inl ⟨h3, a, b, rfl⟩))
    | [], h => simp at h
    | [a], h => simp at h
    | a :: b :: c :: r, h => have := h.2.2; simp at this; omega
  by_cases h4 : k = 4
  · rw [if_neg h1, if_neg h2, if_neg h3, if_pos h4] at h
    simp only [Bool.and_eq_true, beq_iff_eq] at h
    match ks, h with
    | [a], _ => exact Or.inr (Or.inr (Or.inr ⟨h4, a, rfl⟩))
    | [], h => simp at h
    | a :: b :: r, h => have := h.2.2; simp at this; omega
  rw [if_neg h1, if_neg h2, if_neg h3, if_neg h4] at h
  cases h
theorem allT_1 {k n : Int} {s : List UInt8} {a : T} (h : allT (.mk k n s [a]) = true) : allT a = true := by
  rw [allT_mk] at h; simp at h; exact h.1
theorem allT_2 {k n : Int} {s : List UInt8} {a b : T} (h : allT (.mk k n s [a, b]) = true) : allT a = true ∧ allT b = true := by
  rw [allT_mk] at h; simp at h; exact h.1

def er (w : World) (h : Nat) : World := { w with heap := w.heap.setIfInBounds h (.cells #[.nilFunc] 0 (7, 7)) }
theorem er_size (w : World) (h : Nat) : (er w h).heap.size = w.heap.size := by simp [er]
theorem er_other (w : World) {h k : Nat} (hk : k ≠ h) : (er w h).heap[k]? = w.heap[k]? := by
  unfold er
  rw [Array.getElem?_setIfInBounds_ne (by omega)]
theorem er_self {w : World} {h : Nat} (hk : h < w.heap.size) : (er w h).heap[h]? = some (.cells #[.nilFunc] 0 (7, 7)) := by
  unfold er
  rw [Array.getElem?_setIfInBounds_self_of_lt hk]
theorem er_blk {w : World} {h g t : Nat} {cs : List Value} (hb : Blk (er w h) g t cs) : Blk w g t cs := by
  by_cases e : g = h
  · subst e
    exfalso
    have h1 := hb.lt
    rw [er_size] at h1
    unfold Blk at hb
    rw [er_self h1] at hb
    simp at hb
  · unfold Blk at hb ⊢
    rw [← hb, er_other w e]
theorem OwnE.er_out {ty : TypeId} {w : World} {h lo hi : Nat} {v : Value} {t : T} (ho : OwnE ty (er w h) lo hi v t) : OwnE ty w lo hi v t := by
  induction ho with
  | mk A c vs ls hs hsl hkl hA hin hdis hk ih =>
    refine .mk A c vs ls hs hsl hkl (fun hne => ?_) hin hdis ih
    obtain ⟨g, cs, e, h1, h2, hb, hr, hd⟩ := hA hne
    exact ⟨g, cs, e, h1, h2, er_blk hb, hr, hd⟩
theorem OwnE.er_in {ty : TypeId} {w : World} {h lo hi : Nat} {v : Value} {t : T} (ho : OwnE ty w lo hi v t) (hh : h < lo ∨ hi ≤ h) : OwnE ty (er w h) lo hi v t :=
  ho.same fun k h1 h2 => er_other w (by omega)
theorem OwnE.er_go {ty : TypeId} {w w' : World} {h lo hi : Nat} {v : Value} {t : T} (ho : OwnE ty (er w h) lo hi v t) (hh : h < w.heap.size) (hs : w.heap.size ≤ w'.heap.size) (hsm : ∀ k, lo ≤ k → k < hi → k ≠ h → w'.heap[k]? = w.heap[k]?) : OwnE ty (er w' h) lo hi v t :=
  ho.same fun k h1 h2 => by
    by_cases e : k = h
    · subst e
      rw [er_self hh, er_self (by omega)]
    · rw [er_other w e, er_other w' e]; exact hsm k h1 h2 e
theorem er_new {w : World} {h b t : Nat} {cs : List Value} (hb : Blk w b t cs) (hne : b ≠ h) : Blk (er w h) b t cs := by
  unfold Blk at hb ⊢
  rw [er_other w hne]; exact hb
end Go.Proofs.YtjglllpemhkkdaaGreatDoor.Tr
