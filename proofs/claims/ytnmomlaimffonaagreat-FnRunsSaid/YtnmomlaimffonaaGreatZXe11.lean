/- Executions in memory: the run's block, its state's row, its output's row. -/
import Derived.Test.YtnmomlaimffonaaGreatZRz11
set_option maxRecDepth 100000
namespace Go.Proofs.YtnmomlaimffonaaGreat.Rn
open Go.RowKit Go.Lib Com Mem YtnmomlaimffonaaGreat.Os Ow Tr Gd
abbrev Lay := Int → Value → Value → Nat → List Value
structure XAt (lay : Lay) (ty : TypeId) (w : World) (g lo hi : Nat) (z : Ex1) (vS vO : Value) : Prop where
  blk : Blk w g ty (lay z.st vS vO z.co)
  st : Own 3 lo hi w vS (z.sg.map iv)
  ou : w.ownsRow hi 3 1 vO z.ou.length (z.ou.map iv)
  ne : ty ≠ 3
  top : hi ≤ w.heap.size
section
variable {lay : Lay} {ty : TypeId} {w w' : World} {g lo hi : Nat} {z : Ex1} {vS vO : Value}
theorem XAt.lt (h : XAt lay ty w g lo hi z vS vO) : g < w.heap.size := h.blk.lt
theorem XAt.below (h : XAt lay ty w g lo hi z vS vO) (hb : Below w.heap.size w w') : XAt lay ty w' g lo hi z vS vO :=
  ⟨h.blk.below hb h.lt, h.st.gb_ (row := none) ⟨hb.os, hb.tape, hb.output, hb.size, fun k hk _ => hb.block k hk⟩ (fun _ _ e => by cases e), own_keep h.ou fun b e => hb.block b (own_ge h.ou e).2, h.ne, Nat.le_trans h.top hb.size⟩
theorem own_kind {lo e : Nat} {n : Nat} {v : Value} {xs : List Value} (h : w.ownsRow lo e 1 v n xs) {b : Nat} (hb : v.ownBlock = some b) : ∃ cur, w.heap[b]? = some (.cells cur e (0, 0)) := by
  rcases h.2 with ⟨rfl, _⟩ | ⟨g', c, cur, rfl, _, hblk, _⟩
  · cases hb
  · cases hb; exact ⟨cur, hblk⟩
theorem own_form {lo e : Nat} {n : Nat} {v : Value} {xs : List Value} (h : w.ownsRow lo e 1 v n xs) : ∃ A l c, v = .slice A l c := by
  rcases h.2 with ⟨rfl, _⟩ | ⟨g', c, cur, rfl, _⟩
  · exact ⟨_, _, _, rfl⟩
  · exact ⟨_, _, _, rfl⟩
theorem XAt.ne_st (h : XAt lay ty w g lo hi z vS vO) {b : Nat} (hb : vS.ownBlock = some b) : b ≠ g := fun e => by
  subst e
  obtain ⟨_, _, cs, hc⟩ := h.st.block_ hb
  exact h.ne (kinds h.blk hc)
theorem XAt.ne_ou (h : XAt lay ty w g lo hi z vS vO) {b : Nat} (hb : vO.ownBlock = some b) : b ≠ g := fun e => by
  subst e
  obtain ⟨cur, hc⟩ := own_kind h.ou hb
  have h1 := h.blk
  unfold Blk at h1
  rw [hc] at h1
  injection h1 with h1
  injection h1 with _ h2 _
  exact h.ne h2.symm
theorem XAt.put (h : XAt lay ty w g lo hi z vS vO) (i : Nat) (u : Value) (st : Int) (co : Nat) (hl : (lay z.st vS vO z.co).set i u = lay st vS vO co) : XAt lay ty (w.setCell ⟨g, i, none⟩ u) g lo hi ⟨st, z.sg, z.ou, co⟩ vS vO :=
  ⟨hl ▸ h.blk.set_ i u, h.st.gb_ (gb_set (gb_refl _ (some g)) i u) (fun b hb e => h.ne_st hb (by cases e; rfl)), own_keep h.ou fun b e => heap_setCell_other w _ b _ (h.ne_ou e), h.ne, by simpa [World.setCell] using h.top⟩
theorem XAt.state (h : XAt lay ty w g lo hi z vS vO) : ∃ AS cS, vS = .slice AS z.sg.length cS ∧ Rd w w.heap.size AS (z.sg.map iv) ∧ z.sg.length ≤ maxI ∧ ∀ ad, AS = some ad → ad = ⟨ad.block, 0, none⟩ ∧ lo ≤ ad.block ∧ ad.block < hi ∧ w.frozen? ⟨ad.block, 0, none⟩ = false := by
  obtain ⟨A, c, e, hr, h1, h2, _, h3⟩ := h.st.read
  rw [List.length_map] at e h1
  refine ⟨A, c, e, hr, by unfold maxLen at h2; unfold maxI; omega, fun ad ha => ?_⟩
  obtain ⟨h4, h5, cs, h6⟩ := h.st.block_ (g := ad.block) (by rw [e, ha]; rfl)
  exact ⟨h3 ad ha, h4, h5, h6.frozen 0⟩
theorem XAt.set (h : XAt lay ty w g lo hi z vS vO) {i : Nat} (hi' : i < z.sg.length) (v : Int) : ∃ b c, vS = .slice (some ⟨b, 0, none⟩) z.sg.length c ∧ lo ≤ b ∧ b < hi ∧ w.cell? ⟨b, i, none⟩ = some (iv z.sg[i]) ∧ w.frozen? ⟨b, i, none⟩ = false ∧ (∃ cs, Blk w b 3 cs) ∧
    XAt lay ty (w.setCell ⟨b, i, none⟩ (iv v)) g lo hi ⟨z.st, z.sg.set i v, z.ou, z.co⟩ vS vO := by
  obtain ⟨A, c, cs, e1, e2, hm, e3, e4, e5⟩ := h.st
  rw [List.length_map] at e1 e2 e5
  cases A with
  | none =>
    have := (e3 rfl).1
    rw [List.map_eq_nil_iff] at this
    rw [this] at hi'; simp at hi'
  | some ad =>
    obtain ⟨q0, q1, q2, q3⟩ := e4 ad rfl
    obtain ⟨b, off, sub⟩ := ad
    obtain ⟨rfl, rfl⟩ : off = 0 ∧ sub = none := by injection q0 with _ a b; exact ⟨a, b⟩
    have hne : b ≠ g := h.ne_st (by rw [e1]; rfl)
    have hat : cs[i]? = some (iv z.sg[i]) := by
      have : (cs.take z.sg.length)[i]? = (z.sg.map iv)[i]? := by rw [e5]
      rw [List.getElem?_take, if_pos hi', List.getElem?_map, List.getElem?_eq_getElem hi'] at this
      exact this
    refine ⟨b, c, e1, q1, q2, by rw [q3.cell, hat], q3.frozen i, ⟨cs, q3⟩, (h.blk.far (p := ⟨b, i, none⟩) (fun e => hne e.symm) _), ?_, own_keep h.ou fun k hk => heap_setCell_other w _ k _ (fun e => ?_), h.ne, by simpa [World.setCell] using h.top⟩
    · refine ⟨_, c, cs.set i (iv v), by rw [List.length_map, List.length_set]; exact e1, by rw [List.length_map, List.length_set]; exact e2, hm, (fun e => by cases e), fun ad ha => ?_, ?_⟩
      · cases ha
        exact ⟨rfl, q1, q2, q3.set_ i _⟩
      · rw [List.length_map, List.length_set, List.take_set, e5, List.map_set]
    · have := (own_ge h.ou hk).1
      have e' : k = b := e
      have q2' : b < hi := q2
      omega
theorem XAt.app (h : XAt lay ty w g lo hi z vS vO) {vO' : Value} (v : Int) (ho : w'.ownsRow hi 3 1 vO' (z.ou.map iv ++ [iv v]).length (z.ou.map iv ++ [iv v])) (hg : w.grownBy w' vO.ownBlock) (i : Nat) (hl : (lay z.st vS vO z.co).set i vO' = lay z.st vS vO' z.co) :
    w'.cell? ⟨g, i, none⟩ = (lay z.st vS vO z.co)[i]? ∧ w'.frozen? ⟨g, i, none⟩ = false ∧ XAt lay ty (w'.setCell ⟨g, i, none⟩ vO') g lo hi ⟨z.st, z.sg, z.ou ++ [v], z.co⟩ vS vO' := by
  have hB : Blk w' g ty (lay z.st vS vO z.co) := (hg.block g h.lt fun e => h.ne_ou e.symm rfl).trans h.blk
  have hne : ∀ b, vO'.ownBlock = some b → b ≠ g := fun b hb e => by
    subst e
    obtain ⟨cur, hc⟩ := own_kind ho hb
    have h1 := hB
    unfold Blk at h1
    rw [hc] at h1
    injection h1 with h1
    injection h1 with _ h2 _
    exact h.ne h2.symm
  have hS : Own 3 lo hi w' vS (z.sg.map iv) := h.st.gb_ hg fun b hb e => by
    have h1 := (h.st.block_ hb).2.1
    have h2 := (own_ge h.ou e).1
    omega
  have hSg : ∀ b, vS.ownBlock = some b → b ≠ g := fun b hb => h.ne_st hb
  refine ⟨hB.cell i, hB.frozen i, hl ▸ hB.set_ i vO', hS.gb_ (gb_set (gb_refl _ (some g)) i vO') (fun b hb e => hSg b hb (by cases e; rfl)), own_keep ?_ fun b e => heap_setCell_other w' _ b _ (hne b e), h.ne, by simpa [World.setCell] using Nat.le_trans h.top hg.size⟩
  rw [List.length_append, List.length_map, List.length_singleton] at ho
  rw [List.length_append, List.length_singleton, List.map_append]
  exact ho
end
def Keep (g : Nat) (w w' : World) : Prop := ∀ (k ty : Nat) (cs : List Value), ty ≠ 3 → k ≠ g → Blk w k ty cs → Blk w' k ty cs
theorem Keep.refl (g : Nat) (w : World) : Keep g w w := fun _ _ _ _ _ h => h
theorem Keep.trans {g : Nat} {a b c : World} (h : Keep g a b) (k : Keep g b c) : Keep g a c := fun i ty cs h1 h2 h3 => k i ty cs h1 h2 (h i ty cs h1 h2 h3)
theorem Keep.below {g : Nat} {w w' : World} (h : Below w.heap.size w w') : Keep g w w' := fun _ _ _ _ _ hB => hB.below h hB.lt
theorem Keep.gb {g : Nat} {w w' : World} (h : w.grownBy w' (some g)) : Keep g w w' := fun _ _ _ _ hne hB => hB.gb h hne
theorem Keep.own {g lo n : Nat} {w w' : World} {v : Value} {xs : List Value} (ho : w.ownsRow lo 3 1 v n xs) (h : w.grownBy w' v.ownBlock) : Keep g w w' := fun k ty cs hty _ hB => (h.block k hB.lt fun e => by
  obtain ⟨cur, hc⟩ := own_kind ho e.symm
  unfold Blk at hB
  rw [hc] at hB
  injection hB with hB
  injection hB with _ h2 _
  exact hty h2.symm).trans hB
theorem Keep.set {g b i : Nat} {w : World} {cs : List Value} (h : Blk w b 3 cs) (u : Value) : Keep g w (w.setCell ⟨b, i, none⟩ u) := fun k ty cs' hty _ hB => hB.far (p := ⟨b, i, none⟩) (fun e => hty (by
  have e : k = b := e
  subst e
  exact kinds hB h)) u
def XTo (lay : Lay) (ty : TypeId) (base g lo hi : Nat) (vS : Value) (w : World) (z : Ex1) (w' : World) : Prop := (∃ vO, XAt lay ty w' g lo hi z vS vO) ∧ Below base w w' ∧ Keep g w w'
theorem XTo.trans {lay : Lay} {ty : TypeId} {base g lo hi : Nat} {vS : Value} {w w1 w2 : World} {z : Ex1} (h : Below base w w1) (hk : Keep g w w1) (k : XTo lay ty base g lo hi vS w1 z w2) : XTo lay ty base g lo hi vS w z w2 := ⟨k.1, h.trans k.2.1, hk.trans k.2.2⟩
end Go.Proofs.YtnmomlaimffonaaGreat.Rn
