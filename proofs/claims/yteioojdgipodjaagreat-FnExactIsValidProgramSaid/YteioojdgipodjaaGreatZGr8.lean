/- Rows of structs that a draw grows by append, beside its cursor. -/
import Derived.Test.YteioojdgipodjaaGreatZEr8
import Derived.Test.YteioojdgipodjaaGreatZSt1
import Derived.Maps.AppendAt
set_option maxRecDepth 100000
namespace Go.Proofs.YteioojdgipodjaaGreat.Gd
open Go.RowKit Go.Lib Go.Proofs.YteioojdgipodjaaGreat.Com Go.Proofs.YteioojdgipodjaaGreat.Mem Go.Proofs.YteioojdgipodjaaGreat.Os Go.Proofs.YteioojdgipodjaaGreat.Tr

/-- the world, the block (if there is one) struck out -/
def ezo (w : World) : Option Nat → World
  | none => w
  | some b => ez w b
theorem ezo_size (w : World) (o : Option Nat) : (ezo w o).heap.size = w.heap.size := by cases o with | none => rfl | some b => exact ez_size w b
theorem Cry.ezo_out (w : World) (o : Option Nat) (B : Nat) : Cry (ezo w o) w B := by
  cases o with
  | none => exact fun _ _ _ hv => hv
  | some b => exact Cry.ez_out w b B
theorem Cry.ezo_in (w : World) {o : Option Nat} {B : Nat} (h : ∀ b, o = some b → B ≤ b) : Cry w (ezo w o) B := by
  cases o with
  | none => exact fun _ _ _ hv => hv
  | some b => exact Cry.ez_in w (h b rfl)
theorem ezo_cell {w : World} {o : Option Nat} {p : Addr} {v : Value} (hv : (ezo w o).cell? p = some v) : (∀ b, o = some b → p.block ≠ b) ∧ w.cell? p = some v := by
  cases o with
  | none => exact ⟨(fun b h => by cases h), hv⟩
  | some b => exact ⟨(fun c h => by cases h; exact (ez_cell hv).1), (ez_cell hv).2⟩
theorem ezo_cell_in {w : World} {o : Option Nat} {p : Addr} {v : Value} (h : ∀ b, o = some b → p.block ≠ b) (hv : w.cell? p = some v) : (ezo w o).cell? p = some v := by
  cases o with
  | none => exact hv
  | some b =>
    show (ez w b).cell? p = some v
    unfold World.cell? at *
    rw [ez_other w (h b rfl)]; exact hv
/-- the world, all blocks below lo struck out -/
def ezb (w : World) (lo : Nat) : World := { w with heap := w.heap.mapIdx fun k o => if k < lo then .cells #[] 0 (7, 7) else o }
theorem ezb_size (w : World) (lo : Nat) : (ezb w lo).heap.size = w.heap.size := by simp [ezb]
theorem ezb_at (w : World) {lo k : Nat} (h : lo ≤ k) : (ezb w lo).heap[k]? = w.heap[k]? := by
  unfold ezb
  simp only [Array.getElem?_mapIdx, if_neg (show ¬ k < lo by omega), Option.map_id']
theorem ezb_low (w : World) {lo : Nat} {p : Addr} (h : p.block < lo) : (ezb w lo).cell? p = none := by
  unfold World.cell? ezb
  simp only [Array.getElem?_mapIdx, if_pos h]
  cases w.heap[p.block]? <;> simp
theorem ezb_cell {w : World} {lo : Nat} {p : Addr} {v : Value} (hv : (ezb w lo).cell? p = some v) : lo ≤ p.block ∧ w.cell? p = some v := by
  have hlo : lo ≤ p.block := by
    rcases Nat.lt_or_ge p.block lo with h | h
    · rw [ezb_low w h] at hv; cases hv
    · exact h
  refine ⟨hlo, ?_⟩
  unfold World.cell? at *
  rw [ezb_at w hlo] at hv; exact hv
theorem ezb_in {w : World} {lo : Nat} {p : Addr} {v : Value} (h : lo ≤ p.block) (hv : w.cell? p = some v) : (ezb w lo).cell? p = some v := by
  unfold World.cell? at *
  rw [ezb_at w h]; exact hv
theorem Cry.ezb_out (w : World) (lo B : Nat) : Cry (ezb w lo) w B := fun _ _ _ hv => (ezb_cell hv).2
theorem Cry.ezb_mono (w : World) {lo lo' : Nat} (h : lo' ≤ lo) (B : Nat) : Cry (ezb w lo) (ezb w lo') B := fun _ _ _ hv => ezb_in (Nat.le_trans h (ezb_cell hv).1) (ezb_cell hv).2
/-- from lo on, and beside the row -/
theorem Cry.two {w w' : World} {lo : Nat} {o : Option Nat} {B : Nat} (hc : ∀ k, k < B → lo ≤ k → (∀ b, o = some b → k ≠ b) → w'.heap[k]? = w.heap[k]?) : Cry (ezo (ezb w lo) o) (ezo (ezb w' lo) o) B := fun p v hp hv => by
  obtain ⟨h1, hv⟩ := ezo_cell hv
  obtain ⟨h2, hv⟩ := ezb_cell hv
  refine ezo_cell_in h1 (ezb_in h2 ?_)
  unfold World.cell? at *
  rw [hc _ hp h2 h1]; exact hv
/-- what lies in later blocks lies beside the row -/
theorem Cry.later {w : World} {lo lo' : Nat} {o : Option Nat} (hl : lo ≤ lo') (h : ∀ b, o = some b → b < lo') (B : Nat) : Cry (ezb w lo') (ezo (ezb w lo) o) B := fun p v _ hv => by
  obtain ⟨h1, hv⟩ := ezb_cell hv
  exact ezo_cell_in (fun b e => by have := h b e; omega) (ezb_in (by omega) hv)
/-- a row of structs of sort n, in blocks from lo on; what its structs lead to lies there, beside the row itself -/
structure GrowD (w : World) (lo n : Nat) (v : Value) (L : List (List D)) : Prop where
  row : ∃ (xs : List Value) (rows : Nat → List Value), w.ownsRow lo (tyI n) (wd n) v L.length xs ∧ RowsN (wd n) xs L.length rows ∧ ∀ j e, L[j]? = some e → Rd8 (ezo (ezb w lo) v.ownBlock) w.heap.size (rows j) e
theorem GrowD.nil (w : World) (lo n : Nat) : GrowD w lo n (.slice none 0 0) [] :=
  ⟨[], fun _ => [], World.ownsRow_nil _ _ _ _, fun j hj => by simp at hj, fun j e he => by simp at he⟩
theorem GrowD.lit0 (w : World) (n : Nat) {lo : Nat} (h : lo ≤ w.heap.size) : GrowD (w.alloc (.cells #[] (tyI n))) lo n (.slice (some ⟨w.heap.size, 0, none⟩) 0 0) [] :=
  ⟨[], fun _ => [], ⟨by simp, Or.inr ⟨w.heap.size, 0, #[], rfl, h, heap_alloc_new w _, Nat.le_refl _, by unfold maxLen; omega, by simp, by simp⟩⟩, fun j hj => by simp at hj, fun j e he => by simp at he⟩
theorem own_ge {w : World} {base e sz m : Nat} {v : Value} {xs : List Value} (h : w.ownsRow base e sz v m xs) {b : Nat} (hb : v.ownBlock = some b) : base ≤ b ∧ b < w.heap.size := by
  rcases h.2 with ⟨rfl, _⟩ | ⟨g, cap, cur, rfl, hg, hblk, _⟩
  · cases hb
  · cases hb
    exact ⟨hg, (Array.getElem?_eq_some_iff.1 hblk).1⟩
theorem own_keep {w w' : World} {base e sz m : Nat} {v : Value} {xs : List Value} (h : w.ownsRow base e sz v m xs) (hk : ∀ b, v.ownBlock = some b → w'.heap[b]? = w.heap[b]?) : w'.ownsRow base e sz v m xs := by
  refine ⟨h.1, ?_⟩
  rcases h.2 with h | ⟨g, cap, cur, rfl, hg, hblk, r⟩
  · exact Or.inl h
  · exact Or.inr ⟨g, cap, cur, rfl, hg, (hk g rfl).trans hblk, r⟩
/-- a block below lo turns, and new ones come -/
theorem GrowD.keep {w w' : World} {h lo n : Nat} {v : Value} {L : List (List D)} (hG : GrowD w lo n v L) (hlt : h < lo) (hg : w.grownBy w' (some h)) : GrowD w' lo n v L := by
  obtain ⟨xs, rows, ho, hr, hk⟩ := hG
  refine ⟨xs, rows, own_keep ho fun b hb => ?_, hr, fun j e he => (hk j e he).cry (Cry.two fun k hk hne _ => hg.block k hk fun e => by cases e; omega) hg.size⟩
  have := own_ge ho hb
  exact hg.block b this.2 fun e => by cases e; omega
theorem GrowD.below {w w' : World} {lo n : Nat} {v : Value} {L : List (List D)} (hG : GrowD w lo n v L) (hb : Below w.heap.size w w') : GrowD w' lo n v L := by
  obtain ⟨xs, rows, ho, hr, hk⟩ := hG
  exact ⟨xs, rows, own_keep ho fun b h => hb.block b (own_ge ho h).2, hr, fun j e he => (hk j e he).cry (Cry.two fun k hk _ _ => hb.block k hk) hb.size⟩
theorem GrowD.own {w : World} {lo n : Nat} {v : Value} {L : List (List D)} (hG : GrowD w lo n v L) {b : Nat} (hb : v.ownBlock = some b) : lo ≤ b ∧ b < w.heap.size := by
  obtain ⟨xs, rows, ho, hr, hk⟩ := hG
  exact own_ge ho hb
/-- the row, read from lo on -/
theorem GrowD.rd {w : World} {lo n : Nat} {v : Value} {L : List (List D)} (hG : GrowD w lo n v L) : ∃ A c rows, v = .slice A L.length c ∧ L.length ≤ c ∧ Row (ezb w lo) w.heap.size n A L rows ∧ L.length ≤ maxI := by
  obtain ⟨xs, rows, ho, hr, hk⟩ := hG
  have hk' : ∀ j e, L[j]? = some e → Rd8 (ezb w lo) w.heap.size (rows j) e := fun j e he => (hk j e he).cry (Cry.ezo_out _ _ _) (Nat.le_refl _)
  rcases ho with ⟨hx, ⟨rfl, hz⟩ | ⟨g, cap, cur, rfl, hg, hblk, hnc, hcm, hcs, ht⟩⟩
  · have : L = [] := List.eq_nil_of_length_eq_zero hz
    subst this
    exact ⟨none, 0, rows, rfl, Nat.le_refl _, ⟨fun j hj => by simp at hj, fun j e he => by simp at he⟩, by simp⟩
  · refine ⟨_, _, rows, rfl, hnc, ⟨fun j hj => ?_, hk'⟩, by unfold maxLen at hcm; unfold maxI; omega⟩
    obtain ⟨h1, h2⟩ := hr j hj
    have hgl := (Array.getElem?_eq_some_iff.1 hblk).1
    refine ⟨h1, _, rfl, hgl, fun i u hu => ?_⟩
    have h3 := h2 i u hu
    rw [← ht, List.getElem?_take] at h3
    split at h3
    · rw [show ((⟨g, 0, none⟩ : Addr).add (j * wd n)).add i = ⟨g, j * wd n + i, none⟩ by
        rw [add_zero]
        unfold Addr.add
        split
        · rename_i h; subst h; rfl
        · rfl]
      unfold World.cell?
      rw [show (ezb w lo).heap[g]? = w.heap[g]? from ezb_at w hg, hblk]
      simpa using h3
    · cases h3
theorem Rd8.one {w : World} {B : Nat} {cs : List Value} {ds : List D} (h : Rd8 w B cs ds) : ∀ u ∈ cs, u.oneCell' = true := by
  induction h with
  | nil => simp
  | i _ ih => simpa [Value.oneCell'] using ih
  | b _ ih => simpa [Value.oneCell'] using ih
  | s _ _ ih => simpa [Value.oneCell'] using ih
  | x _ _ ih => simpa [Value.oneCell'] using ih
  | ss _ _ _ _ ih => simpa [Value.oneCell'] using ih
  | is _ _ _ ih => simpa [Value.oneCell'] using ih
  | sl _ _ _ _ _ _ ih => simpa [Value.oneCell'] using ih
/-- append of one struct -/
theorem GrowD.app {w : World} {lo n : Nat} {v : Value} {L : List (List D)} (hG : GrowD w lo n v L) (hbs : lo ≤ w.heap.size) (new : List Value) (d : List D) (hn : new.length = wd n) (hr : Rd8 (ezo (ezb w lo) v.ownBlock) w.heap.size new d) (hl : L.length < 1000000)
    {tS : TypeId} {z : List Value} {by8 : Nat} (hu : Tryz.prog.underlying tS = some (.slice (tyI n))) (hz : (Tryz.prog.info? (tyI n)).map (fun i => (i.zero, i.size, i.bytes)) = some (some (.agg z.toArray), wd n, by8)) (hzl : z.length = wd n) (hby : by8 ≤ 1000)
    {o : Oper} {a : Act} {ops : Array Oper} {rest : List Oper} {Q : Exit → Act → World → Prop} (hgd : o.guard = none) (s x : Operand) (ho : o.op = .call { callee := .builtin .append, args := #[s, x], argTypes := #[tS, tS] }) (hs : a.eval s = v)
    (g : Nat) (hg : g = w.heap.size) (hx : a.eval x = .slice (some ⟨g, 0, none⟩) 1 1)
    (hK : ∀ v' w', GrowD w' lo n v' (L ++ [d]) → w.grownBy w' v.ownBlock → wpList Tryz.prog ops Q rest (a.put o.dst v') w') :
    wpList Tryz.prog ops Q (o :: rest) a (w.alloc (.cells new.toArray (tyI n))) := by
  subst hg
  obtain ⟨i0, hi, hz0, hz1, hz2⟩ := info_parts hz
  have hb1 := box_below w (.cells new.toArray (tyI n))
  have hG1 := hG.below hb1
  obtain ⟨xs, rows, how, hrw, hk⟩ := hG1
  have hbyt : (L.length + 1) * by8 ≤ 140737488355328 := Nat.le_trans (Nat.mul_le_mul (show L.length + 1 ≤ 1000001 by omega) hby) (by decide)
  refine wpList_append_own_at (P := Tryz.prog) _ hgd s x tS ho lo (tyI n) i0 (.agg z.toArray) (wd n) by8 hu hi hz0 hz1 hz2 (by simpa [Value.cells] using hzl) (wd_pos n) v L.length xs hs how ⟨w.heap.size, 0, none⟩ 1 1 new hx (by omega)
    (fun j u hu => ?_) hr.one (by unfold maxLen; omega) hbyt (by rw [size_alloc']; omega) ?_
  · rw [add_zero, (Blk.new w (tyI n) new).cell]; exact hu
  intro v' w' hown hgw _ hat
  refine hK v' w' ⟨xs ++ new, fun j => if j < L.length then rows j else new, by rw [List.length_append]; exact hown, fun j hj => ?_, fun j e he => ?_⟩ (gb_trans (World.grownBy_alloc w _ _) hgw)
  · rw [List.length_append, List.length_singleton] at hj
    dsimp only
    by_cases hjl : j < L.length
    · rw [if_pos hjl]
      obtain ⟨h1, h2⟩ := hrw j hjl
      refine ⟨h1, fun i u hiu => ?_⟩
      have h3 := h2 i u hiu
      rw [List.getElem?_append_left (lt_of_get h3)]; exact h3
    · rw [if_neg hjl]
      obtain rfl : j = L.length := by omega
      refine ⟨hn, fun i u hiu => ?_⟩
      rw [List.getElem?_append_right (by rw [how.1]; omega), how.1, Nat.add_sub_cancel_left]; exact hiu
  · have hcry : Cry (ezo (ezb (w.alloc (.cells new.toArray (tyI n))) lo) v.ownBlock) (ezo (ezb w' lo) v'.ownBlock) (w.alloc (.cells new.toArray (tyI n))).heap.size := by
      have h1 : Cry (ezo (ezb (w.alloc (.cells new.toArray (tyI n))) lo) v.ownBlock) (ezo (ezb w' lo) v.ownBlock) (w.alloc (.cells new.toArray (tyI n))).heap.size := Cry.two fun k hk _ hne => hgw.block k hk fun e => hne k e.symm rfl
      rcases hat with e | e
      · rw [e]; exact h1
      · rw [e]
        exact (h1.trans (Cry.ezo_out _ _ _) (Nat.le_refl _)).trans (Cry.ezo_in _ fun b hb => by cases hb; exact Nat.le_refl _) (Nat.le_refl _)
    dsimp only
    by_cases hjl : j < L.length
    · rw [List.getElem?_append_left hjl] at he
      rw [if_pos hjl]
      exact (hk j e he).cry hcry hgw.size
    · rw [if_neg hjl]
      have hj2 := lt_of_get he
      rw [List.length_append, List.length_singleton] at hj2
      obtain rfl : j = L.length := by omega
      rw [List.getElem?_append_right (Nat.le_refl _), Nat.sub_self] at he
      cases he
      have hr1 : Rd8 (ezo (ezb (w.alloc (.cells new.toArray (tyI n))) lo) v.ownBlock) (w.alloc (.cells new.toArray (tyI n))).heap.size new d := hr.cry (Cry.two fun k hk _ _ => hb1.block k hk) hb1.size
      exact hr1.cry hcry hgw.size
end Go.Proofs.YteioojdgipodjaaGreat.Gd
