/- Data read beside blocks that turn: the world, a block struck out. -/
import Derived.Test.YtnmomlaimffonaaGreatZSt1
import Derived.Test.YtnmomlaimffonaaGreatZIm
import Derived.Maps.AppendAt
set_option maxRecDepth 100000
namespace Go.Proofs.YtnmomlaimffonaaGreat.Gd
open Go.RowKit Go.Lib Com Mem YtnmomlaimffonaaGreat.Os Tr
def Cry (w w' : World) (B : Nat) : Prop := ∀ (p : Addr) (v : Value), p.block < B → w.cell? p = some v → w'.cell? p = some v
theorem Cry.trans {a b d : World} {B B' : Nat} (h : Cry a b B) (k : Cry b d B') (hB : B ≤ B') : Cry a d B := fun p v hp hv => k p v (by omega) (h p v hp hv)
theorem Cry.of_below {w w' : World} {B : Nat} (h : Below B w w') : Cry w w' B := fun p v hp hv => by
  unfold World.cell? at *
  rw [h.block _ hp]; exact hv
theorem LdN.cry {w w' : World} {B : Nat} {a : Addr} {cs : List Value} (h : LdN w a cs) (hc : Cry w w' B) (ha : a.block < B) : LdN w' a cs := fun i u hu => hc _ _ (by rw [add_block]; exact ha) (h i u hu)
theorem rd_cry {w w' : World} {B B' : Nat} {A : Option Addr} {xs : List Value} (h : Rd w B A xs) (hc : Cry w w' B) (hB : B ≤ B') : Rd w' B' A xs := fun hne => by
  obtain ⟨ad, e, hb, hr⟩ := h hne
  exact ⟨ad, e, by omega, fun j u hu => hc _ _ (by rw [add_block]; exact hb) (hr j u hu)⟩
theorem Ex.cry {w w' : World} {B B' : Nat} {v : Value} {t : T} (h : Ex w B v t) (hc : Cry w w' B) (hB : B ≤ B') : Ex w' B' v t := by
  induction h with
  | mk A c vs hs ha hcell hk ih =>
    refine .mk A c vs hs ha (fun j hj => ?_) ih
    obtain ⟨ad, e, hb, c0, c1, c2, c3, ev, h0, h1, h2, h3⟩ := hcell j hj
    have hb' : (ad.add (j * 4)).block < B := by rw [add_block]; exact hb
    exact ⟨ad, e, by omega, c0, c1, c2, c3, ev, hc _ _ hb' h0, hc _ _ hb' h1, hc _ _ hb' h2, hc _ _ hb' h3⟩
theorem Rd8.cry {w w' : World} {B B' : Nat} {cs : List Value} {ds : List D} (h : Rd8 w B cs ds) (hc : Cry w w' B) (hB : B ≤ B') : Rd8 w' B' cs ds := by
  induction h with
  | nil => exact .nil
  | i _ ih => exact .i ih
  | b _ ih => exact .b ih
  | s h _ ih => exact .s h ih
  | x h _ ih => exact .x (Ex.cry h hc hB) ih
  | ss h hs hl _ ih => exact .ss (rd_cry h hc hB) hs hl ih
  | is h hl _ ih => exact .is (rd_cry h hc hB) hl ih
  | sl rows hl hcell _ _ ihk ih =>
    refine .sl rows hl (fun j hj => ?_) ihk ih
    obtain ⟨h0, ad, e, hb, hld⟩ := hcell j hj
    exact ⟨h0, ad, e, by omega, hld.cry hc (by rw [add_block]; exact hb)⟩
theorem Row.cry {w w' : World} {B B' n : Nat} {A : Option Addr} {l : List (List D)} {rows : Nat → List Value} (h : Row w B n A l rows) (hc : Cry w w' B) (hB : B ≤ B') : Row w' B' n A l rows :=
  ⟨fun j hj => by
    obtain ⟨h0, ad, e, hb, hl⟩ := h.cell j hj
    exact ⟨h0, ad, e, by omega, hl.cry hc (by rw [add_block]; exact hb)⟩, fun j a ha => (h.kid j a ha).cry hc hB⟩
def ez (w : World) (h : Nat) : World := { w with heap := w.heap.setIfInBounds h (.cells #[] 0 (7, 7)) }
theorem ez_size (w : World) (h : Nat) : (ez w h).heap.size = w.heap.size := by simp [ez]
theorem ez_other (w : World) {h k : Nat} (hk : k ≠ h) : (ez w h).heap[k]? = w.heap[k]? := by
  unfold ez
  rw [Array.getElem?_setIfInBounds_ne (by omega)]
theorem ez_self (w : World) (h : Nat) (p : Addr) (hp : p.block = h) : (ez w h).cell? p = none := by
  subst hp
  unfold World.cell?
  by_cases hk : p.block < w.heap.size
  · have : (ez w p.block).heap[p.block]? = some (.cells #[] 0 (7, 7)) := by
      unfold ez
      rw [Array.getElem?_setIfInBounds_self_of_lt hk]
    rw [this]
    simp
  · have : (ez w p.block).heap[p.block]? = none := by
      rw [Array.getElem?_eq_none]
      rw [ez_size]; omega
    rw [this]
theorem ez_cell {w : World} {h : Nat} {p : Addr} {v : Value} (hv : (ez w h).cell? p = some v) : p.block ≠ h ∧ w.cell? p = some v := by
  have hne : p.block ≠ h := fun e => by rw [ez_self w h p e] at hv; cases hv
  refine ⟨hne, ?_⟩
  unfold World.cell? at *
  rw [ez_other w hne] at hv
  exact hv
theorem Cry.ez_out (w : World) (h B : Nat) : Cry (ez w h) w B := fun _ _ _ hv => (ez_cell hv).2
theorem Cry.ez_in (w : World) {h B : Nat} (hB : B ≤ h) : Cry w (ez w h) B := fun p v hp hv => by
  unfold World.cell? at *
  rw [ez_other w (by omega)]; exact hv
open Pl
def ezo (w : World) : Option Nat → World
  | none => w
  | some b => ez w b
theorem Cry.ezo_out (w : World) (o : Option Nat) (B : Nat) : Cry (ezo w o) w B := by
  cases o with
  | none => exact fun _ _ _ hv => hv
  | some b => exact Cry.ez_out w b B
theorem Cry.ezo_in (w : World) {o : Option Nat} {B : Nat} (h : ∀ b, o = some b → B ≤ b) : Cry w (ezo w o) B := by
  cases o with
  | none => exact fun _ _ _ hv => hv
  | some b => exact Cry.ez_in w (h b rfl)
theorem ezo_cell {w : World} {o : Option Nat} {p : Addr} {v : Value} (hv : (ezo w o).cell? p = some v) : (∀ b, o = some b → p.block ≠ b) ∧ w.cell? p = some v := by
  cases o with
  | none => exact ⟨(fun b h => by cases h), hv⟩
  | some b => exact ⟨(fun c h => by cases h; exact (ez_cell hv).1), (ez_cell hv).2⟩
theorem ezo_cell_in {w : World} {o : Option Nat} {p : Addr} {v : Value} (h : ∀ b, o = some b → p.block ≠ b) (hv : w.cell? p = some v) : (ezo w o).cell? p = some v := by
  cases o with
  | none => exact hv
  | some b =>
    show (ez w b).cell? p = some v
    unfold World.cell? at *
    rw [ez_other w (h b rfl)]; exact hv
def ezb0 (w : World) (lo : Nat) : World := { w with heap := w.heap.mapIdx fun k o => if k < lo then .cells #[] 0 (7, 7) else o }
def ezb (w : World) (lo : Nat) : World := pln (ezb0 w lo)
theorem ezb0_size (w : World) (lo : Nat) : (ezb0 w lo).heap.size = w.heap.size := by simp [ezb0]
theorem ezb0_at (w : World) {lo k : Nat} (h : lo ≤ k) : (ezb0 w lo).heap[k]? = w.heap[k]? := by
  unfold ezb0
  simp only [Array.getElem?_mapIdx, if_neg (show ¬ k < lo by omega), Option.map_id']
theorem ezb0_low (w : World) {lo : Nat} {p : Addr} (h : p.block < lo) : (ezb0 w lo).cell? p = none := by
  unfold World.cell? ezb0
  simp only [Array.getElem?_mapIdx, if_pos h]
  cases w.heap[p.block]? <;> simp
theorem pln_ezb {w : World} {lo : Nat} {p : Addr} (h : lo ≤ p.block) : (ezb w lo).cell? p = (pln w).cell? p := by
  unfold World.cell?
  rw [show (ezb w lo).heap[p.block]? = (pln w).heap[p.block]? from pln_keep (ezb0_at w h)]
theorem ezb_cell {w : World} {lo : Nat} {p : Addr} {v : Value} (hv : (ezb w lo).cell? p = some v) : lo ≤ p.block ∧ (pln w).cell? p = some v := by
  have hlo : lo ≤ p.block := by
    rcases Nat.lt_or_ge p.block lo with h | h
    · have := (pln_cell hv).1
      rw [ezb0_low w h] at this; cases this
    · exact h
  exact ⟨hlo, by rw [← pln_ezb hlo]; exact hv⟩
theorem ezb_in {w : World} {lo : Nat} {p : Addr} {v : Value} (h : lo ≤ p.block) (hv : (pln w).cell? p = some v) : (ezb w lo).cell? p = some v := by rw [pln_ezb h]; exact hv
theorem Cry.ezb_out (w : World) (lo B : Nat) : Cry (ezb w lo) w B := fun _ _ _ hv => (pln_cell (ezb_cell hv).2).1
theorem Cry.ezb_mono (w : World) {lo lo' : Nat} (h : lo' ≤ lo) (B : Nat) : Cry (ezb w lo) (ezb w lo') B := fun _ _ _ hv => ezb_in (Nat.le_trans h (ezb_cell hv).1) (ezb_cell hv).2
theorem Cry.two {w w' : World} {lo : Nat} {o : Option Nat} {B : Nat} (hc : ∀ k, k < B → lo ≤ k → (∀ b, o = some b → k ≠ b) → w'.heap[k]? = w.heap[k]?) : Cry (ezo (ezb w lo) o) (ezo (ezb w' lo) o) B := fun p v hp hv => by
  obtain ⟨h1, hv⟩ := ezo_cell hv
  obtain ⟨h2, hv⟩ := ezb_cell hv
  refine ezo_cell_in h1 (ezb_in h2 ?_)
  unfold World.cell? at *
  rw [pln_keep (hc _ hp h2 h1)]; exact hv
theorem Cry.later {w : World} {lo lo' : Nat} {o : Option Nat} (hl : lo ≤ lo') (h : ∀ b, o = some b → b < lo') (B : Nat) : Cry (ezb w lo') (ezo (ezb w lo) o) B := fun p v _ hv => by
  obtain ⟨h1, hv⟩ := ezb_cell hv
  exact ezo_cell_in (fun b e => by have := h b e; omega) (ezb_in (by omega) hv)
structure GrowD (w : World) (lo n : Nat) (v : Value) (L : List (List D)) : Prop where
  row : ∃ (xs : List Value) (rows : Nat → List Value), w.ownsRow lo (tyI n) (wd n) v L.length xs ∧ RowsN (wd n) xs L.length rows ∧ ∀ j e, L[j]? = some e → Rd8 (ezo (ezb w lo) v.ownBlock) w.heap.size (rows j) e
theorem GrowD.lit0 (w : World) (n : Nat) {lo : Nat} (h : lo ≤ w.heap.size) : GrowD (w.alloc (.cells #[] (tyI n))) lo n (.slice (some ⟨w.heap.size, 0, none⟩) 0 0) [] :=
  ⟨[], fun _ => [], ⟨by simp, Or.inr ⟨w.heap.size, 0, #[], rfl, h, heap_alloc_new w _, Nat.le_refl _, by unfold maxLen; omega, by simp, by simp⟩⟩, fun j hj => by simp at hj, fun j e he => by simp at he⟩
theorem own_ge {w : World} {base e sz m : Nat} {v : Value} {xs : List Value} (h : w.ownsRow base e sz v m xs) {b : Nat} (hb : v.ownBlock = some b) : base ≤ b ∧ b < w.heap.size := by
  rcases h.2 with ⟨rfl, _⟩ | ⟨g, cap, cur, rfl, hg, hblk, _⟩
  · cases hb
  · cases hb
    exact ⟨hg, (Array.getElem?_eq_some_iff.1 hblk).1⟩
theorem own_keep {w w' : World} {base e sz m : Nat} {v : Value} {xs : List Value} (h : w.ownsRow base e sz v m xs) (hk : ∀ b, v.ownBlock = some b → w'.heap[b]? = w.heap[b]?) : w'.ownsRow base e sz v m xs := by
  refine ⟨h.1, ?_⟩
  rcases h.2 with h | ⟨g, cap, cur, rfl, hg, hblk, r⟩
  · exact Or.inl h
  · exact Or.inr ⟨g, cap, cur, rfl, hg, (hk g rfl).trans hblk, r⟩
theorem GrowD.keep {w w' : World} {h lo n : Nat} {v : Value} {L : List (List D)} (hG : GrowD w lo n v L) (hlt : h < lo) (hg : w.grownBy w' (some h)) : GrowD w' lo n v L := by
  obtain ⟨xs, rows, ho, hr, hk⟩ := hG
  refine ⟨xs, rows, own_keep ho fun b hb => ?_, hr, fun j e he => (hk j e he).cry (Cry.two fun k hk hne _ => hg.block k hk fun e => by cases e; omega) hg.size⟩
  have := own_ge ho hb
  exact hg.block b this.2 fun e => by cases e; omega
theorem GrowD.below {w w' : World} {lo n : Nat} {v : Value} {L : List (List D)} (hG : GrowD w lo n v L) (hb : Below w.heap.size w w') : GrowD w' lo n v L := by
  obtain ⟨xs, rows, ho, hr, hk⟩ := hG
  exact ⟨xs, rows, own_keep ho fun b h => hb.block b (own_ge ho h).2, hr, fun j e he => (hk j e he).cry (Cry.two fun k hk _ _ => hb.block k hk) hb.size⟩
theorem GrowD.own {w : World} {lo n : Nat} {v : Value} {L : List (List D)} (hG : GrowD w lo n v L) {b : Nat} (hb : v.ownBlock = some b) : lo ≤ b ∧ b < w.heap.size := by
  obtain ⟨xs, rows, ho, hr, hk⟩ := hG
  exact own_ge ho hb
theorem GrowD.rd {w : World} {lo n : Nat} {v : Value} {L : List (List D)} (hG : GrowD w lo n v L) : ∃ A c rows, v = .slice A L.length c ∧ L.length ≤ c ∧ Row (ezb w lo) w.heap.size n A L rows ∧ L.length ≤ maxI := by
  obtain ⟨xs, rows, ho, hr, hk⟩ := hG
  have hk' : ∀ j e, L[j]? = some e → Rd8 (ezb w lo) w.heap.size (rows j) e := fun j e he => (hk j e he).cry (Cry.ezo_out _ _ _) (Nat.le_refl _)
  rcases ho with ⟨hx, ⟨rfl, hz⟩ | ⟨g, cap, cur, rfl, hg, hblk, hnc, hcm, hcs, ht⟩⟩
  · have : L = [] := List.eq_nil_of_length_eq_zero hz
    subst this
    exact ⟨none, 0, rows, rfl, Nat.le_refl _, ⟨fun j hj => by simp at hj, fun j e he => by simp at he⟩, by simp⟩
  · refine ⟨_, _, rows, rfl, hnc, ⟨fun j hj => ?_, hk'⟩, by unfold maxLen at hcm; unfold maxI; omega⟩
    obtain ⟨h1, h2⟩ := hr j hj
    have hgl := (Array.getElem?_eq_some_iff.1 hblk).1
    refine ⟨h1, _, rfl, hgl, fun i u hu => ?_⟩
    have h3 := h2 i u hu
    rw [← ht, List.getElem?_take] at h3
    split at h3
    · rw [show ((⟨g, 0, none⟩ : Addr).add (j * wd n)).add i = ⟨g, j * wd n + i, none⟩ by
        rw [add_zero]
        unfold Addr.add
        split
        · rename_i h; subst h; rfl
        · rfl]
      refine ezb_in hg ?_
      rw [pln_in ⟨_, _, hblk⟩]
      unfold World.cell?
      rw [hblk]
      simpa using h3
    · cases h3
theorem Rd8.one {w : World} {B : Nat} {cs : List Value} {ds : List D} (h : Rd8 w B cs ds) : ∀ u ∈ cs, u.oneCell' = true := by
  induction h with
  | nil => simp
  | i _ ih => simpa [Value.oneCell'] using ih
  | b _ ih => simpa [Value.oneCell'] using ih
  | s _ _ ih => simpa [Value.oneCell'] using ih
  | x _ _ ih => simpa [Value.oneCell'] using ih
  | ss _ _ _ _ ih => simpa [Value.oneCell'] using ih
  | is _ _ _ ih => simpa [Value.oneCell'] using ih
  | sl _ _ _ _ _ _ ih => simpa [Value.oneCell'] using ih
theorem GrowD.app {w : World} {lo n : Nat} {v : Value} {L : List (List D)} (hG : GrowD w lo n v L) (hbs : lo ≤ w.heap.size) (new : List Value) (d : List D) (hn : new.length = wd n) (hr : Rd8 (ezo (ezb w lo) v.ownBlock) w.heap.size new d) (hl : L.length < 1000000)
    {tS : TypeId} {z : List Value} {by8 : Nat} (hu : Tryz.prog.underlying tS = some (.slice (tyI n))) (hz : (Tryz.prog.info? (tyI n)).map (fun i => (i.zero, i.size, i.bytes)) = some (some (.agg z.toArray), wd n, by8)) (hzl : z.length = wd n) (hby : by8 ≤ 1000)
    {o : Oper} {a : Act} {ops : Array Oper} {rest : List Oper} {Q : Exit → Act → World → Prop} (hgd : o.guard = none) (s x : Operand) (ho : o.op = .call { callee := .builtin .append, args := #[s, x], argTypes := #[tS, tS] }) (hs : a.eval s = v)
    (g : Nat) (hg : g = w.heap.size) (hx : a.eval x = .slice (some ⟨g, 0, none⟩) 1 1)
    (hK : ∀ v' w', GrowD w' lo n v' (L ++ [d]) → w.grownBy w' v.ownBlock → wpList Tryz.prog ops Q rest (a.put o.dst v') w') :
    wpList Tryz.prog ops Q (o :: rest) a (w.alloc (.cells new.toArray (tyI n))) := by
  subst hg
  obtain ⟨i0, hi, hz0, hz1, hz2⟩ := info_parts hz
  have hb1 := box_below w (.cells new.toArray (tyI n))
  have hG1 := hG.below hb1
  obtain ⟨xs, rows, how, hrw, hk⟩ := hG1
  have hbyt : (L.length + 1) * by8 ≤ 140737488355328 := Nat.le_trans (Nat.mul_le_mul (show L.length + 1 ≤ 1000001 by omega) hby) (by decide)
  refine wpList_append_own_at (P := Tryz.prog) _ hgd s x tS ho lo (tyI n) i0 (.agg z.toArray) (wd n) by8 hu hi hz0 hz1 hz2 (by simpa [Value.cells] using hzl) (wd_pos n) v L.length xs hs how ⟨w.heap.size, 0, none⟩ 1 1 new hx (by omega)
    (fun j u hu => ?_) hr.one (by unfold maxLen; omega) hbyt (by rw [size_alloc']; omega) ?_
  · rw [add_zero, (Blk.new w (tyI n) new).cell]; exact hu
  intro v' w' hown hgw _ hat
  refine hK v' w' ⟨xs ++ new, fun j => if j < L.length then rows j else new, by rw [List.length_append]; exact hown, fun j hj => ?_, fun j e he => ?_⟩ (gb_trans (World.grownBy_alloc w _ _) hgw)
  · rw [List.length_append, List.length_singleton] at hj
    dsimp only
    by_cases hjl : j < L.length
    · rw [if_pos hjl]
      obtain ⟨h1, h2⟩ := hrw j hjl
      refine ⟨h1, fun i u hiu => ?_⟩
      have h3 := h2 i u hiu
      rw [List.getElem?_append_left (lt_of_get h3)]; exact h3
    · rw [if_neg hjl]
      obtain rfl : j = L.length := by omega
      refine ⟨hn, fun i u hiu => ?_⟩
      rw [List.getElem?_append_right (by rw [how.1]; omega), how.1, Nat.add_sub_cancel_left]; exact hiu
  · have hcry : Cry (ezo (ezb (w.alloc (.cells new.toArray (tyI n))) lo) v.ownBlock) (ezo (ezb w' lo) v'.ownBlock) (w.alloc (.cells new.toArray (tyI n))).heap.size := by
      have h1 : Cry (ezo (ezb (w.alloc (.cells new.toArray (tyI n))) lo) v.ownBlock) (ezo (ezb w' lo) v.ownBlock) (w.alloc (.cells new.toArray (tyI n))).heap.size := Cry.two fun k hk _ hne => hgw.block k hk fun e => hne k e.symm rfl
      rcases hat with e | e
      · rw [e]; exact h1
      · rw [e]
        exact (h1.trans (Cry.ezo_out _ _ _) (Nat.le_refl _)).trans (Cry.ezo_in _ fun b hb => by cases hb; exact Nat.le_refl _) (Nat.le_refl _)
    dsimp only
    by_cases hjl : j < L.length
    · rw [List.getElem?_append_left hjl] at he
      rw [if_pos hjl]
      exact (hk j e he).cry hcry hgw.size
    · rw [if_neg hjl]
      have hj2 := lt_of_get he
      rw [List.length_append, List.length_singleton] at hj2
      obtain rfl : j = L.length := by omega
      rw [List.getElem?_append_right (Nat.le_refl _), Nat.sub_self] at he
      cases he
      have hr1 : Rd8 (ezo (ezb (w.alloc (.cells new.toArray (tyI n))) lo) v.ownBlock) (w.alloc (.cells new.toArray (tyI n))).heap.size new d := hr.cry (Cry.two fun k hk _ _ => hb1.block k hk) hb1.size
      exact hr1.cry hcry hgw.size
theorem GrowD.run {w : World} {lo n : Nat} {v : Value} {L : List (List D)} (hG : GrowD w lo n v L) (hbs : lo ≤ w.heap.size) (new : List Value) (d : List D) (hn : new.length = wd n) (hr : Rd8 (ezo (ezb w lo) v.ownBlock) w.heap.size new d) (hl : L.length < 1000000)
    {tS : TypeId} {z : List Value} {by8 : Nat} (hu : Tryz.prog.underlying tS = some (.slice (tyI n))) (hz : (Tryz.prog.info? (tyI n)).map (fun i => (i.zero, i.size, i.bytes)) = some (some (.agg z.toArray), wd n, by8)) (hzl : z.length = wd n) (hby : by8 ≤ 1000)
    (ty : TypeId) : ∃ v' w', (Builtin.append_ #[tS, tS] ty #[v, .slice (some ⟨w.heap.size, 0, none⟩) 1 1]).run Tryz.prog (w.alloc (.cells new.toArray (tyI n))) = .ok v' w' ∧ GrowD w' lo n v' (L ++ [d]) ∧ w.grownBy w' v.ownBlock := by
  obtain ⟨i0, hi, hz0, hz1, hz2⟩ := info_parts hz
  have hb1 := box_below w (.cells new.toArray (tyI n))
  have hG1 := hG.below hb1
  obtain ⟨xs, rows, how, hrw, hk⟩ := hG1
  have hbyt : (L.length + 1) * by8 ≤ 140737488355328 := Nat.le_trans (Nat.mul_le_mul (show L.length + 1 ≤ 1000001 by omega) hby) (by decide)
  have hnews : ∀ j u, new[j]? = some u → (w.alloc (.cells new.toArray (tyI n))).cell? ((⟨w.heap.size, 0, none⟩ : Addr).add j) = some u := fun j u hu => by
    rw [add_zero, (Blk.new w (tyI n) new).cell]; exact hu
  obtain ⟨v', w', hrun, hown, hgw, _, hat⟩ := run_append_own_at (P := Tryz.prog) (w.alloc (.cells new.toArray (tyI n))) lo tS ty (tyI n) i0 (.agg z.toArray) (wd n) by8 hu hi hz0 hz1 hz2 (by simpa [Value.cells] using hzl) (wd_pos n) v L.length xs how ⟨w.heap.size, 0, none⟩ 1 1 new (by omega) hnews hr.one (by unfold maxLen; omega) hbyt (by rw [size_alloc']; omega)
  refine ⟨v', w', hrun, ⟨xs ++ new, fun j => if j < L.length then rows j else new, by rw [List.length_append]; exact hown, fun j hj => ?_, fun j e he => ?_⟩, gb_trans (World.grownBy_alloc w _ _) hgw⟩
  · rw [List.length_append, List.length_singleton] at hj
    dsimp only
    by_cases hjl : j < L.length
    · rw [if_pos hjl]
      obtain ⟨h1, h2⟩ := hrw j hjl
      refine ⟨h1, fun i u hiu => ?_⟩
      have h3 := h2 i u hiu
      rw [List.getElem?_append_left (lt_of_get h3)]; exact h3
    · rw [if_neg hjl]
      obtain rfl : j = L.length := by omega
      refine ⟨hn, fun i u hiu => ?_⟩
      rw [List.getElem?_append_right (by rw [how.1]; omega), how.1, Nat.add_sub_cancel_left]; exact hiu
  · have hcry : Cry (ezo (ezb (w.alloc (.cells new.toArray (tyI n))) lo) v.ownBlock) (ezo (ezb w' lo) v'.ownBlock) (w.alloc (.cells new.toArray (tyI n))).heap.size := by
      have h1 : Cry (ezo (ezb (w.alloc (.cells new.toArray (tyI n))) lo) v.ownBlock) (ezo (ezb w' lo) v.ownBlock) (w.alloc (.cells new.toArray (tyI n))).heap.size := Cry.two fun k hk _ hne => hgw.block k hk fun e => hne k e.symm rfl
      rcases hat with e | e
      · rw [e]; exact h1
      · rw [e]
        exact (h1.trans (Cry.ezo_out _ _ _) (Nat.le_refl _)).trans (Cry.ezo_in _ fun b hb => by cases hb; exact Nat.le_refl _) (Nat.le_refl _)
    dsimp only
    by_cases hjl : j < L.length
    · rw [List.getElem?_append_left hjl] at he
      rw [if_pos hjl]
      exact (hk j e he).cry hcry hgw.size
    · rw [if_neg hjl]
      have hj2 := lt_of_get he
      rw [List.length_append, List.length_singleton] at hj2
      obtain rfl : j = L.length := by omega
      rw [List.getElem?_append_right (Nat.le_refl _), Nat.sub_self] at he
      cases he
      have hr1 : Rd8 (ezo (ezb (w.alloc (.cells new.toArray (tyI n))) lo) v.ownBlock) (w.alloc (.cells new.toArray (tyI n))).heap.size new d := hr.cry (Cry.two fun k hk _ _ => hb1.block k hk) hb1.size
      exact hr1.cry hcry hgw.size
theorem GrowD.step {w : World} {lo n : Nat} {v : Value} {L : List (List D)} (hG : GrowD w lo n v L) (hbs : lo ≤ w.heap.size) (new : List Value) (d : List D) (hn : new.length = wd n) (hr : Rd8 (ezo (ezb w lo) v.ownBlock) w.heap.size new d) (hl : L.length < 1000000)
    {tS : TypeId} {z : List Value} {by8 : Nat} (hu : Tryz.prog.underlying tS = some (.slice (tyI n))) (hz : (Tryz.prog.info? (tyI n)).map (fun i => (i.zero, i.size, i.bytes)) = some (some (.agg z.toArray), wd n, by8)) (hzl : z.length = wd n) (hby : by8 ≤ 1000)
    {o : Oper} {a : Act} {ops : Array Oper} {K : Act → World → Prop} {Q : Exit → Act → World → Prop} {E : Prop} (hgd : o.guard = none) (s x : Operand) (ho : o.op = .call { callee := .builtin .append, args := #[s, x], argTypes := #[tS, tS] }) (hs : a.eval s = v)
    (g : Nat) (hg : g = w.heap.size) (hx : a.eval x = .slice (some ⟨g, 0, none⟩) 1 1)
    (hK : ∀ v' w', GrowD w' lo n v' (L ++ [d]) → w.grownBy w' v.ownBlock → K (a.put o.dst v') w') :
    if Region.wanted o (yielded ops a.tmps) = true then Oper.wp Tryz.prog o a (w.alloc (.cells new.toArray (tyI n))) K Q else E := by
  have hw : Region.wanted o (yielded ops a.tmps) = true := by simp [Region.wanted, hgd]
  rw [if_pos hw]
  subst hg
  obtain ⟨v', w', hrun, h1, h2⟩ := GrowD.run hG hbs new d hn hr hl hu hz hzl hby o.type
  unfold Oper.wp execOp
  simp only [ho, resolve, invoke, builtin, Sem.run_bind, Sem.run_pure, Result.andThen_ok, List.map_toArray, List.map_cons, List.map_nil, hs, hx, hrun]
  exact hK v' w' h1 h2
end Go.Proofs.YtnmomlaimffonaaGreat.Gd
