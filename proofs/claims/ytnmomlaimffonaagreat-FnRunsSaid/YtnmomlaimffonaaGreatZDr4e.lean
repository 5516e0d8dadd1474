/- Chapter 4's draws: expressions that need not be valid. -/
import Derived.Test.YtnmomlaimffonaaGreatZDr4
set_option maxRecDepth 100000
namespace Go.Proofs.YtnmomlaimffonaaGreat.Dr
open Go.RowKit Go.Lib Com Mem Cur YtnmomlaimffonaaGreat.Os Tr
theorem own_root {ty : TypeId} {w : World} {lo hi : Nat} {k n : Int} {s : List UInt8} {A : Option Addr} {l c : Nat} {ks : List T} (h : OwnE ty w lo hi (nv k n s A l c) (.mk k n s ks)) (k' n' : Int) (s' : List UInt8) (hs' : s'.length ≤ 9223372036854775807) :
    OwnE ty w lo hi (nv k' n' s' A l c) (.mk k' n' s' ks) := by
  cases h with
  | mk A c vs ls hs hsl hkl hA hin hdis hk => exact .mk A c vs ls hs hs' hkl hA hin hdis hk
theorem own_inv {ty : TypeId} {w : World} {lo hi : Nat} {k n : Int} {s : List UInt8} {A : Option Addr} {l c : Nat} {t : T} (h : OwnE ty w lo hi (nv k n s A l c) t) : ∃ ks, t = .mk k n s ks ∧ l = ks.length ∧ s.length ≤ 9223372036854775807 := by
  cases h with
  | mk A c vs ls hs hsl hkl hA hin hdis hk => exact ⟨_, rfl, rfl, hsl⟩
theorem bent_fin {g c : Nat} {A : Option Addr} {xs : List UInt8} {w W : World} {lo hi : Nat} {k n : Int} {s : List UInt8} {KA : Option Addr} {l kc : Nat} {t : T} {x0 x1 x2 x3 : Value} (hgw : g < w.heap.size) (hD : Drew w g A c xs W) (hB : Blk W w.heap.size 92 [x0, x1, x2, x3])
    (hm : OwnX lo hi W (nv k n s KA l kc) t) (hlo : w.heap.size + 1 ≤ lo) (hhi : hi ≤ W.heap.size) :
    Blk (setR W w.heap.size k n s (.slice KA l kc)) w.heap.size 92 [.int .i64 k, .int .i64 n, sv s, .slice KA l kc] ∧ OwnX w.heap.size (setR W w.heap.size k n s (.slice KA l kc)).heap.size (setR W w.heap.size k n s (.slice KA l kc)) (nv k n s KA l kc) t ∧ Drew w g A c xs (setR W w.heap.size k n s (.slice KA l kc)) :=
  ⟨setR_blk hB k n s _, (hm.chg (setR_chg W w.heap.size k n s (.slice KA l kc)) (Or.inr hlo)).mono (by omega) (Nat.le_trans hhi (setR_chg W w.heap.size k n s (.slice KA l kc)).size), setR_cur hD.1 hgw k n s _, setR_gb hD.2 (Nat.le_refl _) k n s _⟩
theorem own_two {w : World} {lo mid b : Nat} {k n : Int} {s : List UInt8} {A : Option Addr} {l c : Nat} {t : T} (K N k' n' : Int) (hk : OwnE 92 w lo mid (nv k n s A l c) t) (hb : Blk w b 92 [.int .i64 k, .int .i64 n, sv s, .slice A l c, .int .i64 k', .int .i64 n', sv [], .slice none 0 0]) (h1 : lo ≤ mid) (h2 : mid ≤ b) :
    OwnE 92 w lo (b + 1) (nv K N [] (some ⟨b, 0, none⟩) 2 2) (.mk K N [] [t, .mk k' n' [] []]) := by
  have hk' := (made_leaf w mid k' n' [] (by simp)).1
  refine OwnE.mk (ks := [t, .mk k' n' [] []]) (some ⟨b, 0, none⟩) 2 (fun j => if j = 0 then nv k n s A l c else nv k' n' [] none 0 0) (fun j => if j = 0 then lo else mid) (fun j => if j = 0 then mid else mid) (by simp) (by simp) (fun _ => ⟨b, _, rfl, by omega, Nat.lt_succ_self b, hb, ?_, fun j _ => Or.inr ?_⟩) (fun j _ => ?_) (fun i j hij hj => ?_) (fun j a ha => ?_)
  · intro j hj
    have : j = 0 ∨ j = 1 := by simp at hj; omega
    rcases this with rfl | rfl
    · exact ⟨_, _, _, _, rfl, rfl, rfl, rfl, rfl⟩
    · exact ⟨_, _, _, _, rfl, rfl, rfl, rfl, rfl⟩
  · split <;> omega
  · split <;> omega
  · have hij' : i = 0 ∧ j = 1 := by simp at hj; omega
    obtain ⟨rfl, rfl⟩ := hij'
    left; simp
  · have : j = 0 ∨ j = 1 := by have := lt_of_get ha; simp at this; omega
    rcases this with rfl | rfl
    · cases ha; exact hk
    · cases ha
      exact OwnE.mk (ks := []) none 0 (fun _ => .nilFunc) (fun _ => 0) (fun _ => 0) (by simp) (by simp) (fun h => absurd rfl h) (fun j hj => by simp at hj) (fun i j _ hj => by simp at hj) (fun j a ha => by simp at ha)
inductive Chain (w : World) (lo eb : Nat) : Nat → Nat → Value → T → Prop where
  | zero {v : Value} {t : T} (h : OwnX lo eb w v t) : Chain w lo eb 0 eb v t
  | succ {m hi b : Nat} {k n : Int} {s : List UInt8} {A : Option Addr} {l c : Nat} {t : T} (h : Chain w lo eb m hi (nv k n s A l c) t) (h1 : hi ≤ b) (h2 : eb < b)
      (hB : Blk w b 92 [.int .i64 k, .int .i64 n, sv s, .slice A l c, .int .i64 1, .int .i64 1, sv [], .slice none 0 0]) : Chain w lo eb (m + 1) (b + 1) (nv 3 1 [] (some ⟨b, 0, none⟩) 2 2) (.mk 3 1 [] [t, .mk 1 1 [] []])
theorem Chain.chg {w w' : World} {lo eb m hi : Nat} {v : Value} {t : T} (h : Chain w lo eb m hi v t) (hz : eb < w.heap.size) (hb : ∀ k, k < w.heap.size → k ≠ eb → w'.heap[k]? = w.heap[k]?) : Chain w' lo eb m hi v t := by
  induction h with
  | zero h => exact .zero (h.same fun k _ h2 => hb k (by omega) (by omega))
  | succ h h1 h2 hB ih => exact .succ ih h1 h2 ((hb _ hB.lt (by omega)).trans hB)
theorem Chain.hi_le {w : World} {lo eb m hi : Nat} {v : Value} {t : T} (h : Chain w lo eb m hi v t) : eb ≤ hi := by
  induction h with
  | zero h => exact Nat.le_refl _
  | succ h h1 h2 hB ih => omega
theorem Chain.own {w : World} {lo eb m hi : Nat} {v : Value} {t : T} (h : Chain w lo eb m hi v t) (hl : lo ≤ eb) : OwnX lo hi w v t := by
  induction h with
  | zero h => exact h
  | succ h h1 h2 hB ih => exact own_two 3 1 1 1 ih hB (Nat.le_trans hl h.hi_le) h1
theorem root_row {w : World} {lo : Nat} {k n : Int} {s : List UInt8} {A : Option Addr} {l c : Nat} (h : RootOk w lo (nv k n s A l c)) (hl : l ≤ 1000) : ∃ cs, w.ownsRow lo 92 4 (.slice A l c) l cs ∧ cs.length = l * 4 ∧ ∀ ad, A = some ad → ad = ⟨ad.block, 0, none⟩ ∧ Blk w ad.block 92 cs := by
  obtain ⟨k', n', s', A', l', c', e, h⟩ := h
  injection e with e1
  have e2 := congrArg Array.toList e1
  simp only [List.cons.injEq] at e2
  obtain ⟨_, _, _, e3, _⟩ := e2
  cases e3
  rcases h with ⟨rfl, rfl, rfl⟩ | ⟨b, cs, rfl, rfl, hB, hcl, hlo⟩
  · exact ⟨[], World.ownsRow_nil _ _ _ _, rfl, fun ad e => by cases e⟩
  · refine ⟨cs, ⟨hcl, Or.inr ⟨b, c, cs.toArray, rfl, hlo, hB, Nat.le_refl _, by unfold maxLen; omega, by simpa using hcl, ?_⟩⟩, hcl, fun ad e => by cases e; exact ⟨rfl, hB⟩⟩
    rw [← hcl]; simp
theorem own_snoc {W W' : World} {lo hi g2 c2 : Nat} {k n : Int} {s : List UInt8} {A : Option Addr} {c : Nat} {ks : List T} {cs cs2 : List Value} (h : OwnX lo hi W (nv k n s A ks.length c) (.mk k n s ks)) (hA : ∀ ad, A = some ad → ad = ⟨ad.block, 0, none⟩ ∧ Blk W ad.block 92 cs) (hcl : cs.length = ks.length * 4)
    (hW : ∀ q, q < hi → (∀ ad, A = some ad → q ≠ ad.block) → W'.heap[q]? = W.heap[q]?) (hB : Blk W' g2 92 cs2) (htk : cs2.take ((ks.length + 1) * 4) = cs ++ [.int .i64 1, .int .i64 0, sv [], .slice none 0 0]) (hg : (∃ ad, A = some ad ∧ ad.block = g2) ∨ hi ≤ g2) (hlo : lo ≤ g2) (hkl : ks.length ≤ 1000) :
    OwnX lo (max hi (g2 + 1)) W' (nv k n s (some ⟨g2, 0, none⟩) (ks.length + 1) c2) (.mk k n s (ks ++ [.mk 1 0 [] []])) := by
  have hlen : (ks ++ [T.mk 1 0 [] []]).length = ks.length + 1 := by simp
  have hat : ∀ i, i < (ks.length + 1) * 4 → cs2[i]? = (cs ++ [.int .i64 1, .int .i64 0, sv [], .slice none 0 0])[i]? := by
    intro i hi'
    rw [← htk, List.getElem?_take, if_pos hi']
  obtain ⟨l, hl⟩ : ∃ l, l = ks.length := ⟨_, rfl⟩
  rw [← hl] at h
  cases h with
  | mk _ _ vs ls hs hsl hkl' hA' hin hdis hk =>
    clear hl
    have hgo : ks.length ≠ 0 → ∃ g, A = some ⟨g, 0, none⟩ ∧ g < hi ∧ lo ≤ g ∧ Blk W g 92 cs ∧ RowsAt cs ks.length vs ∧ ∀ j, j < ks.length → g < ls j ∨ hs j ≤ g := by
      intro hne
      obtain ⟨g, cs0, e, h1, h2, hb, hr, hd⟩ := hA' hne
      have hb2 := (hA _ e).2
      have : cs0 = cs := by
        unfold Blk at hb hb2
        rw [hb] at hb2
        injection hb2 with h3; injection h3 with h4 _ _
        simpa using h4
      subst this
      exact ⟨g, e, h2, h1, hb, hr, hd⟩
    have hg2 : ∀ j, j < ks.length → g2 < ls j ∨ hs j ≤ g2 := by
      intro j hj
      obtain ⟨g, e, h1, _, _, _, hd⟩ := hgo (by omega)
      rcases hg with ⟨ad, e', e2⟩ | h3
      · rw [e] at e'; cases e'; subst e2; exact hd j hj
      · have := hin j hj; omega
    have hown := OwnE.mk (ty := 92) (w := W') (lo := lo) (hi := max hi (g2 + 1)) (k := k) (n := n) (s := s) (ks := ks ++ [T.mk 1 0 [] []]) (some ⟨g2, 0, none⟩) c2 (fun j => if j = ks.length then nv 1 0 [] none 0 0 else vs j) (fun j => if j = ks.length then lo else ls j) (fun j => if j = ks.length then lo else hs j) hsl (by rw [hlen]; omega) (fun _ => ⟨g2, cs2, rfl, hlo, by omega, hB, fun j hj => ?_, fun j hj => ?_⟩) (fun j hj => ?_) (fun i j hij hj => ?_) (fun j a ha => ?_)
    · rw [hlen] at hown; exact hown
    · rw [hlen] at hj
      by_cases e : j = ks.length
      · subst e
        refine ⟨_, _, _, _, if_pos rfl, ?_, ?_, ?_, ?_⟩ <;> rw [hat _ (by omega), List.getElem?_append_right (by omega), hcl]
        · rw [Nat.sub_self]; rfl
        · rw [Nat.add_sub_cancel_left]; rfl
        · rw [Nat.add_sub_cancel_left]; rfl
        · rw [Nat.add_sub_cancel_left]; rfl
      · obtain ⟨_, _, _, _, _, hr, _⟩ := hgo (by omega)
        obtain ⟨d0, d1, d2, d3, hv, h0, h1, h2, h3⟩ := hr j (by omega)
        refine ⟨d0, d1, d2, d3, (if_neg e).trans hv, ?_, ?_, ?_, ?_⟩ <;> rw [hat _ (by omega), List.getElem?_append_left (by omega)] <;> assumption
    · rw [hlen] at hj
      by_cases e : j = ks.length
      · rw [if_pos e, if_pos e]; exact Or.inr hlo
      · rw [if_neg e, if_neg e]; exact hg2 j (by omega)
    · rw [hlen] at hj
      by_cases e : j = ks.length
      · rw [if_pos e, if_pos e]; omega
      · rw [if_neg e, if_neg e]; have := hin j (by omega); omega
    · rw [hlen] at hj
      have e1 : i ≠ ks.length := by omega
      rw [if_neg e1, if_neg e1]
      by_cases e : j = ks.length
      · rw [if_pos e, if_pos e]; right; exact (hin i (by omega)).1
      · rw [if_neg e, if_neg e]; exact hdis i j hij (by omega)
    · by_cases e : j = ks.length
      · subst e
        rw [List.getElem?_append_right (by omega), Nat.sub_self] at ha
        cases ha
        rw [if_pos rfl, if_pos rfl, if_pos rfl]
        exact OwnE.mk (ks := []) none 0 (fun _ => .nilFunc) (fun _ => 0) (fun _ => 0) (by simp) (by simp) (fun h => absurd rfl h) (fun j hj => by simp at hj) (fun i j _ hj => by simp at hj) (fun j a ha => by simp at ha)
      · have hj := lt_of_get ha
        rw [hlen] at hj
        have hj' : j < ks.length := by omega
        rw [List.getElem?_append_left hj'] at ha
        rw [if_neg e, if_neg e, if_neg e]
        obtain ⟨g, eA, h1, _, _, _, hd⟩ := hgo (by omega)
        refine (hk j a ha).same fun q q1 q2 => hW q (by have := hin j hj'; omega) fun ad ead => ?_
        rw [eA] at ead; cases ead
        have := hd j hj'
        show q ≠ g
        omega
theorem some_alloc {w : World} {a : Addr} {v : Value} (h : w.cell? a = some v) (o : Obj) : (w.alloc o).cell? a = some v := ((box_below w o).cell (block_lt_of_cell h)).trans h
theorem row_keep {W w' : World} {eb ty : Nat} {cs : List Value} {row : Option Nat} (h : Blk W eb ty cs) (hg : W.grownBy w' row) (hne : row ≠ some eb) : Blk w' eb ty cs := (hg.block eb h.lt fun e => hne e.symm).trans h
theorem own_ne {A : Option Addr} {l c eb : Nat} (h : ∀ ad, A = some ad → ad.block ≠ eb) : (Value.slice A l c).ownBlock ≠ some eb := by
  cases A with
  | none => intro e; cases e
  | some ad => intro e; exact h ad rfl (by injection e)
theorem own_below {w w' : World} {base e size n : Nat} {v : Value} {xs : List Value} (h : w.ownsRow base e size v n xs) (hb : Below w.heap.size w w') : w'.ownsRow base e size v n xs :=
  h.kept (row := none) ⟨hb.os, hb.tape, hb.output, hb.size, fun k hk _ => hb.block k hk⟩ (by cases v.ownBlock <;> simp)
end Go.Proofs.YtnmomlaimffonaaGreat.Dr
