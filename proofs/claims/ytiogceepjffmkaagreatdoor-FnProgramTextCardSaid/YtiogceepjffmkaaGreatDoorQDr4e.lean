/- Chapter 4's draws: expressions that need not be valid. -/
import Derived.Test.YtiogceepjffmkaaGreatDoorQI7a
set_option maxHeartbeats 4000000
set_option maxRecDepth 100000
namespace Go.Proofs.YtiogceepjffmkaaGreatDoor.Dr
open Go.RowKit Go.Lib Com Mem Cur YtiogceepjffmkaaGreatDoor.Os Tr
theorem own_root {ty : TypeId} {w : World} {lo hi : Nat} {k n : Int} {s : List UInt8} {A : Option Addr} {l c : Nat} {ks : List T} (h : OwnE ty w lo hi (nv k n s A l c) (.mk k n s ks)) (k' n' : Int) (s' : List UInt8) (hs' : s'.length ≤ 9223372036854775807) :
  OwnE ty w lo hi (nv k' n' s' A l c) (.mk k' n' s' ks) := by
 cases h with
 | mk A c vs ls hs hsl hkl hA hin hdis hk => exact .mk A c vs ls hs hs' hkl hA hin hdis hk
theorem own_inv {ty : TypeId} {w : World} {lo hi : Nat} {k n : Int} {s : List UInt8} {A : Option Addr} {l c : Nat} {t : T} (h : OwnE ty w lo hi (nv k n s A l c) t) : ∃ ks, t = .mk k n s ks ∧ l = ks.length ∧ s.length ≤ 9223372036854775807 := by
 cases h with
 | mk A c vs ls hs hsl hkl hA hin hdis hk => exact ⟨_, rfl, rfl, hsl⟩
theorem bent_fin {g c : Nat} {A : Option Addr} {xs : List UInt8} {w W : World} {lo hi : Nat} {k n : Int} {s : List UInt8} {KA : Option Addr} {l kc : Nat} {t : T} {x0 x1 x2 x3 : Value} (hgw : g < w.heap.size) (hD : Drew w g A c xs W) (hB : Blk W w.heap.size 58 [x0, x1, x2, x3])
  (hm : OwnX lo hi W (nv k n s KA l kc) t) (hlo : w.heap.size + 1 ≤ lo) (hhi : hi ≤ W.heap.size) :
  Blk (setR W w.heap.size k n s (.slice KA l kc)) w.heap.size 58 [.int .i64 k, .int .i64 n, sv s, .slice KA l kc] ∧ OwnX w.heap.size (setR W w.heap.size k n s (.slice KA l kc)).heap.size (setR W w.heap.size k n s (.slice KA l kc)) (nv k n s KA l kc) t ∧ Drew w g A c xs (setR W w.heap.size k n s (.slice KA l kc)) :=
 ⟨setR_blk hB k n s _, (hm.chg (setR_chg W w.heap.size k n s (.slice KA l kc)) (Or.inr hlo)).mono (by omega) (Nat.le_trans hhi (setR_chg W w.heap.size k n s (.slice KA l kc)).size), setR_cur hD.1 hgw k n s _, setR_gb hD.2 (Nat.le_refl _) k n s _⟩
theorem own_two {w : World} {lo mid b : Nat} {k n : Int} {s : List UInt8} {A : Option Addr} {l c : Nat} {t : T} (K N k' n' : Int) (hk : OwnE 58 w lo mid (nv k n s A l c) t) (hb : Blk w b 58 [.int .i64 k, .int .i64 n, sv s, .slice A l c, .int .i64 k', .int .i64 n', sv [], .slice none 0 0]) (h1 : lo ≤ mid) (h2 : mid ≤ b) :
  OwnE 58 w lo (b + 1) (nv K N [] (some ⟨b, 0, none⟩) 2 2) (.mk K N [] [t, .mk k' n' [] []]) := by
 have hk' := (made_leaf w mid k' n' [] (by simp)).1
 refine OwnE.mk (ks := [t, .mk k' n' [] []]) (some ⟨b, 0, none⟩) 2 (fun j => if j = 0 then nv k n s A l c else nv k' n' [] none 0 0) (fun j => if j = 0 then lo else mid) (fun j => if j = 0 then mid else mid) (by simp) (by simp) (fun _ => ⟨b, _, rfl, by omega, Nat.lt_succ_self b, hb, ?_, fun j _ => Or.inr ?_⟩) (fun j _ => ?_) (fun i j hij hj => ?_) (fun j a ha => ?_)
 ·intro j hj
  have : j = 0 ∨ j = 1 := by simp at hj; omega
  rcases this with rfl | rfl
  ·exact ⟨_, _, _, _, rfl, rfl, rfl, rfl, rfl⟩
  ·exact ⟨_, _, _, _, rfl, rfl, rfl, rfl, rfl⟩
 ·split <;> omega
 ·split <;> omega
 ·have hij' : i = 0 ∧ j = 1 := by simp at hj; omega
  obtain ⟨rfl, rfl⟩ := hij'
  left; simp
 ·have : j = 0 ∨ j = 1 := by have := lt_of_get ha; simp at this; omega
  rcases this with rfl | rfl
  ·cases ha; exact hk
  ·cases ha
   exact OwnE.mk (ks := []) none 0 (fun _ => .nilFunc) (fun _ => 0) (fun _ => 0) (by simp) (by simp) (fun h => absurd rfl h) (fun j hj => by simp at hj) (fun i j _ hj => by simp at hj) (fun j a ha => by simp at ha)
inductive Chain (w : World) (lo eb : Nat) : Nat → Nat → Value → T → Prop where
 | zero {v : Value} {t : T} (h : OwnX lo eb w v t) : Chain w lo eb 0 eb v t
 | succ {m hi b : Nat} {k n : Int} {s : List UInt8} {A : Option Addr} {l c : Nat} {t : T} (h : Chain w lo eb m hi (nv k n s A l c) t) (h1 : hi ≤ b) (h2 : eb < b)
   (hB : Blk w b 58 [.int .i64 k, .int .i64 n, sv s, .slice A l c, .int .i64 1, .int .i64 1, sv [], .slice none 0 0]) : Chain w lo eb (m + 1) (b + 1) (nv 3 1 [] (some ⟨b, 0, none⟩) 2 2) (.mk 3 1 [] [t, .mk 1 1 [] []])
theorem Chain.chg {w w' : World} {lo eb m hi : Nat} {v : Value} {t : T} (h : Chain w lo eb m hi v t) (hz : eb < w.heap.size) (hb : ∀ k, k < w.heap.size → k ≠ eb → w'.heap[k]? = w.heap[k]?) : Chain w' lo eb m hi v t := by
 induction h with
 | zero h => exact .zero (h.same fun k _ h2 => hb k (by omega) (by omega))
 | succ h h1 h2 hB ih => exact .succ ih h1 h2 ((hb _ hB.lt (by omega)).trans hB)
theorem Chain.hi_le {w : World} {lo eb m hi : Nat} {v : Value} {t : T} (h : Chain w lo eb m hi v t) : eb ≤ hi := by
 induction h with
 | zero h => exact Nat.le_refl _
 | succ h h1 h2 hB ih => omega
theorem Chain.own {w : World} {lo eb m hi : Nat} {v : Value} {t : T} (h : Chain w lo eb m hi v t) (hl : lo ≤ eb) : OwnX lo hi w v t := by
 induction h with
 | zero h => exact h
 | succ h h1 h2 hB ih => exact own_two 3 1 1 1 ih hB (Nat.le_trans hl h.hi_le) h1
theorem root_row {w : World} {lo : Nat} {k n : Int} {s : List UInt8} {A : Option Addr} {l c : Nat} (h : RootOk w lo (nv k n s A l c)) (hl : l ≤ 1000) : ∃ cs, w.ownsRow lo 58 4 (.slice A l c) l cs ∧ cs.length = l * 4 ∧ ∀ ad, A = some ad → ad = ⟨ad.block, 0, none⟩ ∧ Blk w ad.block 58 cs := by
 obtain ⟨k', n', s', A', l', c', e, h⟩ := h
 injection e with e1
 have e2 := congrArg Array.toList e1
 simp only [List.cons.injEq] at e2
 obtain ⟨_, _, _, e3, _⟩ := e2
 cases e3
 rcases h with ⟨rfl, rfl, rfl⟩ | ⟨b, cs, rfl, rfl, hB, hcl, hlo⟩
 ·exact ⟨[], World.ownsRow_nil _ _ _ _, rfl, fun ad e => by cases e⟩
 ·refine ⟨cs, ⟨hcl, Or.inr ⟨b, c, cs.toArray, rfl, hlo, hB, Nat.le_refl _, by unfold maxLen; omega, by simpa using hcl, ?_⟩⟩, hcl, fun ad e => by cases e; exact ⟨rfl, hB⟩⟩
  rw [← hcl]; simp
theorem own_snoc {W W' : World} {lo hi g2 c2 : Nat} {k n : Int} {s : List UInt8} {A : Option Addr} {c : Nat} {ks : List T} {cs cs2 : List Value} (h : OwnX lo hi W (nv k n s A ks.length c) (.mk k n s ks)) (hA : ∀ ad, A = some ad → ad = ⟨ad.block, 0, none⟩ ∧ Blk W ad.block 58 cs) (hcl : cs.length = ks.length * 4)
  (hW : ∀ q, q < hi → (∀ ad, A = some ad → q ≠ ad.block) → W'.heap[q]? = W.heap[q]?) (hB : Blk W' g2 58 cs2) (htk : cs2.take ((ks.length + 1) * 4) = cs ++ [.int .i64 1, .int .i64 0, sv [], .slice none 0 0]) (hg : (∃ ad, A = some ad ∧ ad.block = g2) ∨ hi ≤ g2) (hlo : lo ≤ g2) (hkl : ks.length ≤ 1000) :
  OwnX lo (max hi (g2 + 1)) W' (nv k n s (some ⟨g2, 0, none⟩) (ks.length + 1) c2) (.mk k n s (ks ++ [.mk 1 0 [] []])) := by
 have hlen : (ks ++ [T.mk 1 0 [] []]).length = ks.length + 1 := by simp
 have hat : ∀ i, i < (ks.length + 1) * 4 → cs2[i]? = (cs ++ [.int .i64 1, .int .i64 0, sv [], .slice none 0 0])[i]? := by
  intro i hi'
  rw [← htk, List.getElem?_take, if_pos hi']
 obtain ⟨l, hl⟩ : ∃ l, l = ks.length := ⟨_, rfl⟩
 rw [← hl] at h
 cases h with
 | mk _ _ vs ls hs hsl hkl' hA' hin hdis hk =>
  clear hl
  have hgo : ks.length ≠ 0 → ∃ g, A = some ⟨g, 0, none⟩ ∧ g < hi ∧ lo ≤ g ∧ Blk W g 58 cs ∧ RowsAt cs ks.length vs ∧ ∀ j, j < ks.length → g < ls j ∨ hs j ≤ g := by
   intro hne
   obtain ⟨g, cs0, e, h1, h2, hb, hr, hd⟩ := hA' hne
   have hb2 := (hA _ e).2
   have : cs0 = cs := by
    unfold Blk at hb hb2
    rw [hb] at hb2
    injection hb2 with h3; injection h3 with h4 _ _
    simpa using h4
   subst this
   exact ⟨g, e, h2, h1, hb, hr, hd⟩
  have hg2 : ∀ j, j < ks.length → g2 < ls j ∨ hs j ≤ g2 := by
   intro j hj
   obtain ⟨g, e, h1, _, _, _, hd⟩ := hgo (by omega)
   rcases hg with ⟨ad, e', e2⟩ | h3
   ·rw [e] at e'; cases e'; subst e2; exact hd j hj
   ·have := hin j hj; omega
  have hown := OwnE.mk (ty := 58) (w := W') (lo := lo) (hi := max hi (g2 + 1)) (k := k) (n := n) (s := s) (ks := ks ++ [T.mk 1 0 [] []]) (some ⟨g2, 0, none⟩) c2 (fun j => if j = ks.length then nv 1 0 [] none 0 0 else vs j) (fun j => if j = ks.length then lo else ls j) (fun j => if j = ks.length then lo else hs j) hsl (by rw [hlen]; omega) (fun _ => ⟨g2, cs2, rfl, hlo, by omega, hB, fun j hj => ?_, fun j hj => ?_⟩) (fun j hj => ?_) (fun i j hij hj => ?_) (fun j a ha => ?_)
  ·rw [hlen] at hown; exact hown
  ·rw [hlen] at hj
   by_cases e : j = ks.length
   ·subst e
    refine ⟨_, _, _, _, if_pos rfl, ?_, ?_, ?_, ?_⟩ <;> rw [hat _ (by omega), List.getElem?_append_right (by omega), hcl]
    ·rw [Nat.sub_self]; rfl
    ·rw [Nat.add_sub_cancel_left]; rfl
    ·rw [Nat.add_sub_cancel_left]; rfl
    ·rw [Nat.add_sub_cancel_left]; rfl
   ·obtain ⟨_, _, _, _, _, hr, _⟩ := hgo (by omega)
    obtain ⟨d0, d1, d2, d3, hv, h0, h1, h2, h3⟩ := hr j (by omega)
    refine ⟨d0, d1, d2, d3, (if_neg e).trans hv, ?_, ?_, ?_, ?_⟩ <;> rw [hat _ (by omega), List.getElem?_append_left (by omega)] <;> assumption
  ·rw [hlen] at hj
   by_cases e : j = ks.length
   ·rw [if_pos e, if_pos e]; exact Or.inr hlo
   ·rw [if_neg e, if_neg e]; exact hg2 j (by omega)
  ·rw [hlen] at hj
   by_cases e : j = ks.length
   ·rw [if_pos e, if_pos e]; omega
   ·rw [if_neg e, if_neg e]; have := hin j (by omega); omega
  ·rw [hlen] at hj
   have e1 : i ≠ ks.length := by omega
   rw [if_neg e1, if_neg e1]
   by_cases e : j = ks.length
   ·rw [if_pos e, if_pos e]; right; exact (hin i (by omega)).1
   ·rw [if_neg e, if_neg e]; exact hdis i j hij (by omega)
  ·by_cases e : j = ks.length
   ·subst e
    rw [List.getElem?_append_right (by omega), Nat.sub_self] at ha
    cases ha
    rw [if_pos rfl, if_pos rfl, if_pos rfl]
    exact OwnE.mk (ks := []) none 0 (fun _ => .nilFunc) (fun _ => 0) (fun _ => 0) (by simp) (by simp) (fun h => absurd rfl h) (fun j hj => by simp at hj) (fun i j _ hj => by simp at hj) (fun j a ha => by simp at ha)
   ·have hj := lt_of_get ha
    rw [hlen] at hj
    have hj' : j < ks.length := by omega
    rw [List.getElem?_append_left hj'] at ha
    rw [if_neg e, if_neg e, if_neg e]
    obtain ⟨g, eA, h1, _, _, _, hd⟩ := hgo (by omega)
    refine (hk j a ha).same fun q q1 q2 => hW q (by have := hin j hj'; omega) fun ad ead => ?_
    rw [eA] at ead; cases ead
    have := hd j hj'
    show q ≠ g
    omega
theorem some_alloc {w : World} {a : Addr} {v : Value} (h : w.cell? a = some v) (o : Obj) : (w.alloc o).cell? a = some v := ((box_below w o).cell (block_lt_of_cell h)).trans h
theorem row_keep {W w' : World} {eb ty : Nat} {cs : List Value} {row : Option Nat} (h : Blk W eb ty cs) (hg : W.grownBy w' row) (hne : row ≠ some eb) : Blk w' eb ty cs := (hg.block eb h.lt fun e => hne e.symm).trans h
theorem own_ne {A : Option Addr} {l c eb : Nat} (h : ∀ ad, A = some ad → ad.block ≠ eb) : (Value.slice A l c).ownBlock ≠ some eb := by
 cases A with
 | none => intro e; cases e
 | some ad => intro e; exact h ad rfl (by injection e)
theorem own_below {w w' : World} {base e size n : Nat} {v : Value} {xs : List Value} (h : w.ownsRow base e size v n xs) (hb : Below w.heap.size w w') : w'.ownsRow base e size v n xs :=
 h.kept (row := none) ⟨hb.os, hb.tape, hb.output, hb.size, fun k hk _ => hb.block k hk⟩ (by cases v.ownBlock <;> simp)
end Go.Proofs.YtiogceepjffmkaaGreatDoor.Dr
set_option maxRecDepth 100000
namespace Go.Proofs.YtiogceepjffmkaaGreatDoor.Tk
open Go.RowKit Go.Lib Go.Sort Num Com Mem YtiogceepjffmkaaGreatDoor.Os Tr Ik
theorem lft_nat (m : Nat) : lft (m : Int) = ((if m = 3 then 4 else m : Nat) : Int) := by
 unfold lft
 by_cases h : m = 3
 ·subst h; rfl
 ·rw [if_neg (by omega), if_neg h]
theorem rgt_nat (m : Nat) : rgt (m : Int) = ((m + 1 : Nat) : Int) := by
 unfold rgt
 by_cases h : m = 3
 ·subst h; rfl
 ·rw [if_neg (by omega)]; omega
theorem fopn (n : Int) (s : List UInt8) (a b : T) (iha : ∀ l, FoS a l) (ihb : ∀ l, FoS b l) (ha : allT a = true) (hb : allT b = true) (hlen : (txtT7 (.mk 3 n s [a, b])).length ≤ 1000000) (A : Option Addr) (c : Nat) (vs : Nat → Value) (w : World) (hp : L1b.Pow w) (hk : Tr.Kids w w.heap.size A [a, b] vs) :
  Calls Tryz.prog 202 #[nv 3 n s A 2 c] w fun e w' => e = .returned (sv (txtT7 (.mk 3 n s [a, b]))) ∧ Below w.heap.size w w' := by
 have hb1 := box_below w (.cells #[.int .i64 3, .int .i64 n, sv s, .slice A 2 c] 58)
 have hblk := hid (box_blk w 3 n s A 2 c 58)
 have hk1 := hid (hk.go hb1)
 have hp := hid (fun w' (h : Below w.heap.size w w') => hp.below h)
 replace hb1 := hid hb1
 rw [txt7_3] at hlen ⊢
 have hlv := hid (fun w => ilevel_any 3 n s A 2 c w)
 have hl7 := lvl_le 3 n
 generalize lvl 3 n = lv at *
 have hpa := paren_len (txtT7 a) (decide (lvlT a < if lv = 3 then 4 else lv))
 have hpb := paren_len (txtT7 b) (decide (lvlT b < lv + 1))
 have hS2 := symL_len n
 simp only [List.length_append, List.length_cons, List.length_nil] at hlen
 have hlo := fun w => lvs_operands (lv : Int) (by omega) (by omega) w
 rw [lft_nat, rgt_nat] at hlo
 have hA := hid (fun v w hp hv => iha (if lv = 3 then 4 else lv) v w hp ha (by omega) hv)
 have hB := hid (fun v w hp hv => ihb (lv + 1) v w hp hb (by omega) hv)
 have hsy := hid (fun w => C3.symbol_any n w)
 generalize paren (txtT7 a) (decide (lvlT a < if lv = 3 then 4 else lv)) = xa at *
 generalize paren (txtT7 b) (decide (lvlT b < lv + 1)) = xb at *
 generalize C3.symL n = xs at *
 generalize (if lv = 3 then 4 else lv) = la at *
 generalize lv + 1 = lb at *
 have hlo := hid hlo
 have hxa : xa.length ≤ 1000000 := by omega
 have hxb : xb.length ≤ 1000000 := by omega
 clear hk hpa hpb hlen iha ihb
 go_enter Tryz.func202, Tryz.ntmps202
 obtain ⟨b0, b1, b2, b3⟩ := four hblk.out
 go_wp2_with fail
 generalize (w.alloc (.cells #[.int .i64 3, .int .i64 n, sv s, .slice A 2 c] 58)) = w1 at *
 refine (hlv.out w1).mono ?_
 rintro e w2 ⟨rfl, hb2⟩
 have hblk2 := hblk.out.below hb2 hblk.out.lt
 have hk2 := hk1.out.go hb2
 have hb2 := hid (hb1.out.trans (hb2.mono hb1.out.size))
 clear b0 b1 b2 b3
 go_wp2_with fail
 refine (hlo.out w2).mono ?_
 rintro e w2' ⟨rfl, rfl⟩
 obtain ⟨b0, b1, b2, b3⟩ := four hblk2
 obtain ⟨ad, hA0, _, c0, c1, c2, c3, e0, k0, k1, k2, k3⟩ := hk2.cell 0 (by simp)
 subst hA0
 obtain ⟨ad', hA', _, d0, d1, d2, d3, e1, l0, l1, l2, l3⟩ := hk2.cell 1 (by simp)
 obtain rfl : ad = ad' := Option.some.inj hA'
 have x0 := hk2.kid 0 a rfl
 rw [e0] at x0
 have x1 := hk2.kid 1 b rfl
 rw [e1] at x1
 have p0 : w2.cell? ad = some c0 := k0
 have p1 : w2.cell? ⟨ad.block, ad.off + 1, none⟩ = some c1 := k1
 have p2 : w2.cell? ⟨ad.block, ad.off + 2, none⟩ = some c2 := k2
 have p3 : w2.cell? ⟨ad.block, ad.off + 3, none⟩ = some c3 := k3
 have q0 : w2.cell? ⟨ad.block, ad.off + 4, none⟩ = some d0 := l0
 have q1 : w2.cell? ⟨ad.block, ad.off + 4 + 1, none⟩ = some d1 := l1
 have q2 : w2.cell? ⟨ad.block, ad.off + 4 + 2, none⟩ = some d2 := l2
 have q3 : w2.cell? ⟨ad.block, ad.off + 4 + 3, none⟩ = some d3 := l3
 replace p0 := cell_regrown p0
 replace p1 := cell_regrown p1
 replace p2 := cell_regrown p2
 replace p3 := cell_regrown p3
 replace q0 := cell_regrown q0
 replace q1 := cell_regrown q1
 replace q2 := cell_regrown q2
 replace q3 := cell_regrown q3
 replace b1 := cell_regrown b1
 replace b3 := cell_regrown b3
 have cA := hid (fun (d : Nat) (os : Array Obj) => Calls.regrown_of (d := d) (os := os) (hA.out _ (grow (redrawn w2 d) os) (hp.out _ (hb2.out.trans ((below_regrown w2 d os).mono hb2.out.size))) (x0.go (below_regrown w2 d os))))
 have cB := hid (fun (d : Nat) (os : Array Obj) => Calls.regrown_of (d := d) (os := os) (hB.out _ (grow (redrawn w2 d) os) (hp.out _ (hb2.out.trans ((below_regrown w2 d os).mono hb2.out.size))) (x1.go (below_regrown w2 d os))))
 have cS := hid (fun (d : Nat) (os : Array Obj) => Calls.regrown_of (d := d) (os := os) (hsy.out (grow (redrawn w2 d) os)))
 clear hA hB hsy x0 x1 e0 e1 k0 k1 k2 k3 l0 l1 l2 l3 hk2 hblk2 hA' b0 b2 hlv hlo hp
 go_wp2_with fail
 refine wp_region_quiet_below (by kernel_rfl) (by kernel_rfl) ?_
 repeat (go_big_quiet_step (first | with_reducible exact cA.out _ _ | with_reducible exact cB.out _ _ | with_reducible exact cS.out _ _))
 refine wpQuiet_nil ?_
 intro _ hw'
 obtain ⟨⟨dq, osq⟩, hw''⟩ := hw'
 subst hw''
 have hq := hid (below_regrown w2 dq osq)
 clear b1 b3 p0 p1 p2 p3 q0 q1 q2 q3 cA cB cS
 generalize grow (redrawn w2 dq) osq = wq at *
 go_wp2_with fail
 go_ret
 refine ⟨?_, hb2.out.trans (hq.out.mono hb2.out.size)⟩
 show Ending.returned (.string (⟨xa.toArray⟩ ++ ⟨[32].toArray⟩ ++ ⟨xs.toArray⟩ ++ ⟨[32].toArray⟩ ++ ⟨xb.toArray⟩)) = _
 rw [bapp, bapp, bapp, bapp]
theorem fld1 (F G : FuncId) (w : World) : (Instr.field FMT (fn2 F G) 1).run Tryz.prog w = .ok (.func (Fn.func G) #[] #[]) w := by kernel_rfl
abbrev FindsV (k : Int) (v : Value) : Prop := ∀ (b : Nat) (wx : World), KMap wx b fmtsL → (Instr.lookup MFT (.map (some b)) (.int .i64 k) false).run Tryz.prog wx = .ok v wx
theorem valid_by (k n : Int) (s : List UInt8) (A : Option Addr) (l c : Nat) (w : World) (F G : FuncId) (x : List UInt8) (hcf : ∀ args w, (callFunc G args).run Tryz.prog w = .ok (.enter G args) w) (hl : FindsV k (fn2 F G))
  (hF : ∀ w', Below w.heap.size w w' → Calls Tryz.prog G #[nv k n s A l c] w' fun e w2 => e = .returned (sv x) ∧ Below w'.heap.size w' w2) : Calls Tryz.prog 144 #[nv k n s A l c] w fun e w' => e = .returned (sv x) ∧ Below w.heap.size w w' := by
 have hb1 := hid (box_below w (.cells #[.int .i64 k, .int .i64 n, sv s, .slice A l c] 58))
 have hblk := hid (box_blk w k n s A l c 58)
 have hfm := hid (fun w => formatters_any w)
 have hF := hid hF
 have hl := hid hl
 have hfd := fun w => fld1 F G w
 go_enter Tryz.func144, Tryz.ntmps144
 go_wp2_with fail
 generalize (w.alloc (.cells #[.int .i64 k, .int .i64 n, sv s, .slice A l c] 58)) = w1 at *
 obtain ⟨k0, k1, k2, k3⟩ := four hblk.out
 go_region_held3 (fun w' => w'.cell? ⟨w.heap.size, 0, none⟩ = some (.int .i64 k) ∧ w'.cell? ⟨w.heap.size, 1, none⟩ = some (.int .i64 n) ∧ w'.cell? ⟨w.heap.size, 2, none⟩ = some (sv s) ∧ w'.cell? ⟨w.heap.size, 3, none⟩ = some (.slice A l c)) (first | (exact q1) | (exact q2) | go_keep)
  (first
   | (go_at_call 180; refine (hfm.out _).mono ?_; rintro e w2 ⟨rfl, hk, hb⟩; have hlk := hl.out w1.heap.size w2 hk; have B2 := hid (hb1.out.trans (((Below.refl w1.heap.size w1).drew.trans hb).mono hb1.out.size)); have bx := hid (hblk.out.below ((Below.refl w1.heap.size w1).drew.trans hb) hblk.out.lt); have q1 := four bx.out; clear hb)
   | (refine (hF.out _ B2.out).mono ?_; rintro e w3 ⟨rfl, hb⟩; have B3 := hid (B2.out.trans (hb.mono B2.out.size)); have q2 := four (bx.out.below hb bx.out.lt); clear hb))
 clear q1 q2 hk k0 k1 k2 k3
 go_wp2_with fail
 go_ret
 exact ⟨rfl, B3.out⟩
theorem fvalid_any (t : T) : FvS t := by
 induction t using T.ind with
 | h k n s ks ih =>
  intro v w hp hall hlen hv
  obtain ⟨A, c, vs, rfl, hs, hl, hk⟩ := hv.kids
  have hnode : nodeB k n s ks.length = true := by rw [allT_mk, Bool.and_eq_true] at hall; exact hall.2
  rcases node_cases hnode with rfl | rfl | ⟨rfl, a, b, rfl⟩ | ⟨rfl, a, rfl⟩
  ·rw [txt7_1]
   unfold nodeB at hnode
   rw [if_pos rfl, Bool.and_eq_true] at hnode
   exact valid_by 1 n s A ks.length c w _ _ _ (fun _ _ => by kernel_rfl) (fun b wx h => (look1 h).2) fun w' h => fconst n s A ks.length c w' (hp.below h) (C3.isW_iff.1 hnode.1)
  ·rw [txt7_2]
   exact valid_by 2 n s A ks.length c w _ _ _ (fun _ _ => by kernel_rfl) (fun b wx h => (look2 h).2) fun w' h => fvar n s A ks.length c w'
  ·exact valid_by 3 n s A 2 c w _ _ _ (fun _ _ => by kernel_rfl) (fun b wx h => (look3 h).2) fun w' h => fopn n s a b (fun l => operand_any a (ih a (by simp)) l) (fun l => operand_any b (ih b (by simp)) l) (allT_2 hall).1 (allT_2 hall).2 hlen A c vs w' (hp.below h) (hk.go h)
  ·exact valid_by 4 n s A 1 c w _ _ _ (fun _ _ => by kernel_rfl) (fun b wx h => (look4 h).2) fun w' h => fnot n s a (operand_any a (ih a (by simp)) 6) (allT_1 hall) hlen A c vs w' (hp.below h) (hk.go h)
theorem iformat_any (t : T) (v : Value) (w : World) (hp : L1b.Pow w) (hv : Ex w w.heap.size v t) : Calls Tryz.prog 108 #[v] w fun e w' => e = .returned (sv (fmtX t)) ∧ Below w.heap.size w w' := by
 obtain ⟨k, n, s, ks⟩ := t
 obtain ⟨A, c, vs, rfl, hs, hl, hk⟩ := hv.kids
 have hb1 := box_below w (.cells #[.int .i64 k, .int .i64 n, sv s, .slice A ks.length c] 58)
 have hblk := hid (box_blk w k n s A ks.length c 58)
 have hv1 := hid (hv.go hb1)
 replace hb1 := hid hb1
 have hp := hid (fun w' (h : Below w.heap.size w w') => hp.below h)
 generalize hT : T.mk k n s ks = t at *
 have hck := hid (ivalidE t _ _ hv1.out)
 clear hk hv
 go_enter Tryz.func108, Tryz.ntmps108
 obtain ⟨b0, b1, b2, b3⟩ := four hblk.out
 go_wp2_with fail
 generalize (w.alloc (.cells #[.int .i64 k, .int .i64 n, sv s, .slice A ks.length c] 58)) = w1 at *
 refine hck.out.mono ?_
 rintro e w2 ⟨rfl, hb2⟩
 have hblk2 := hblk.out.below hb2 hblk.out.lt
 clear b0 b1 b2 b3
 obtain ⟨b0, b1, b2, b3⟩ := four hblk2
 have hv2 := hv1.out.go hb2
 replace hb2 := hid (hb1.out.trans (hb2.mono hb1.out.size))
 clear hck hblk2
 cases hok : okT t with
 | true =>
  have h1 := ok_parts hok
  have hlen := txt7_len t h1.2
  have hf := hid (show fmtX t = txtT7 t by unfold fmtX; rw [if_pos hok])
  have hcl := hid (fvalid_any t _ _ (hp.out _ hb2.out) h1.2 (by omega) hv2)
  clear hv2 h1 hlen hok hp
  go_wp2_with fail
  refine hcl.out.mono ?_
  rintro e w3 ⟨rfl, hb3⟩
  replace hb3 := hid (hb2.out.trans (hb3.mono hb2.out.size))
  go_wp2_with fail
  go_ret
  exact ⟨by rw [hf.out]; rfl, hb3.out⟩
 | false =>
  have hf := hid (show fmtX t = [] by unfold fmtX; rw [if_neg (by rw [hok]; simp)])
  clear hv2 hok hp
  go_wp2_with fail
  go_ret
  exact ⟨by rw [hf.out]; rfl, hb2.out⟩
end Go.Proofs.YtiogceepjffmkaaGreatDoor.Tk
